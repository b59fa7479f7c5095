/- Layer 12 (quote): what Text and the document's own one and Text return: contracts. -/
import Derived.Test.YtggiebpjmihpiaaQuotePut
import Derived.Test.YtggiebpjmihpiaaBaseFrom
namespace Go.Proofs.Ytggiebpjmihpiaa
open Go.RowKit

theorem bts_get {l : List UInt8} {j : Nat} (h : j < l.length) : (bts l)[j]? = some (.int .u8 ((l[j]).toNat : Int)) := by
  unfold bts
  rw [List.getElem?_map, List.getElem?_eq_getElem h]
  rfl
theorem addr_to (b j : Nat) : (⟨b, 0, none⟩ : Addr).add j = ⟨b, j, none⟩ := by
  by_cases h : j = 0
  · subst h; rfl
  · simp [Addr.add, h]
/-- The text of bytes that were just laid. -/
theorem conv_new (w : World) (l : List UInt8) (n : Nat) (vs : Array Value) (hn : n = l.length) (hv : vs.toList = bts l) : (convert 30 9 (.slice (some ⟨w.heap.size, 0, none⟩) n n)).run Try.prog (w.alloc (.cells vs 5)) = .ok (.string (mkT l)) (w.alloc (.cells vs 5)) := by
  subst hn
  refine run_convert_bytes_back (P := Try.prog) _ 30 9 5 ⟨w.heap.size, 0, none⟩ _ l Try.underlying30 Try.underlying5 Try.underlying9 fun j hj => ?_
  have e : vs[j]? = some (.int .u8 ((l[j]).toNat : Int)) := by rw [← Array.getElem?_toList, hv, bts_get hj]
  rw [addr_to]
  simp [e]
/-- The text of bytes that a call has made. -/
theorem conv_own {w : World} {base : Nat} {v : Value} {l : List UInt8} {n : Nat} (hn : n = l.length) (h : w.ownsRow base 5 1 v n (bts l)) : (convert 30 9 v).run Try.prog w = .ok (.string (mkT l)) w := by
  subst hn
  rcases h.2 with ⟨rfl, hn⟩ | ⟨g, cap, cur, rfl, hb, hg, _, _, _, hcur⟩
  · obtain rfl : l = [] := List.eq_nil_of_length_eq_zero hn
    rw [run_convert_bytes_string w 30 9 5 none 0 0 Try.underlying30 Try.underlying5 Try.underlying9]
    rfl
  · refine run_convert_bytes_back (P := Try.prog) _ 30 9 5 ⟨g, 0, none⟩ _ l Try.underlying30 Try.underlying5 Try.underlying9 fun j hj => ?_
    have := World.ownsRow.cellAt h j (by omega)
    rw [addr_to, this, bts_get hj]

set_option maxHeartbeats 1000000 in
theorem one_is (w : World) (c : UInt8) {r : List UInt8} (hr : part c = r) : Calls Try.prog 14 #[.int .u8 (c.toNat : Int)] w fun e w' => e = .returned (.string (mkT r)) ∧ Below w.heap.size w w' := by
  have hc : c.toNat < 256 := c.toNat_lt
  have B0 : ∀ vs T, Below w.heap.size w (w.alloc (.cells vs T)) := fun vs T => (Below.refl w.heap.size w).alloc (Nat.le_refl _) _
  have BD := Lib.hid B0
  clear B0
  unfold part at hr
  obtain ⟨n, hn⟩ : ∃ n, c.toNat = n := ⟨_, rfl⟩
  split at hr
  · rename_i h
    have hcv := conv_new w [92, c] 2 #[.int .u8 92, .int .u8 (c.toNat : Int)] rfl rfl
    rw [hr] at hcv
    rw [hn] at h hcv ⊢
    clear hn hc
    rcases h with rfl | rfl
    all_goals
      simp only [Int.cast_ofNat_Int] at hcv
      go_enter Try.func14, Try.ntmps14
      go_wp2
      go_ret
      exact ⟨rfl, BD.out _ _⟩
  · rename_i h'
    split at hr
    · rename_i h
      have hcv := conv_new w [c] 1 #[.int .u8 (c.toNat : Int)] rfl rfl
      rw [hr] at hcv
      rw [hn] at h h' hcv ⊢
      clear hn hc
      have g1 : ((n : Int) == 34) = false := beq_eq_false_iff_ne.2 (by omega)
      have g2 : ((n : Int) == 92) = false := beq_eq_false_iff_ne.2 (by omega)
      have g3 : (32 : Int) ≤ (n : Int) := by omega
      have g4 : (n : Int) ≤ 126 := by omega
      clear h h'
      go_enter Try.func14, Try.ntmps14
      go_wp2
      go_ret
      exact ⟨rfl, BD.out _ _⟩
    · rename_i h
      have hcv : (convert 30 9 (.slice (some ⟨w.heap.size, 0, none⟩) 4 4)).run Try.prog (w.alloc (.cells #[.int .u8 92, .int .u8 120, .int .u8 ((hx (c.toNat / 16)).toNat : Int), .int .u8 ((hx (c.toNat % 16)).toNat : Int)] 5)).drew = .ok (.string (mkT [92, 120, hx (c.toNat / 16), hx (c.toNat % 16)])) (w.alloc (.cells #[.int .u8 92, .int .u8 120, .int .u8 ((hx (c.toNat / 16)).toNat : Int), .int .u8 ((hx (c.toNat % 16)).toNat : Int)] 5)).drew := conv_new w.drew [92, 120, hx (c.toNat / 16), hx (c.toNat % 16)] 4 _ rfl rfl
      rw [hr] at hcv
      rw [hn] at h h' hc hcv ⊢
      clear hn
      have g1 : ((n : Int) == 34) = false := beq_eq_false_iff_ne.2 (by omega)
      have g2 : ((n : Int) == 92) = false := beq_eq_false_iff_ne.2 (by omega)
      obtain ⟨q, hq⟩ : ∃ q, n / 16 = q := ⟨_, rfl⟩
      obtain ⟨t, ht⟩ : ∃ t, n % 16 = t := ⟨_, rfl⟩
      rw [hq, ht] at hcv
      have m3 : (n : Int) / 16 = (q : Int) := by omega
      have m4 : Int.tdiv (n : Int) 16 = (q : Int) := by rw [Int.tdiv_eq_ediv_of_nonneg (by omega)]; exact m3
      have m5 : (n : Int) % 16 = (t : Int) := by omega
      have m6 : Int.tmod (n : Int) 16 = (t : Int) := by rw [Int.tmod_eq_emod_of_nonneg (by omega)]; exact m5
      have hNZ : ¬ (16 : Int) = 0 := by omega
      have hq' : q < 16 := by omega
      have ht' : t < 16 := by omega
      have x1 : ∀ W, (Instr.index 9 (.string hexT) (.int .u8 (q : Int))).run Try.prog W = .ok (.int .u8 ((hx q).toNat : Int)) W := fun W => hx_index_run W hq'
      have x2 : ∀ W, (Instr.index 9 (.string hexT) (.int .u8 (t : Int))).run Try.prog W = .ok (.int .u8 ((hx t).toNat : Int)) W := fun W => hx_index_run W ht'
      obtain ⟨y, hy⟩ : ∃ y, (hx q).toNat = y := ⟨_, rfl⟩
      obtain ⟨z, hz⟩ : ∃ z, (hx t).toNat = z := ⟨_, rfl⟩
      rw [hy] at x1 hcv
      rw [hz] at x2 hcv
      have hn255 : n ≤ 255 := by omega
      have m1 : IntKind.u8.wrap (n : Int) = (n : Int) := by rw [IntKind.wrap_u8']; omega
      have k1 : IntKind.u8.wrap (q : Int) = (q : Int) := by rw [IntKind.wrap_u8']; omega
      have k2 : IntKind.u8.wrap (t : Int) = (t : Int) := by rw [IntKind.wrap_u8']; omega
      have gg : (¬ (32 : Int) ≤ (n : Int)) ∨ ((32 : Int) ≤ (n : Int) ∧ ¬ (n : Int) ≤ 126) := by omega
      clear h h' hc hq ht hq' ht' hy hz
      rcases gg with g4 | ⟨g4, g5⟩
      all_goals
        go_enter Try.func14, Try.ntmps14
        go_wp2_with fail
        refine wp_region_still_tail 8 (by kernel_rfl) (by kernel_rfl) ?_
        simp only [List.take_succ_cons, List.take_zero, List.drop_succ_cons, List.drop_zero]
        change wpStill _ _ w.drew _ _ _
        repeat still_step
        refine wpStill_nil ?_
        change wpList _ _ _ _ _ w.drew
        go_wp2
        go_ret
        exact ⟨rfl, (below_drewN (Below.refl w.heap.size w) 1).alloc (Nat.le_refl _) _⟩

theorem str_at (W : World) (s : ByteArray) {j : Nat} (h : j < s.size) : (Instr.index 9 (.string s) (.int .i64 (j : Int))).run Try.prog W = .ok (.int .u8 ((byteAt s j).toNat : Int)) W := str_index W s h
/-- What is told of the bytes ahead of a place. -/
def toldL (s : ByteArray) (k : Nat) : List UInt8 := 34 :: ((txt s).take k).flatMap part
theorem toldL_more {s : ByteArray} {k : Nat} (h : k < s.size) : toldL s (k + 1) = toldL s k ++ part (byteAt s k) := by
  unfold toldL
  rw [List.take_succ_eq_append_getElem (show k < (txt s).length from h), List.flatMap_append, byteAt_txt, List.getElem?_eq_getElem (show k < (txt s).length from h)]
  simp
theorem toldL_all (s : ByteArray) : toldL s s.size ++ [34] = textL (txt s) := by
  unfold toldL textL
  rw [← txt_len, List.take_length]
  rfl
theorem toldL_most {s : ByteArray} {k : Nat} (h : k ≤ s.size) : (toldL s k).length ≤ 4 * k + 1 := by
  induction k with
  | zero => exact Nat.le_refl _
  | succ k ih =>
    rw [toldL_more (by omega), List.length_append]
    have := ih (by omega)
    have := (part_ne (byteAt s k)).2
    omega
theorem own_lit {w : World} (x : UInt8) : (w.alloc (.cells #[.int .u8 (x.toNat : Int)] 5)).ownsRow w.heap.size 5 1 (.slice (some ⟨w.heap.size, 0, none⟩) 1 1) 1 (bts [x]) :=
  ⟨rfl, .inr ⟨w.heap.size, 1, _, rfl, Nat.le_refl _, Go.heap_alloc_new w _, Nat.le_refl _, by unfold maxLen; omega, rfl, rfl⟩⟩

set_option maxHeartbeats 1000000 in
theorem text_is (w : World) (s : ByteArray) (hs : s.size ≤ 1000) {S : ByteArray} (hS : mkT (textL (txt s)) = S) : Calls Try.prog 10 #[.string s] w fun e w' => e = .returned (.string S) ∧ Below w.heap.size w w' := by
  obtain ⟨i0, hi, hz0, hz1, hz2⟩ := info_parts byte_info
  have HS := Lib.hid hS
  have HM := Lib.hid fun k (h : k ≤ s.size) => toldL_most (s := s) h
  have HT := Lib.hid (toldL_all s)
  have HO0 := Lib.hid (own_lit (w := w) 34)
  have HB0 := Lib.hid ((Below.refl w.heap.size w).alloc (Nat.le_refl _) (.cells #[.int .u8 34] 5))
  obtain ⟨m, hm⟩ : ∃ m, s.size = m := ⟨_, rfl⟩
  rw [hm] at hs HM HT
  clear hS
  go_enter Try.func10, Try.ntmps10
  go_wp2_with fail
  go_loopw [3, 8] (fun v i wr => ∃ k : Nat, k ≤ m ∧ i = .int .i64 k ∧ wr.ownsRow w.heap.size 5 1 v (toldL s k).length (bts (toldL s k)) ∧ Below w.heap.size w wr) (fun _ i _ => m - (RowKit.intOf i).toNat)
  case atStart => exact ⟨0, Nat.zero_le _, rfl, HO0.out, HB0.out⟩
  case round =>
    obtain ⟨k, hk, rfl, hown, hbw⟩ := hrel
    have hlen := HM.out k hk
    by_cases hp : k < m
    · have hat : ∀ W, (Instr.index 9 (.string s) (.int .i64 (k : Int))).run Try.prog W = .ok (.int .u8 ((byteAt s k).toNat : Int)) W := fun W => str_at W s (by omega)
      have HP := Lib.hid (put_is wr (byteAt s k) hown (by omega) hbw.size rfl)
      have HML := Lib.hid (toldL_more (s := s) (k := k) (by omega))
      have HBW := Lib.hid hbw
      clear hown hbw hlen
      go_wp2_with fail
      refine HP.out.mono ?_
      rintro e w1 ⟨v1, rfl, hown1, hb1⟩
      have HO1 := Lib.hid hown1
      have HB1 := Lib.hid (HBW.out.trans hb1)
      clear hown1 hb1
      go_wp2
      go_roundw
      case rel => exact ⟨k + 1, hp, by go_num, by rw [HML.out]; exact HO1.out, HB1.out⟩
      case measure => simp [RowKit.intOf]; omega
    · obtain rfl : k = m := by omega
      go_wp2_with (at_builtin; refine wpList_append_own _ rfl _ _ 30 rfl w.heap.size 5 i0 (.int .u8 0) 1 1 Try.underlying30 hi hz0 hz1 hz2 rfl (by decide) _ _ _ rfl (hown.alloc _) ⟨wr.heap.size, 0, none⟩ 1 1 [.int .u8 34] rfl rfl ?c1 ?c2 ?c3 ?c4 ?c5 ?_)
      case c1 =>
        intro j u hj
        match j, hj with
        | 0, hj => simp at hj; subst hj; simp [Addr.add]
      case c2 => intro u hu; simp at hu; subst hu; rfl
      case c3 => unfold maxLen; omega
      case c4 => omega
      case c5 => have := hbw.size; simp; omega
      intro v1 w1 hown1 hgrow1 _
      have hb1 : Below w.heap.size w w1 := Below.grown (hbw.alloc hbw.size _) hgrow1 (by have := hbw.size; simp; omega) (fun j hj => (hown.lt _ hj).1)
      have hcv := conv_own (n := (toldL s k ++ [34]).length) (l := toldL s k ++ [34]) rfl (own_more (m := [34]) (n := 1) rfl hown1)
      rw [HT.out, HS.out] at hcv
      clear hown hown1 hgrow1 hbw
      go_wp2
      go_ret
      exact ⟨rfl, hb1⟩

set_option maxHeartbeats 1000000 in
theorem rtext_is (w : World) (s : ByteArray) (hs : s.size ≤ 1000) {S : ByteArray} (hS : mkT (textL (txt s)) = S) : Calls Try.prog 11 #[.string s] w fun e w' => e = .returned (.string S) ∧ Below w.heap.size w w' := by
  have HS := Lib.hid hS
  have HM := Lib.hid fun k (h : k ≤ s.size) => toldL_most (s := s) h
  have HT := Lib.hid (toldL_all s)
  have hcv := conv_new w [34] 1 #[.int .u8 34] rfl rfl
  have HB0 := Lib.hid ((Below.refl w.heap.size w).alloc (Nat.le_refl _) (.cells #[.int .u8 34] 5))
  obtain ⟨m, hm⟩ : ∃ m, s.size = m := ⟨_, rfl⟩
  rw [hm] at hs HM HT
  clear hS
  go_enter Try.func11, Try.ntmps11
  go_wp2_with fail
  go_loopw [3, 4] (fun v i wr => ∃ (k : Nat) (O : ByteArray), k ≤ m ∧ v = .string O ∧ i = .int .i64 k ∧ Hid (O = mkT (toldL s k)) ∧ Below w.heap.size w wr) (fun _ i _ => m - (RowKit.intOf i).toNat)
  case atStart => exact ⟨0, _, Nat.zero_le _, rfl, rfl, rfl, HB0.out⟩
  case round =>
    obtain ⟨k, O, hk, rfl, rfl, HO, hbw⟩ := hrel
    have hlen := HM.out k hk
    have hOs : O.size = (toldL s k).length := by rw [HO.out, mk_size]
    by_cases hp : k < m
    · have hat : ∀ W, (Instr.index 9 (.string s) (.int .i64 (k : Int))).run Try.prog W = .ok (.int .u8 ((byteAt s k).toNat : Int)) W := fun W => str_at W s (by omega)
      obtain ⟨r, hr⟩ : ∃ r, part (byteAt s k) = r := ⟨_, rfl⟩
      have hr4 := (part_ne (byteAt s k)).2
      rw [hr] at hr4
      have HP := Lib.hid fun W => one_is W (byteAt s k) hr
      have HML := Lib.hid (toldL_more (s := s) (k := k) (by omega))
      have hadd : ∀ W, (Op.stringOp .add O (mkT r)).run Try.prog W = .ok (.string (O ++ mkT r)) W := fun W => str_add W (by rw [mk_size r]; omega)
      have HBW := Lib.hid hbw
      have HR := Lib.hid hr
      clear hbw hlen hOs hr hr4
      go_wp2_with fail
      refine (HP.out _).mono ?_
      rintro e w1 ⟨rfl, hb1⟩
      have HB1 := Lib.hid (HBW.out.trans (hb1.mono HBW.out.size))
      clear hb1
      go_wp2
      go_roundw
      case rel => exact ⟨k + 1, _, hp, rfl, by go_num, by show _ = _; rw [HML.out, HR.out, HO.out, mk_append], HB1.out⟩
      case measure => simp [RowKit.intOf]; omega
    · obtain rfl : k = m := by omega
      have hcw := conv_new wr [34] 1 #[.int .u8 34] rfl rfl
      have hadd : ∀ W, (Op.stringOp .add O (mkT [34])).run Try.prog W = .ok (.string (O ++ mkT [34])) W := fun W => str_add W (by rw [mk_size [34], hOs, List.length_singleton]; omega)
      have hfin : O ++ mkT [34] = S := by rw [HO.out, mk_append, HT.out, HS.out]
      have hb1 := hbw.alloc hbw.size (.cells #[.int .u8 34] 5)
      rw [hfin] at hadd
      clear hbw hlen hOs hfin
      go_wp2
      go_ret
      exact ⟨rfl, hb1⟩
end Go.Proofs.Ytggiebpjmihpiaa
