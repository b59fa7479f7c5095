/- Layer 12 (quote): the reader takes a byte where it is told so, and goes a step: contracts. -/
import Derived.Test.YtggiebpjmihpiaaQuoteLook
namespace Go.Proofs.Ytggiebpjmihpiaa
open Go.RowKit

theorem own_below {w w' : World} {base n : Nat} {t : TypeId} {v : Value} {xs : List Value} (h : w.ownsRow base t 1 v n xs) (hb : Below w.heap.size w w') : w'.ownsRow base t 1 v n xs := by
  refine ⟨h.1, h.2.imp_right ?_⟩
  rintro ⟨g, cap, cur, e, h1, h2, h3⟩
  exact ⟨g, cap, cur, e, h1, (hb.block g (Array.getElem?_eq_some_iff.1 h2).1).trans h2, h3⟩
/-- A reader that lies in block q: the text s, how far it came, what it has read. -/
def RAt (w : World) (q : Nat) (s : ByteArray) (a : Nat) (l : List UInt8) : Prop :=
  ∃ v, w.rowIs q 32 3 (rd s a v) ∧ w.ownsRow (q + 1) 5 1 v l.length (bts l)
theorem RAt.below {w w' : World} {q : Nat} {s : ByteArray} {a : Nat} {l : List UInt8} (h : RAt w q s a l) (hb : Below w.heap.size w w') : RAt w' q s a l := by
  obtain ⟨v, h1, h2⟩ := h
  exact ⟨v, h1.of_block (hb.block q h1.lt), own_below h2 hb⟩
theorem RAt.lt {w : World} {q : Nat} {s : ByteArray} {a : Nat} {l : List UInt8} (h : RAt w q s a l) : q < w.heap.size := h.choose_spec.1.lt
theorem RAt.own_apart {w : World} {q n : Nat} {t : TypeId} {v : Value} {xs : List Value} (h : w.ownsRow (q + 1) t 1 v n xs) : v.ownBlock ≠ some q := fun e => by
  have := (h.lt _ e).1
  omega
theorem drewN_below (w : World) (n : Nat) : Below w.heap.size w (w.drewN n) := below_drewN (Below.refl _ w) n
theorem txt_left (s : ByteArray) (a : Nat) : txt (s.extract a s.size) = left s a := by
  rw [txt_extract]
  exact List.take_of_length_le (by rw [List.length_drop, txt_len]; omega)
theorem made_four (W : World) : (Instr.makeSlice 30 (.int .i64 0) (.int .i64 4)).run Try.prog W = .ok (.slice (some ⟨W.heap.size, 0, none⟩) 0 4) (W.alloc (.cells (madeCells #[.int .u8 0] 4) 5)) := by
  obtain ⟨i0, hi0, hz0, hz1, hz2⟩ := info_parts byte_info
  have := run_make (P := Try.prog) W 30 5 i0 (.int .u8 0) Try.underlying30 hi0 hz0 .i64 .i64 0 4 (by omega) (by omega) (by rw [hz2]; omega) (by omega)
  rw [hz1, Nat.mul_one, show (Value.int .u8 0).cells = #[.int .u8 0] from rfl] at this
  exact this
theorem own_made (w : World) : (w.alloc (.cells (madeCells #[.int .u8 0] 4) 5)).ownsRow w.heap.size 5 1 (.slice (some ⟨w.heap.size, 0, none⟩) 0 4) ([] : List UInt8).length (bts []) :=
  World.ownsRow_made w _ _ (Nat.le_refl _) (by unfold maxLen; omega) (by rw [size_madeCells])
/-- What take has told, and where the reader stands behind that. -/
theorem take_told {w w2 : World} {q : Nat} {s : ByteArray} {a : Nat} {l r : List UInt8} {v1 : Value} {base : Nat} (h : RAt w q s a l) (ha : a ≤ s.size) (hb2 : Below w.heap.size w w2) (ho : w2.ownsRow base 5 1 v1 r.length (bts r)) {k : Bool} (hk : decide (r <+: left s a) = k) :
    ∃ v x : _, (∀ n, (w2.drewN n).cell? ⟨q, 0, none⟩ = some (.string s)) ∧ (∀ n, (w2.drewN n).cell? ⟨q, 1, none⟩ = some (.int .i64 a)) ∧ w2.rowIs q 32 3 (rd s a v) ∧ w2.ownsRow (q + 1) 5 1 v l.length (bts l) ∧
      (∀ W, (Instr.slice 9 (.string s) (some (.int .i64 (a : Int))) none none).run Try.prog W = .ok (.string x) W) ∧ (∀ n, (convert 30 9 v1).run Try.prog (w2.drewN n) = .ok (.string (mkT r)) (w2.drewN n)) ∧
      ∀ W, Calls Try.prog 21 #[.string x, .string (mkT r)] W fun e w' => e = .returned (.bool k) ∧ W = w' := by
  obtain ⟨v, h1, h2⟩ := h.below hb2
  refine ⟨v, s.extract a s.size, fun n => World.rowIs.cell (row_drewN h1 n) (i := 0) (by omega), fun n => World.rowIs.cell (row_drewN h1 n) (i := 1) (by omega), h1, h2, fun W => str_high W s ha, fun n => conv_own (w := w2.drewN n) rfl ho, fun W => prefix_is W _ _ ?_⟩
  rw [txt_left]
  exact hk

set_option maxHeartbeats 1000000 in
theorem take_no (w : World) {q : Nat} {s : ByteArray} {a : Nat} {l : List UInt8} (c : UInt8) (h : RAt w q s a l) (ha : a ≤ s.size) (hn : ¬ part c <+: left s a) : Calls Try.prog 19 #[.pointer (some ⟨q, 0, none⟩), .int .u8 (c.toNat : Int)] w fun e w' => e = .returned (.bool false) ∧ Below w.heap.size w w' := by
  have hmk := made_four
  have HP := Lib.hid (put_is (w.alloc (.cells (madeCells #[.int .u8 0] 4) 5)) (base := w.heap.size) c (own_made w) (by simp) (by simp) rfl)
  have HN := Lib.hid (decide_eq_false hn)
  have HR := Lib.hid h
  have B0 := Lib.hid ((Below.refl w.heap.size w).alloc (Nat.le_refl _) (.cells (madeCells #[.int .u8 0] 4) 5))
  clear h hn
  go_enter Try.func19, Try.ntmps19
  go_wp2_with fail
  refine HP.out.mono ?_
  rintro e w2 ⟨v1, rfl, ho, hb⟩
  have HB2 := Lib.hid (B0.out.trans hb)
  obtain ⟨v, x, c0, c1, -, -, hsl, hcv, hpr⟩ := take_told HR.out ha HB2.out ho HN.out
  have HPR := Lib.hid hpr
  clear ho hb hpr ha hmk
  have c00 := c0 0
  have c10 := c1 0
  go_wp2_with fail
  go_quiet (first
    | (go_at_call 21; exact quiet_eq (HPR.out _)))
  go_wp2
  go_ret
  exact ⟨rfl, HB2.out.trans ((drewN_below w2 nq).mono HB2.out.size)⟩

set_option maxHeartbeats 1000000 in
theorem take_yes (w : World) {q : Nat} {s : ByteArray} {a : Nat} {l : List UInt8} (c : UInt8) (h : RAt w q s a l) (ha : a ≤ s.size) (hs : s.size ≤ 4096) (hl : l.length ≤ 4096) (hy : part c <+: left s a) : Calls Try.prog 19 #[.pointer (some ⟨q, 0, none⟩), .int .u8 (c.toNat : Int)] w fun e w' => e = .returned (.bool true) ∧ RAt w' q s (a + (part c).length) (l ++ [c]) ∧ Below q w w' := by
  obtain ⟨i0, hi, hz0, hz1, hz2⟩ := info_parts byte_info
  have hmk := made_four
  have hqs := h.lt
  have hla := hy.length_le
  rw [List.length_drop, txt_len] at hla
  obtain ⟨r, hr⟩ : ∃ r, part c = r := ⟨_, rfl⟩
  rw [hr] at hy hla ⊢
  have HP := Lib.hid (put_is (w.alloc (.cells (madeCells #[.int .u8 0] 4) 5)) (base := w.heap.size) c (own_made w) (by simp) (by simp) hr)
  have HN := Lib.hid (decide_eq_true hy)
  have HR := Lib.hid h
  have B0 := Lib.hid ((Below.refl w.heap.size w).alloc (Nat.le_refl _) (.cells (madeCells #[.int .u8 0] 4) 5))
  have hr1 : 1 ≤ r.length := by rw [← hr]; exact (part_ne c).1
  obtain ⟨m, hm⟩ : ∃ m, r.length = m := ⟨_, rfl⟩
  obtain ⟨j, hj⟩ : ∃ j, a + m = j := ⟨_, rfl⟩
  obtain ⟨y, hyc⟩ : ∃ y, c.toNat = y := ⟨_, rfl⟩
  have HY := Lib.hid hyc
  have hw : IntKind.i64.wrap ((a : Int) + (m : Int)) = (j : Int) := by rw [IntKind.wrap_i64]; omega
  rw [hm] at hr1 hla ⊢
  rw [hj]
  rw [hyc] at HP ⊢
  clear h hy hr hyc hj
  go_enter Try.func19, Try.ntmps19
  go_wp2_with fail
  refine HP.out.mono ?_
  rintro e w2 ⟨v1, rfl, ho, hb⟩
  have HB2 := Lib.hid (B0.out.trans hb)
  obtain ⟨v, x, c0, c1, hrow, hown, hsl, hcv, hpr⟩ := take_told HR.out ha HB2.out ho HN.out
  have HPR := Lib.hid hpr
  rw [List.nil_append, hm] at ho
  obtain ⟨g, cap, rfl⟩ := own_some ho (by omega)
  have hs2 := HB2.out.size
  have HROW := Lib.hid hrow
  have HOWN := Lib.hid hown
  have hapart := RAt.own_apart hown
  clear ho hb hpr ha hmk hrow hown
  have c00 := c0 0
  have c10 := c1 0
  go_wp2_with fail
  go_quiet (first
    | (go_at_call 21; exact quiet_eq (HPR.out _)))
  have e0 : (w2.drewN nq).cell? ⟨q, 1, none⟩ = some (.int .i64 a) := c1 nq
  have HR3 : Hid ((w2.drewN nq).rowIs q 32 3 (rd s a v)) := row_drewN HROW.out nq
  have f1 : (w2.drewN nq).frozen? ⟨q, 1, none⟩ = false := HR3.out.frozen 1
  clear c0 c1 c00 c10 hsl hcv
  have HR4 : Hid (((w2.drewN nq).setCell ⟨q, 1, none⟩ (.int .i64 j)).rowIs q 32 3 (rd s j v)) := (HR3.out.set 1 (.int .i64 j)).congr fun i hi => by
    match i, hi with
    | 0, _ => rfl
    | 1, _ => rfl
    | 2, _ => rfl
  have HO4 : Hid (((w2.drewN nq).setCell ⟨q, 1, none⟩ (.int .i64 j)).ownsRow (q + 1) 5 1 v l.length (bts l)) := ownsRow_setCell_other (show (w2.drewN nq).ownsRow (q + 1) 5 1 v l.length (bts l) from HOWN.out) (a := ⟨q, 1, none⟩) hapart _
  have HB4 : Hid (Below q w ((w2.drewN nq).setCell ⟨q, 1, none⟩ (.int .i64 j))) := (below_drewN (Below.mono (B' := q) HB2.out (by omega)) nq).setCell (p := ⟨q, 1, none⟩) (Nat.le_refl _) _
  go_upto_region 5 with fail
  generalize (w2.drewN nq).setCell ⟨q, 1, none⟩ (.int .i64 j) = w4 at *
  have c2 : w4.cell? ⟨q, 2, none⟩ = some v := HR4.out.cell (i := 2) (by omega)
  have hq4 := HR4.out.lt
  go_wp2_with (at_builtin; refine wpList_append_own _ rfl _ _ 30 rfl (q + 1) 5 i0 (.int .u8 0) 1 1 Try.underlying30 hi hz0 hz1 hz2 rfl (by decide) _ _ _ rfl (HO4.out.alloc _) ⟨w4.heap.size, 0, none⟩ 1 1 [.int .u8 y] rfl rfl ?c1 ?c2 ?c3 ?c4 ?c5 ?_)
  case c1 =>
    intro j u hj
    match j, hj with
    | 0, hj => simp at hj; subst hj; simp [Addr.add]
  case c2 => intro u hu; simp at hu; subst hu; rfl
  case c3 => unfold maxLen; omega
  case c4 => omega
  case c5 => simp; omega
  intro v5 w5 hown5 hgrow5 _
  have hr5 : w5.rowIs q 32 3 (rd s j v) := row_grown (HR4.out.alloc _) hgrow5 fun e => hapart e.symm
  have f2 : w5.frozen? ⟨q, 2, none⟩ = false := hr5.frozen 2
  have c3 : w5.cell? ⟨q, 2, none⟩ = some v := hr5.cell (i := 2) (by omega)
  have HB5 : Hid (Below q w w5) := Below.grown (HB4.out.alloc (by omega) _) hgrow5 (by simp; omega) (fun k hk => by have := (HO4.out.lt _ hk).1; omega)
  have HR5 := Lib.hid hr5
  obtain ⟨g5, cap5, rfl⟩ := own_some hown5 (by omega)
  have HO5 := Lib.hid hown5
  clear hr5 hown5 hgrow5
  go_wp2
  go_ret
  refine ⟨rfl, ⟨.slice (some ⟨g5, 0, none⟩) (l.length + 1) cap5, (HR5.out.set 2 _).congr fun i hi => ?_, ?_⟩, HB5.out.setCell (p := ⟨q, 2, none⟩) (Nat.le_refl _) _⟩
  · match i, hi with
    | 0, _ => rfl
    | 1, _ => rfl
    | 2, _ => rfl
  · refine ownsRow_setCell_other (own_more (m := [c]) (n := 1) rfl ?_) (a := ⟨q, 2, none⟩) (RAt.own_apart HO5.out) _
    have e : bts [c] = [.int .u8 (c.toNat : Int)] := rfl
    rw [e, HY.out]
    exact HO5.out

/-! ### step -/
/-- The byte that a step asks for. -/
def cand (r : List UInt8) : Nat → UInt8
  | 0 => nth r 0
  | 1 => nth r 1
  | _ => numB (nth r 2) (nth r 3)
theorem cand_all {r : List UInt8} (h : ∀ j, j < 3 → ¬ part (cand r j) <+: r) (c : UInt8) : ¬ part c <+: r := fun hc => by
  rcases part_three hc with e | e | e
  · exact h 0 (by omega) (by show part (nth r 0) <+: r; rw [← e]; exact hc)
  · exact h 1 (by omega) (by show part (nth r 1) <+: r; rw [← e]; exact hc)
  · exact h 2 (by omega) (by show part (numB (nth r 2) (nth r 3)) <+: r; rw [← e]; exact hc)
theorem ask_is {F q a : Nat} {s : ByteArray} {l : List UInt8} {W0 : World} (ha : a ≤ s.size) (hs : s.size ≤ 4096) {T : TypeId} {k : Nat} (hk : k < 3)
    (hF : W0.rowIs F T 3 fun j => match j with
      | 0 => .func (.func 16) #[.pointer (some ⟨q, 0, none⟩)] #[]
      | 1 => .func (.func 17) #[.pointer (some ⟨q, 0, none⟩)] #[]
      | _ => .func (.func 18) #[.pointer (some ⟨q, 0, none⟩)] #[]) :
    ∃ fid, W0.cell? ⟨F, k, none⟩ = some (.func (.func fid) #[.pointer (some ⟨q, 0, none⟩)] #[]) ∧ (∀ (args : Array Value) (W : World), (callFunc fid args).run Try.prog W = .ok (.enter fid args) W) ∧
      ∀ W, RAt W q s a l → Calls Try.prog fid #[.pointer (some ⟨q, 0, none⟩)] W fun e w' => e = .returned (.int .u8 ((cand (left s a) k).toNat : Int)) ∧ ∃ n, w' = W.drewN n := by
  have hc := hF.cell hk
  match k, hk with
  | 0, _ => exact ⟨_, hc, enter_any Try.func16 (by kernel_rfl) rfl, fun W ⟨v, h, _⟩ => itself_is W h ha hs rfl⟩
  | 1, _ => exact ⟨_, hc, enter_any Try.func17 (by kernel_rfl) rfl, fun W ⟨v, h, _⟩ => escaped_is W h ha hs rfl⟩
  | 2, _ => exact ⟨_, hc, enter_any Try.func18 (by kernel_rfl) rfl, fun W ⟨v, h, _⟩ => numbered_is W h ha hs rfl⟩

set_option maxHeartbeats 1000000 in
theorem step_is (w : World) {q : Nat} {s : ByteArray} {a : Nat} {l : List UInt8} (h : RAt w q s a l) (ha : a ≤ s.size) (hs : s.size ≤ 4096) (hl : l.length ≤ 4096) : Calls Try.prog 12 #[.pointer (some ⟨q, 0, none⟩)] w fun e w' => ∃ k, e = .returned (.bool k) ∧ Below q w w' ∧ (k = true → ∃ c, part c <+: left s a ∧ RAt w' q s (a + (part c).length) (l ++ [c])) ∧ (k = false → (∀ c, ¬ part c <+: left s a) ∧ RAt w' q s a l) := by
  have HR := Lib.hid h
  have hq := h.lt
  have HF0 := Lib.hid ((World.rowIs_alloc w #[.func (.func 16) #[.pointer (some ⟨q, 0, none⟩)] #[], .func (.func 17) #[.pointer (some ⟨q, 0, none⟩)] #[], .func (.func 18) #[.pointer (some ⟨q, 0, none⟩)] #[]] 37 (fun j => match j with
      | 0 => .func (.func 16) #[.pointer (some ⟨q, 0, none⟩)] #[]
      | 1 => .func (.func 17) #[.pointer (some ⟨q, 0, none⟩)] #[]
      | _ => .func (.func 18) #[.pointer (some ⟨q, 0, none⟩)] #[])) fun i hi => by
    match i, hi with
    | 0, _ => rfl
    | 1, _ => rfl
    | 2, _ => rfl)
  have HB0 := Lib.hid fun o => (Below.refl w.heap.size w).alloc (Nat.le_refl _) o
  have hmf : ∀ (fn : Fn) (first cap : Array Value) (w : World), (Instr.makeFunc fn first cap).run Try.prog w = .ok (.func fn first cap) w := fun _ _ _ _ => rfl
  obtain ⟨F, hFe⟩ : ∃ F, w.heap.size = F := ⟨_, rfl⟩
  rw [hFe] at hq HF0 HB0
  have HFE := Lib.hid hFe
  clear h
  go_enter Try.func12, Try.ntmps12
  go_wp2_with fail
  clear hFe
  go_loopw [13] (fun i wr => ∃ k : Nat, k ≤ 3 ∧ i = .int .i64 k ∧ Below F w wr ∧ (wr.rowIs F 37 3 fun j => match j with
      | 0 => .func (.func 16) #[.pointer (some ⟨q, 0, none⟩)] #[]
      | 1 => .func (.func 17) #[.pointer (some ⟨q, 0, none⟩)] #[]
      | _ => .func (.func 18) #[.pointer (some ⟨q, 0, none⟩)] #[]) ∧ Hid (∀ j, j < k → ¬ part (cand (left s a) j) <+: left s a)) (fun i _ => 3 - (RowKit.intOf i).toNat)
  case atStart => exact ⟨0, by omega, rfl, HB0.out _, HF0.out, fun j hj => absurd hj (by omega)⟩
  case round =>
    obtain ⟨k, hk, rfl, hb, hF, HN⟩ := hrel
    have HRR := Lib.hid (HR.out.below (by rw [HFE.out]; exact hb))
    by_cases hk3 : k < 3
    · obtain ⟨fid, hc, hE, hA⟩ := ask_is (l := l) ha hs hk3 hF
      have HA := Lib.hid (hA wr HRR.out)
      have HFR := Lib.hid hF
      have HBR := Lib.hid hb
      have hki : 0 ≤ (k : Int) ∧ (k : Int) < 3 := by omega
      obtain ⟨c, hcd⟩ : ∃ c, cand (left s a) k = c := ⟨_, rfl⟩
      rw [hcd] at HA
      clear hA hF hb
      go_wp2_with fail
      refine HA.out.mono ?_
      rintro e w1 ⟨rfl, n, rfl⟩
      by_cases hp : part c <+: left s a
      · have HT := Lib.hid (take_yes (wr.drewN n) c (HRR.out.below (drewN_below wr n)) ha hs hl hp)
        have HP := Lib.hid hp
        clear hp hcd
        go_wp2_with fail
        refine HT.out.mono ?_
        rintro e w2 ⟨rfl, hr2, hb2⟩
        have HR2 := Lib.hid hr2
        have HB2 := Lib.hid ((below_drewN (Below.mono (B' := q) HBR.out (by omega)) n).trans hb2)
        clear hr2 hb2
        go_wp2
        go_ret
        exact ⟨true, rfl, HB2.out, fun _ => ⟨c, HP.out, HR2.out⟩, fun h => by cases h⟩
      · have HT := Lib.hid (take_no (wr.drewN n) c (HRR.out.below (drewN_below wr n)) ha hp)
        have HP := Lib.hid hp
        have HCD := Lib.hid hcd
        clear hp hcd
        go_wp2_with fail
        refine HT.out.mono ?_
        rintro e w2 ⟨rfl, hb2⟩
        have HB2 := Lib.hid hb2
        clear hb2
        go_wp2
        go_roundw
        case rel =>
          have h1 : Below wr.heap.size wr w2 := (drewN_below wr n).trans HB2.out
          refine ⟨k + 1, by omega, by go_num, HBR.out.trans (h1.mono (by have := HFR.out.lt; omega)), HFR.out.of_block (h1.block _ HFR.out.lt), fun j hj => ?_⟩
          by_cases hjk : j = k
          · rw [hjk, HCD.out]; exact HP.out
          · exact HN.out j (by omega)
        case measure => simp [RowKit.intOf]; omega
    · obtain rfl : k = 3 := by omega
      have HBR := Lib.hid hb
      clear hF hb
      go_wp2
      go_ret
      exact ⟨false, rfl, HBR.out.mono (by omega), fun h => by (cases h), fun _ => ⟨cand_all HN.out, HRR.out⟩⟩
end Go.Proofs.Ytggiebpjmihpiaa
