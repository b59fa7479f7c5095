/- Layer 16 (tags): what Of and Hand return, and how tags lie behind Hand: contracts. -/
import Derived.Test.YtiidkfcblnkghaaTagsDo
import Derived.Test.YtiidkfcblnkghaaBaseList
namespace Go.Proofs.Ytiidkfcblnkghaa
open Go.RowKit Go.Maps

/-- What a call has made of numbers. -/
def MadeL (w : World) (l : List Nat) (e : Ending) (w' : World) : Prop := ∃ v, e = .returned v ∧ ListAt w' w.heap.size v l ∧ Below w.heap.size w w'
theorem make_room (c : Nat) (hc : c ≤ 1048576) (W : World) : (Instr.makeSlice 26 (.int .i64 0) (.int .i64 c)).run Try.prog W = .ok (.slice (some ⟨W.heap.size, 0, none⟩) 0 c) (W.alloc (.cells (madeCells #[.int .i64 0] c) 3)) := by
  obtain ⟨i0, hi0, hz0, hz1, hz2⟩ := info_parts int_info
  have := run_make (P := Try.prog) W 26 3 i0 (.int .i64 0) Try.underlying26 hi0 hz0 .i64 .i64 0 c (by omega) (by omega) (by rw [hz2]; omega) (by omega)
  rw [hz1, Nat.mul_one, show (Value.int .i64 0).cells = #[.int .i64 0] from rfl, Int.toNat_natCast] at this
  exact this
theorem own_room (w : World) (c : Nat) (hc : c ≤ 1048576) : (w.alloc (.cells (madeCells #[.int .i64 0] c) 3)).ownsRow w.heap.size 3 1 (.slice (some ⟨w.heap.size, 0, none⟩) 0 c) 0 [] :=
  World.ownsRow_made w _ _ (Nat.le_refl _) (by unfold maxLen; omega) (by rw [size_madeCells, Nat.mul_one])
section
variable {w w' : World} {q n : Nat} {O G : List Nat} {D : DataW Unit}
/-- What the loop of Of keeps. -/
def OfAt (w wr : World) (O : List Nat) (x : Int) (k : Nat) (A : Option Addr) (lp c : Nat) : Prop := wr.ownsRow w.heap.size 3 1 (.slice A lp c) lp (vals (ofK O k x)) ∧ (ofK O k x).length = lp ∧ Below w.heap.size w wr
set_option maxHeartbeats 1600000 in
theorem of_is (h : TagsAt w q n O G) {x : Int} (hx : InInt x) {l : List Nat} (hl : ofV O x = l) : Calls Try.prog 20 #[ptrAt q, .int .i64 x] w (MadeL w l) := by
  obtain ⟨i0, hi0, hz0, hz1, hz2⟩ := info_parts int_info
  have HI := Lib.hid hi0
  have HZ0 := Lib.hid hz0
  have HZ1 := Lib.hid hz1
  have HZ2 := Lib.hid hz2
  obtain ⟨c, hc⟩ : ∃ c, cntV O x = c := ⟨_, rfl⟩
  have HC := Lib.hid (count_is h hx hc)
  obtain ⟨_, _, hsm⟩ := h.len
  obtain ⟨D, hm, _⟩ := h
  have hlo := hm.lo
  have hcn : c ≤ 1048576 := by rw [← hc]; have := cntV_le O x; omega
  have hmk := make_room c hcn
  have HM := Lib.hid hm
  have HLO := Lib.hid hlo
  have HCV := Lib.hid hc
  have HL := Lib.hid hl
  have HW : Hid (OfAt w (w.alloc (.cells (madeCells #[.int .i64 0] c) 3)) O x 0 (some ⟨w.heap.size, 0, none⟩) 0 c) := ⟨own_room w c hcn, rfl, new_below w _⟩
  clear hm hlo hc hl hi0 hz0 hz1 hz2 hx
  unfold ptrAt at HC ⊢
  go_enter Try.func20, Try.ntmps20
  go_wp2_with fail
  refine HC.out.mono ?_
  rintro e w1 ⟨rfl, rfl⟩
  go_wp2_with fail
  generalize w.alloc (.cells (madeCells #[.int .i64 0] c) 3) = wa at *
  clear hmk HC
  go_loopw [6, 7] (fun o i wr => ∃ (k : Nat) (A : Option Addr) (lp cc : Nat), k ≤ n ∧ o = .slice A lp cc ∧ i = .int .i64 k ∧ Hid (OfAt w wr O x k A lp cc)) (fun _ i _ => n - (RowKit.intOf i).toNat)
  case atStart => exact ⟨0, _, 0, c, Nat.zero_le _, rfl, rfl, HW⟩
  case round =>
    clear HW
    obtain ⟨k, A, lp, cc, hk, rfl, rfl, HO⟩ := hrel
    by_cases hlt : lp < c
    · have hkn : k < n := by
        have := ofK_lt (x := x) (show k ≤ O.length by have := HLO.out; omega) (by rw [HO.out.2.1, HCV.out]; exact hlt)
        have := HLO.out
        omega
      have hki : 0 ≤ (k : Int) ∧ (k : Int) < (n : Int) := by omega
      obtain ⟨y, hy⟩ : ∃ y, O[k]?.getD 0 = y := ⟨_, rfl⟩
      have hm2 := HM.out.below HO.out.2.2
      have c0 := hm2.c0
      obtain ⟨d0, _⟩ := hm2.own hkn hy
      have hyo : O[k]? = some y := by
        have hk2 : k < O.length := by have := HLO.out; omega
        rw [getD_at hk2] at hy
        rw [List.getElem?_eq_getElem hk2, hy]
      clear hm2 hy
      by_cases hyx : (y : Int) = x
      · by_cases hx0 : 0 < x
        · have HP := Lib.hid (ofK_yes hx0 hyo hyx)
          have hb : ((y : Int) == x) = true := by simp [hyx]
          have HB : Hid (Below w.heap.size w (wr.alloc (.cells #[.int .i64 (k : Int)] 3))) := HO.out.2.2.alloc HO.out.2.2.size _
          clear hyx hyo hx0
          go_wp2_with (at_builtin; refine wpList_append_own _ rfl _ _ 26 rfl w.heap.size 3 i0 (.int .i64 0) 1 8 Try.underlying26 HI.out HZ0.out HZ1.out HZ2.out rfl (by decide) _ _ _ rfl (HO.out.1.alloc _) ⟨wr.heap.size, 0, none⟩ 1 1 [.int .i64 k] rfl rfl (new_one _ _ _) (one_int _ _) (by unfold maxLen; omega) (by omega) HB.out.size ?_; intro v' w4 hown2 hgr2 _)
          have HB5 := Lib.hid (HB.out.grown hgr2 HB.out.size fun j hj => (HO.out.1.lt j hj).1)
          rw [show vals (ofK O k x) ++ [.int .i64 (k : Int)] = vals (ofK O (k + 1) x) by rw [HP.out, vals_append]; rfl] at hown2
          have hl5 : (ofK O (k + 1) x).length = lp + 1 := by rw [HP.out, List.length_append, HO.out.2.1]; rfl
          obtain ⟨A5, c5, rfl, _⟩ := own_len hown2
          have H5 : Hid (OfAt w w4 O x (k + 1) A5 (lp + 1) c5) := ⟨hown2, hl5, HB5.out⟩
          clear hown2 hgr2 hl5 HB5
          go_roundw
          case rel => exact ⟨k + 1, A5, lp + 1, c5, by omega, rfl, by go_num, H5⟩
          case measure => simp [RowKit.intOf]; omega
        · exfalso
          have h1 := HCV.out
          rw [cntV_low (by omega)] at h1
          omega
      · have HP := Lib.hid (ofK_no (k := k) hyo hyx)
        have hb : ((y : Int) == x) = false := by simp [hyx]
        have H5 : Hid (OfAt w wr O x (k + 1) A lp cc) := by
          have e := HP.out
          refine ⟨?_, ?_, HO.out.2.2⟩
          · rw [e]; exact HO.out.1
          · rw [e]; exact HO.out.2.1
        clear hyx hyo
        go_wp2
        go_roundw
        case rel => exact ⟨k + 1, A, lp, cc, by omega, rfl, by go_num, H5⟩
        case measure => simp [RowKit.intOf]; omega
    · go_wp2
      go_ret
      have hle : k ≤ O.length := by have := HLO.out; omega
      have e := ofK_full hle (by rw [HO.out.2.1, HCV.out]; omega)
      rw [HL.out] at e
      have h1 := HO.out.1
      rw [e] at h1
      exact ⟨_, rfl, own_list h1 (by rw [← e]; exact HO.out.2.1.symm), HO.out.2.2⟩
set_option maxHeartbeats 800000 in
theorem of_gone {v : Value} (h : Gone w v) {x : Int} (hx : InInt x) : Calls Try.prog 20 #[v, .int .i64 x] w (MadeL w []) := by
  have HC := Lib.hid (count_gone h hx)
  have hmk : ∀ W : World, (Instr.makeSlice 26 (.int .i64 0) (.int .i64 0)).run Try.prog W = .ok (.slice (some ⟨W.heap.size, 0, none⟩) 0 0) (W.alloc (.cells (madeCells #[.int .i64 0] 0) 3)) := make_room 0 (by omega)
  have HW : Hid (ListAt (w.alloc (.cells (madeCells #[.int .i64 0] 0) 3)) w.heap.size (.slice (some ⟨w.heap.size, 0, none⟩) 0 0) []) := own_list (own_room w 0 (by omega)) rfl
  have HB := Lib.hid (new_below w (.cells (madeCells #[.int .i64 0] 0) 3))
  clear h hx
  go_enter Try.func20, Try.ntmps20
  go_wp2_with fail
  refine HC.out.mono ?_
  rintro e w1 ⟨rfl, rfl⟩
  go_wp2_with fail
  generalize w.alloc (.cells (madeCells #[.int .i64 0] 0) 3) = wa at *
  clear hmk HC
  go_loopw [6, 7] (fun o i wr => o = .slice (some ⟨w.heap.size, 0, none⟩) 0 0 ∧ i = .int .i64 0 ∧ wa = wr) (fun _ _ _ => 0)
  case atStart => exact ⟨rfl, rfl, rfl⟩
  case round =>
    obtain ⟨rfl, rfl, rfl⟩ := hrel
    go_wp2
    go_ret
    exact ⟨_, rfl, HW.out, HB.out⟩

/-! ### Hand -/
theorem hand_not {fr to : Int} (hn : fr < 1 ∨ to < 1 ∨ fr = to) : Calls Try.prog 22 #[ptrAt q, .int .i64 fr, .int .i64 to] w fun e w' => e = .returned (.int .i64 0) ∧ w = w' := by
  by_cases h1 : fr < 1
  · clear hn
    go_enter Try.func22, Try.ntmps22
    go_wp2
    go_ret
    exact ⟨rfl, rfl⟩
  · by_cases h2 : to < 1
    · clear hn
      go_enter Try.func22, Try.ntmps22
      go_wp2
      go_ret
      exact ⟨rfl, rfl⟩
    · obtain rfl : fr = to := by omega
      have hb : (fr == fr) = true := by simp
      clear hn
      go_enter Try.func22, Try.ntmps22
      go_wp2
      go_ret
      exact ⟨rfl, rfl⟩
theorem hand_gone {v : Value} (h : Gone w v) : Calls Try.prog 22 #[v, .int .i64 1, .int .i64 2] w fun e w' => e = .returned (.int .i64 0) ∧ Below w.heap.size w w' := by
  have HO := Lib.hid (of_gone h (x := 1) ⟨by omega, by omega⟩)
  clear h
  go_enter Try.func22, Try.ntmps22
  go_wp2_with fail
  refine HO.out.mono ?_
  rintro e w1 ⟨v1, rfl, l1, b1⟩
  obtain ⟨A, c, rfl, _, _, _⟩ := l1
  have HB := Lib.hid b1
  clear b1 HO
  rw [show ([] : List Nat).length = 0 from rfl]
  go_wp2
  go_ret
  exact ⟨rfl, HB.out⟩
/-- What the loop of Hand keeps. -/
def HandAt (w wr : World) (q n : Nat) (G : List Nat) (D : DataW Unit) (to : Nat) (M l : List Nat) : Prop := ∃ O, MemAt wr q n O G D ∧ setAll O to l = M ∧ Turn (Blk q) w wr
theorem hand_none (h : TagsAt w q n O G) {fr to : Int} (hf : 1 ≤ fr) (hf2 : InInt fr) (ht : 1 ≤ to) (hne : fr ≠ to) (h0 : cntV O fr = 0) : Calls Try.prog 22 #[ptrAt q, .int .i64 fr, .int .i64 to] w fun e w' => e = .returned (.int .i64 0) ∧ Below w.heap.size w w' := by
  have hl : ofV O fr = [] := List.eq_nil_of_length_eq_zero (by rw [ofV_length]; exact h0)
  have HO := Lib.hid (of_is h hf2 hl)
  have hb : (fr == to) = false := by simp [hne]
  have d1 : ¬ fr < 1 := by omega
  have d2 : ¬ to < 1 := by omega
  clear h hl h0 hne hf hf2 ht
  go_enter Try.func22, Try.ntmps22
  go_wp2_with fail
  refine HO.out.mono ?_
  rintro e w1 ⟨v1, rfl, l1, b1⟩
  obtain ⟨A, c, rfl, _, _, _⟩ := l1
  have HB := Lib.hid b1
  clear b1 HO
  rw [show ([] : List Nat).length = 0 from rfl]
  go_wp2
  go_ret
  exact ⟨rfl, HB.out⟩
set_option maxHeartbeats 1600000 in
theorem hand_yes (h : TagsAt w q n O G) {fr to : Nat} (hf : 1 ≤ fr) (hf2 : InInt (fr : Int)) (ht : 1 ≤ to) (ht2 : InInt (to : Int)) (hne : fr ≠ to) {m : Nat} (hm : cntV O (fr : Int) = m) (h0 : 0 < m) :
    Calls Try.prog 22 #[ptrAt q, .int .i64 fr, .int .i64 to] w (StepIn w q n (setAll O to (ofV O (fr : Int))) G (.int .i64 m)) := by
  obtain ⟨l, hl⟩ : ∃ l, ofV O (fr : Int) = l := ⟨_, rfl⟩
  have hll : l.length = m := by rw [← hl, ofV_length, hm]
  have HO := Lib.hid (of_is h hf2 hl)
  obtain ⟨D, hmem, hcf⟩ := h
  obtain ⟨M, hM⟩ : ∃ M, setAll O to l = M := ⟨_, rfl⟩
  have hsz := size_owners hmem.mapp hcf
  have hlo := hmem.lo
  have hsm := hmem.small
  have hml : m ≤ n := by rw [← hm, ← hlo]; exact cntV_le O _
  have hin : ∀ k : Nat, k < m → ∃ i, l[k]? = some i ∧ i < n := fun k hk => by
    have hk2 : k < l.length := by omega
    refine ⟨l[k]'hk2, List.getElem?_eq_getElem hk2, ?_⟩
    have := List.getElem_mem hk2
    rw [← hlo]
    have h2 : l[k]'hk2 ∈ ofV O (fr : Int) := by rw [hl]; exact this
    exact (mem_ofV.1 h2).1
  have HIN := Lib.hid hin
  obtain ⟨c, hc⟩ : ∃ c, cntV O (to : Int) = c := ⟨_, rfl⟩
  have hcl : c ≤ n := by rw [← hc, ← hlo]; exact cntV_le O _
  have hcnt := cntV_handed O (show 0 < fr by omega) (show 0 < to by omega) hne
  rw [hl, hM, hc, hm] at hcnt
  have HC : Hid (∀ x : Int, cntV M x = if x = (fr : Int) then 0 else if x = (to : Int) then c + m else cntV O x) := hcnt
  have HLL := Lib.hid hll
  have HMV : Hid (setAll O to l = M) := hM
  have HCF := Lib.hid hcf
  have HC1 : Hid (cntV O (fr : Int) = m) := hm
  have HC2 : Hid (cntV O (to : Int) = c) := hc
  have HSZ : Hid (Maps.size D ≤ 1048576) := by show _ ≤ _; omega
  have HMEM := Lib.hid hmem
  have HLO := Lib.hid hlo
  have HE : Hid (setAll O to (ofV O (fr : Int)) = M) := by show _ = _; rw [hl]; exact hM
  rw [HE.out]
  have hb : ((fr : Int) == (to : Int)) = false := by simp; omega
  have d1 : ¬ (fr : Int) < 1 := by omega
  have d2 : ¬ (to : Int) < 1 := by omega
  have hz : ((m : Int) == 0) = false := by simp; omega
  have HQL : Hid (q + 2 < w.heap.size) := hmem.head.lt
  clear hcnt hll hM hcf hm hc hsz hmem hlo HE hin hl
  unfold ptrAt at HO ⊢
  go_enter Try.func22, Try.ntmps22
  go_wp2_with fail
  refine HO.out.mono ?_
  rintro e w1 ⟨v1, rfl, l1, b1⟩
  obtain ⟨A, cA, rfl, _, hia, hlo1⟩ := l1
  rw [HLL.out]
  have HIA := Lib.hid hia
  have HLO1 : Hid (∀ b off, A = some ⟨b, off, none⟩ → w.heap.size ≤ b) := hlo1
  have HB1 := Lib.hid b1
  have HK : Hid (HandAt w1 w1 q n G D to M l) := ⟨O, HMEM.out.below b1, HMV.out, Turn.refl _ _⟩
  clear b1 HO HMEM HMV hia hlo1
  go_wp2_with fail
  go_loopw [29] (fun i wr => ∃ k : Nat, k ≤ m ∧ i = .int .i64 k ∧ Hid (HandAt w1 wr q n G D to M (l.drop k))) (fun i _ => m - (RowKit.intOf i).toNat)
  case atStart => exact ⟨0, Nat.zero_le _, rfl, HK⟩
  case round =>
    clear HK
    obtain ⟨k, hk, rfl, HK⟩ := hrel
    by_cases hlt : k < m
    · obtain ⟨i, hli, hin⟩ := HIN.out k hlt
      have hkl : k < l.length := by rw [HLL.out]; exact hlt
      have hil : l[k]'hkl = i := by rw [List.getElem?_eq_getElem hkl] at hli; injection hli
      have hap : Apart (Blk q) (fun b => w.heap.size ≤ b) := fun b h1 h2 => by have := h1.2; have := HQL.out; omega
      obtain ⟨bA, oA, rfl, hcA⟩ := HIA.out.at_ (k := k) (by rw [ints_length]; exact hkl)
      have hbA : w.heap.size ≤ bA := HLO1.out bA oA rfl
      have ei : (ints l)[k]'(by rw [ints_length]; exact hkl) = (i : Int) := by
        unfold ints
        rw [List.getElem_map, hil]
      rw [ei] at hcA
      obtain ⟨O2, hm2, hs2, t2⟩ := HK.out
      have hbl : bA < w1.heap.size := World.block_lt_of_cell? w1 _ hcA
      have hcw : wr.cell? ⟨bA, oA + k, none⟩ = some (.int .i64 i) := (World.cell?_of_block (w := w1) (a := ⟨bA, oA + k, none⟩) ((t2.same hap).block bA hbA hbl)).trans hcA
      have c0 := hm2.c0
      obtain ⟨d0, f0⟩ := hm2.own hin rfl
      have hki : 0 ≤ (k : Int) ∧ (k : Int) < (m : Int) := by omega
      have hii : 0 ≤ (i : Int) ∧ (i : Int) < (n : Int) := by omega
      have hto : to ≤ 9223372036854775807 := by have := ht2.2; omega
      have HK2 : Hid (HandAt w1 (wr.setCell ⟨q, i * 2, none⟩ (.int .i64 to)) q n G D to M (l.drop (k + 1))) := by
        refine ⟨O2.set i to, hm2.setO hin to hto, ?_, t2.trans (Turn.set _ _ _ ⟨by omega, by omega⟩)⟩
        rw [List.drop_eq_getElem_cons hkl, hil] at hs2
        exact hs2
      generalize O2[i]?.getD 0 = y at *
      clear hm2 hs2 t2 ei hcA hli hap hbA hil hkl hin hto hbl HK
      go_wp2
      go_roundw
      case rel => exact ⟨k + 1, by omega, by go_num, HK2⟩
      case measure => simp [RowKit.intOf]; omega
    · obtain rfl : k = m := by omega
      obtain ⟨O2, hm2, hs2, t2⟩ := HK.out
      rw [List.drop_of_length_le (Nat.le_of_eq HLL.out)] at hs2
      have hs3 : O2 = M := hs2
      subst hs3
      have HT := Lib.hid (take_is hm2 HCF.out (g := fun x => if x = (fr : Int) then 0 else cntV O x) hf2 (m := k) (by rw [HC1.out]; exact Nat.le_refl _) (by rw [HC1.out]; exact h0) (by rw [HC1.out]; omega) HSZ.out (by rw [HC1.out, if_pos rfl]; omega) (fun y hy => by rw [if_neg hy]))
      have HT2 := Lib.hid t2
      clear hm2 hs2 t2 HK HCF HIN HIA HLO1
      unfold ptrAt at HT
      go_wp2_with fail
      refine HT.out.mono ?_
      rintro e w3 ⟨rfl, ⟨D3, h3, f3, s3⟩, t3⟩
      have c1 := h3.c1
      have hlk := look_cnt h3.mapp f3 ht2
      rw [if_neg (by omega), HC2.out] at hlk
      obtain ⟨d, hd⟩ : ∃ d, c + k = d := ⟨_, rfl⟩
      have hwr : IntKind.i64.wrap ((c : Int) + (k : Int)) = (d : Int) := by
        rw [IntWalk.i64_in _ (by omega)]; omega
      have HL : Hid (Maps.size D3 < maxLen) := by show _ < _; have := HSZ.out; unfold maxLen; omega
      have HK3 : Hid (keyOf Try.prog 3 (.int .i64 (to : Int)) = some (.int .i64 (to : Int))) := key_int ht2
      have HE : Hid (intE (.int .i64 (d : Int)) = some (.lit (.int .i64 (d : Int)), [])) := intE_mk ⟨by omega, by omega⟩
      have HF : Hid (CntF (D3.put (.int .i64 (to : Int)) (.lit (.int .i64 (d : Int)))) (cntV O2)) := by
        refine f3.put h3.mapp.isMap (by omega) ?_ fun y hy => ?_
        · rw [HC.out, if_neg (by omega), if_pos rfl, hd]
        · rw [HC.out, if_neg hy]
      have H3 := Lib.hid h3
      have T3 := Lib.hid (HT2.out.trans t3)
      clear h3 f3 s3 t3 hd HT HC HC1 HC2
      go_wp2_with (at_mapUpdate; refine wpList_mapUpdate_in _ rfl _ _ _ 44 rfl 3 3 intKey Try.underlying44 intE (q + 1) _ D3 rfl H3.out.mapp HL.out _ _ _ rfl rfl HK3.out _ [] HE.out ?_; intro w4 hown4 hturn4)
      have H4 := Lib.hid (H3.out.turned hown4 hturn4)
      clear hown4 hturn4
      go_wp2
      go_ret
      exact ⟨rfl, ⟨_, H4.out.1, HF.out⟩, ((Turn.of_below _ HB1.out).trans T3.out).trans H4.out.2⟩
theorem hand_is (h : TagsAt w q n O G) {fr to : Int} (hf2 : InInt fr) (ht2 : InInt to) {r : Nat} {M : List Nat} (hr : handE O fr to = r) (hM : handV O fr to = M) :
    Calls Try.prog 22 #[ptrAt q, .int .i64 fr, .int .i64 to] w (StepIn w q n M G (.int .i64 r)) := by
  subst hr hM
  by_cases hn : fr < 1 ∨ to < 1 ∨ fr = to
  · have e1 : handE O fr to = 0 := by unfold handE; rw [if_pos hn]
    have e2 : handV O fr to = O := by unfold handV; rw [if_pos hn]
    rw [e1, e2]
    exact (hand_not hn).mono fun a w' ⟨ha, hw⟩ => by subst hw; exact ⟨ha, h, Turn.refl _ _⟩
  · have e1 : handE O fr to = cntV O fr := by unfold handE; rw [if_neg hn]
    have e2 : handV O fr to = setAll O to.toNat (ofV O fr) := by unfold handV; rw [if_neg hn]
    rw [e1, e2]
    have hf : ¬ fr < 1 := fun e => hn (.inl e)
    have ht : ¬ to < 1 := fun e => hn (.inr (.inl e))
    have hne : fr ≠ to := fun e => hn (.inr (.inr e))
    by_cases h0 : cntV O fr = 0
    · have hl : ofV O fr = [] := List.eq_nil_of_length_eq_zero (by rw [ofV_length]; exact h0)
      rw [h0, hl]
      exact (hand_none h (by omega) hf2 (by omega) hne h0).mono fun a w' ⟨ha, hw⟩ => ⟨ha, h.below hw, .of_below _ hw⟩
    · obtain ⟨a, rfl⟩ := Int.eq_ofNat_of_zero_le (show 0 ≤ fr by omega)
      obtain ⟨b, rfl⟩ := Int.eq_ofNat_of_zero_le (show 0 ≤ to by omega)
      rw [Int.toNat_natCast]
      exact hand_yes h (by omega) hf2 (by omega) ht2 (by omega) rfl (by omega)
end
end Go.Proofs.Ytiidkfcblnkghaa
