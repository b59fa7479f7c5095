/- Layer 16 (tags): the document's Hand: contracts. -/
import Derived.Test.YtiidkfcblnkghaaTagsRDo
import Derived.Deep.RegionWith
namespace Go.Proofs.Ytiidkfcblnkghaa
open Go.RowKit

section
variable {w : World} {T : Nat → Prop} {A B : Option Addr} {O G : List Nat} {n c d : Nat}
set_option maxHeartbeats 800000 in
theorem rhand_no1 (hA : IntsF w T A (ints O)) (hB : IntsF w T B (ints G)) (lO : n = O.length) (hs : n ≤ 1048576) {fr to : Int} (h1 : fr < 1) : Calls Try.prog 21 #[.agg #[.slice A n c, .slice B n d], .int .i64 fr, .int .i64 to] w (DocTo w T n O G 0) := by
  obtain ⟨r0, s0, b0, z0⟩ := duo_start w (.slice A n c) (.slice B n d) (.slice none 0 0) (.slice none 0 0) 28
  have FA := Lib.hid hA
  have FB := Lib.hid hB
  have HOF := Lib.hid (rof_is (c := c) (d := d) (B := B) (hA.keep (.of_below T b0)) lO hs (x := fr) rfl)
  clear hA hB lO
  go_enter Try.func21, Try.ntmps21
  go_upto_region 1 with fail
  generalize (w.alloc (.cells #[.slice A n c, .slice B n d] 28)).alloc (.cells #[.slice none 0 0, .slice none 0 0] 28) = W at *
  obtain ⟨⟨e0, e1⟩, _⟩ := duo_any r0
  have R0 := Lib.hid r0
  have S0 := Lib.hid s0
  have B0 := Lib.hid b0
  clear r0 s0 b0 z0
  go_wp2_with fail
  refine HOF.out.mono ?_
  rintro e w1 ⟨v1, rfl, l1, b1⟩
  have r1 := duo_keep R0.out b1
  have s1 := duo_keep S0.out b1
  clear e0 e1
  obtain ⟨⟨e0, e1⟩, _⟩ := duo_any r1
  obtain ⟨⟨g0, g1⟩, t0, t1⟩ := duo_any s1
  have S1 := Lib.hid s1
  have B1 := Lib.hid (step_below B0.out b1)
  clear r1 s1 l1 b1 HOF
  go_wp2
  refine bodyPost_ret_by (back_duo rfl _ _ (w.heap.size + 1) 28 _ (0, 0) _ rfl (duo_block (duo_all S1.out _ _)) Try.underlying28 rfl (by kernel_rfl) rfl) rfl ?_
  have bl := duo_below B1.out (g := w.heap.size + 1) (by omega) (.slice A n c) (.slice B n d)
  exact ⟨A, c, B, d, rfl, FA.out.keep (.of_below T bl), FB.out.keep (.of_below T bl), bl⟩
set_option maxHeartbeats 800000 in
theorem rhand_no2 (hA : IntsF w T A (ints O)) (hB : IntsF w T B (ints G)) (lO : n = O.length) (hs : n ≤ 1048576) {fr to : Int} (h1 : ¬ fr < 1) (h2 : to < 1) : Calls Try.prog 21 #[.agg #[.slice A n c, .slice B n d], .int .i64 fr, .int .i64 to] w (DocTo w T n O G 0) := by
  obtain ⟨r0, s0, b0, z0⟩ := duo_start w (.slice A n c) (.slice B n d) (.slice none 0 0) (.slice none 0 0) 28
  have FA := Lib.hid hA
  have FB := Lib.hid hB
  have HOF := Lib.hid (rof_is (c := c) (d := d) (B := B) (hA.keep (.of_below T b0)) lO hs (x := fr) rfl)
  clear hA hB lO
  go_enter Try.func21, Try.ntmps21
  go_upto_region 1 with fail
  generalize (w.alloc (.cells #[.slice A n c, .slice B n d] 28)).alloc (.cells #[.slice none 0 0, .slice none 0 0] 28) = W at *
  obtain ⟨⟨e0, e1⟩, _⟩ := duo_any r0
  have R0 := Lib.hid r0
  have S0 := Lib.hid s0
  have B0 := Lib.hid b0
  clear r0 s0 b0 z0
  go_wp2_with fail
  refine HOF.out.mono ?_
  rintro e w1 ⟨v1, rfl, l1, b1⟩
  have r1 := duo_keep R0.out b1
  have s1 := duo_keep S0.out b1
  clear e0 e1
  obtain ⟨⟨e0, e1⟩, _⟩ := duo_any r1
  obtain ⟨⟨g0, g1⟩, t0, t1⟩ := duo_any s1
  have S1 := Lib.hid s1
  have B1 := Lib.hid (step_below B0.out b1)
  clear r1 s1 l1 b1 HOF
  go_wp2
  refine bodyPost_ret_by (back_duo rfl _ _ (w.heap.size + 1) 28 _ (0, 0) _ rfl (duo_block (duo_all S1.out _ _)) Try.underlying28 rfl (by kernel_rfl) rfl) rfl ?_
  have bl := duo_below B1.out (g := w.heap.size + 1) (by omega) (.slice A n c) (.slice B n d)
  exact ⟨A, c, B, d, rfl, FA.out.keep (.of_below T bl), FB.out.keep (.of_below T bl), bl⟩
set_option maxHeartbeats 800000 in
theorem rhand_no3 (hA : IntsF w T A (ints O)) (hB : IntsF w T B (ints G)) (lO : n = O.length) (hs : n ≤ 1048576) {fr to : Int} (h1 : ¬ fr < 1) (h2 : ¬ to < 1) (h3 : (fr == to) = true) : Calls Try.prog 21 #[.agg #[.slice A n c, .slice B n d], .int .i64 fr, .int .i64 to] w (DocTo w T n O G 0) := by
  obtain ⟨r0, s0, b0, z0⟩ := duo_start w (.slice A n c) (.slice B n d) (.slice none 0 0) (.slice none 0 0) 28
  have FA := Lib.hid hA
  have FB := Lib.hid hB
  have HOF := Lib.hid (rof_is (c := c) (d := d) (B := B) (hA.keep (.of_below T b0)) lO hs (x := fr) rfl)
  clear hA hB lO
  go_enter Try.func21, Try.ntmps21
  go_upto_region 1 with fail
  generalize (w.alloc (.cells #[.slice A n c, .slice B n d] 28)).alloc (.cells #[.slice none 0 0, .slice none 0 0] 28) = W at *
  obtain ⟨⟨e0, e1⟩, _⟩ := duo_any r0
  have R0 := Lib.hid r0
  have S0 := Lib.hid s0
  have B0 := Lib.hid b0
  clear r0 s0 b0 z0
  go_wp2_with fail
  refine HOF.out.mono ?_
  rintro e w1 ⟨v1, rfl, l1, b1⟩
  have r1 := duo_keep R0.out b1
  have s1 := duo_keep S0.out b1
  clear e0 e1
  obtain ⟨⟨e0, e1⟩, _⟩ := duo_any r1
  obtain ⟨⟨g0, g1⟩, t0, t1⟩ := duo_any s1
  have S1 := Lib.hid s1
  have B1 := Lib.hid (step_below B0.out b1)
  clear r1 s1 l1 b1 HOF
  go_wp2
  refine bodyPost_ret_by (back_duo rfl _ _ (w.heap.size + 1) 28 _ (0, 0) _ rfl (duo_block (duo_all S1.out _ _)) Try.underlying28 rfl (by kernel_rfl) rfl) rfl ?_
  have bl := duo_below B1.out (g := w.heap.size + 1) (by omega) (.slice A n c) (.slice B n d)
  exact ⟨A, c, B, d, rfl, FA.out.keep (.of_below T bl), FB.out.keep (.of_below T bl), bl⟩
def Far (q : Nat) (T : Nat → Prop) : Nat → Prop := fun k => (k < q ∨ q + 2 ≤ k) ∧ T k
/-- What the loop of Hand keeps: the parameter's box (q) holds the tags as they are by now. -/
def DocHand (T : Nat → Prop) (w wr : World) (q n : Nat) (A B : Option Addr) (c d to : Nat) (M l : List Nat) : Prop := ∃ O : List Nat, wr.rowIs q 28 2 (duoF (.slice A n c) (.slice B n d)) ∧ IntsF wr (Far q T) A (ints O) ∧ n = O.length ∧ setAll O to l = M ∧ Turn (fun k => k = q) w wr
theorem part_f {w w' : World} {T : Nat → Prop} {A : Option Addr} {l : List Int} {q : Nat} (h : IntsF w T A l) (hb : Below w.heap.size w w') (hq : w.heap.size ≤ q) : IntsF w' (Far q T) A l := by
  rcases h with h | ⟨b, off, e, ht, hlt, hc⟩
  · exact .inl h
  · exact .inr ⟨b, off, e, ⟨.inl (by omega), ht⟩, Nat.lt_of_lt_of_le hlt hb.size, fun k x hx => (hb.cell (p := ⟨b, off + k, none⟩) hlt).trans (hc k x hx)⟩
set_option maxHeartbeats 3200000 in
theorem rhand_yes (hA : IntsF w T A (ints O)) (hB : IntsF w T B (ints G)) (hT : ∀ k, w.heap.size ≤ k → T k) (hs : n ≤ 1048576) (lO : n = O.length) {fr to : Nat} (hf : 1 ≤ fr) (ht : 1 ≤ to) (hne : fr ≠ to) {m : Nat} (hm : cntV O (fr : Int) = m) :
    Calls Try.prog 21 #[.agg #[.slice A n c, .slice B n d], .int .i64 fr, .int .i64 to] w (DocTo w T n (setAll O to (ofV O (fr : Int))) G m) := by
  obtain ⟨r0, s0, b0, z0⟩ := duo_start w (.slice A n c) (.slice B n d) (.slice none 0 0) (.slice none 0 0) 28
  obtain ⟨l, hl⟩ : ∃ l, ofV O (fr : Int) = l := ⟨_, rfl⟩
  have hll : l.length = m := by rw [← hl, ofV_length, hm]
  obtain ⟨M, hM⟩ : ∃ M, setAll O to l = M := ⟨_, rfl⟩
  have hml : m ≤ n := by rw [← hm, lO]; exact cntV_le O _
  have hin : ∀ k : Nat, k < m → ∃ i, l[k]? = some i ∧ i < n := fun k hk => by
    have hk2 : k < l.length := by omega
    refine ⟨l[k]'hk2, List.getElem?_eq_getElem hk2, ?_⟩
    have := List.getElem_mem hk2
    rw [lO]
    have h2 : l[k]'hk2 ∈ ofV O (fr : Int) := by rw [hl]; exact this
    exact (mem_ofV.1 h2).1
  have HIN := Lib.hid hin
  have HLL := Lib.hid hll
  have d1 : ¬ (fr : Int) < 1 := by omega
  have d2 : ¬ (to : Int) < 1 := by omega
  have d3 : ((fr : Int) == (to : Int)) = false := by simp; omega
  have HTT : Hid (∀ k, w.heap.size ≤ k → T k) := hT
  have FA := Lib.hid hA
  have FB := Lib.hid hB
  have PA := Lib.hid (part_f hA b0 (Nat.le_refl w.heap.size))
  have HOF := Lib.hid (rof_is (c := c) (d := d) (B := B) (hA.keep (.of_below T b0)) lO hs hl)
  have HMV := Lib.hid hM
  have HLO := Lib.hid lO
  have e9 : setAll O to (ofV O (fr : Int)) = M := by rw [hl]; exact hM
  rw [e9]
  clear hA hB hT lO hm hl hll hM hin hne e9
  go_enter Try.func21, Try.ntmps21
  go_upto_region 1 with fail
  generalize (w.alloc (.cells #[.slice A n c, .slice B n d] 28)).alloc (.cells #[.slice none 0 0, .slice none 0 0] 28) = W at *
  obtain ⟨⟨e0, e1⟩, _⟩ := duo_any r0
  have R0 := Lib.hid r0
  have S0 := Lib.hid s0
  have B0 := Lib.hid b0
  have Z0 := Lib.hid z0
  clear r0 s0 b0 z0
  go_wp2_with fail
  refine HOF.out.mono ?_
  rintro e w1 ⟨v1, rfl, l1, b1⟩
  obtain ⟨AL, cL, rfl, _, iL, loL⟩ := l1
  rw [HLL.out]
  have HK : Hid (DocHand T w1 w1 w.heap.size n A B c d to M l) := ⟨O, duo_keep R0.out b1, PA.out.keep (.of_below _ b1), HLO.out, HMV.out, Turn.refl _ _⟩
  have S1 := Lib.hid (duo_keep S0.out b1)
  have B1 := Lib.hid (step_below B0.out b1)
  have IL := Lib.hid iL
  have LOL : Hid (∀ b off, AL = some ⟨b, off, none⟩ → W.heap.size ≤ b) := loL
  have Z1 : Hid (w.heap.size + 2 ≤ w1.heap.size) := by show _ ≤ _; have := b1.size; have := Z0.out; omega
  clear e0 e1 b1 iL loL HOF PA HMV HLO
  go_wp2_with fail
  go_loopw [9] (fun i wr => ∃ (k : Nat) (A' : Option Addr) (c' : Nat), k ≤ m ∧ i = .int .i64 k ∧ Hid (DocHand T w1 wr w.heap.size n A' B c' d to M (l.drop k))) (fun i _ => m - (RowKit.intOf i).toNat)
  case atStart => exact ⟨0, A, c, Nat.zero_le _, rfl, HK⟩
  case round =>
    clear HK
    obtain ⟨k, A', c', hk, rfl, HK⟩ := hrel
    obtain ⟨O2, hr2, hf2, lo2, hs2, t2⟩ := HK.out
    by_cases hlt : k < m
    · obtain ⟨i, hli, hin⟩ := HIN.out k hlt
      have hkl : k < l.length := by rw [HLL.out]; exact hlt
      have hil : l[k]'hkl = i := by rw [List.getElem?_eq_getElem hkl] at hli; injection hli
      obtain ⟨bA, oA, rfl, hcA⟩ := IL.out.at_ (k := k) (by rw [ints_length]; exact hkl)
      have hbA : W.heap.size ≤ bA := LOL.out bA oA rfl
      have hbq : bA ≠ w.heap.size := by have := Z0.out; omega
      have ei : (ints l)[k]'(by rw [ints_length]; exact hkl) = (i : Int) := by
        unfold ints
        rw [List.getElem_map, hil]
      rw [ei] at hcA
      have hbl : bA < w1.heap.size := World.block_lt_of_cell? w1 _ hcA
      have hcw : wr.cell? ⟨bA, oA + k, none⟩ = some (.int .i64 i) := (World.cell?_of_block (w := w1) (a := ⟨bA, oA + k, none⟩) (t2.block bA hbl hbq)).trans hcA
      obtain ⟨⟨e0, e1⟩, f0, f1⟩ := duo_any hr2
      have hki : 0 ≤ (k : Int) ∧ (k : Int) < (m : Int) := by omega
      rw [List.drop_eq_getElem_cons hkl, hil] at hs2
      obtain ⟨l', hl'⟩ : ∃ l', O2.set i to = l' := ⟨_, rfl⟩
      have hsl : setAll l' to (l.drop (k + 1)) = M := by rw [← hl']; exact hs2
      have hll' : l'.length = n := by rw [← hl', List.length_set]; exact lo2.symm
      have HP := Lib.hid (put_is (w := wr.drew) (c := c') (k := i) (x := to) (hf2.keep (.drewN _ wr 1)) lo2 hs hin hl')
      have e0d : wr.drew.cell? ⟨w.heap.size, 0, none⟩ = some (.slice A' n c') := e0
      have e1d : wr.drew.cell? ⟨w.heap.size, 1, none⟩ = some (.slice B n d) := e1
      have ecd : wr.drew.cell? ⟨bA, oA + k, none⟩ = some (.int .i64 i) := hcw
      have HR2 := Lib.hid hr2
      have T2 := Lib.hid t2
      have HSL := Lib.hid hsl
      have HLL' := Lib.hid hll'
      have HBQ : Hid (bA ≠ w.heap.size) := hbq
      have hbw : Hid (bA < wr.heap.size) := by show _ < _; have := t2.size; omega
      clear hr2 hf2 lo2 hs2 t2 hli hil hbA hbq ei hbl hkl hl' hsl hll' HK hcA
      go_wp2_with fail
      go_region_with (first
          | (go_at_call 25
             (with_reducible refine HP.out.mono ?_)
             rintro e w4 ⟨v4, rfl, l4, b4⟩
             obtain ⟨A4, c4, rfl, _, i4, lo4⟩ := l4
             rw [HLL'.out]
             have b5 : Below wr.heap.size wr w4 := ⟨b4.os, b4.tape, b4.output, b4.size, b4.block⟩
             have r4 := duo_keep HR2.out b5
             obtain ⟨⟨e0', e1'⟩, t0, t1⟩ := duo_any r4
             have ec' := (World.cell?_of_block (w := wr) (w' := w4) (a := ⟨bA, oA + k, none⟩) (b5.block bA hbw.out)).trans hcw
             have H5 : Hid (DocHand T w1 ((w4.setCell ⟨w.heap.size, 0, none⟩ (.slice A4 n c4)).setCell ⟨w.heap.size, 1, none⟩ (.slice B n d)) w.heap.size n A4 B c4 d to M (l.drop (k + 1))) := by
               refine ⟨l', duo_all r4 _ _, ?_, HLL'.out.symm, HSL.out, (T2.out.trans (Turn.of_below _ b5)).trans (duo_turn (S := fun j => j = w.heap.size) _ rfl _ _)⟩
               have in4 : IntsF w4 (Far w.heap.size T) A4 (ints l') := up_f (w := wr) (lo := wr.heap.size) (T := Far w.heap.size T) i4 lo4 (fun j hj => by
                 have h1 := T2.out.size
                 have h2 := Z1.out
                 exact ⟨.inr (by omega), HTT.out j (by omega)⟩) (Nat.le_refl _)
               exact in4.keep ((duo_turn (S := fun j => j = w.heap.size) w4 rfl _ _).same fun j h1 h2 => by have := h2.1; omega)
             clear r4 i4 lo4 b4 b5))
      all_goals
        go_wp2
        go_roundw
        case rel => exact ⟨k + 1, A4, c4, by omega, by go_num, H5⟩
        case measure => simp [RowKit.intOf]; omega
    · obtain rfl : k = m := by omega
      rw [List.drop_of_length_le (Nat.le_of_eq HLL.out)] at hs2
      have hs3 : O2 = M := hs2
      subst hs3
      obtain ⟨⟨e0, e1⟩, _⟩ := duo_any hr2
      have s2 : wr.rowIs (w.heap.size + 1) 28 2 (duoF (.slice none 0 0) (.slice none 0 0)) := S1.out.of_block (t2.block _ (by have := Z1.out; omega) (by omega))
      obtain ⟨⟨g0, g1⟩, t0, t1⟩ := duo_any s2
      have S2 := Lib.hid s2
      have HF2 := Lib.hid hf2
      have B2 : Hid (Below w.heap.size w wr) := t2.below B1.out B1.out.size (by rintro j rfl; exact Nat.le_refl _)
      clear hr2 s2 hf2 t2 lo2 HK hs2
      go_wp2
      refine bodyPost_ret_by (back_duo rfl _ _ (w.heap.size + 1) 28 _ (0, 0) _ rfl (duo_block (duo_all S2.out _ _)) Try.underlying28 rfl (by kernel_rfl) rfl) rfl ?_
      have bl := duo_below B2.out (g := w.heap.size + 1) (by omega) (.slice A' n c') (.slice B n d)
      have bt := duo_turn (S := fun k => k = w.heap.size + 1) wr rfl (.slice A' n c') (.slice B n d)
      exact ⟨A', c', B, d, rfl, (HF2.out.keep (bt.same fun j h1 h2 => by have := h2.1; omega)).more fun j hj => hj.2, FB.out.keep (.of_below T bl), bl⟩
theorem rhand_is (hA : IntsF w T A (ints O)) (hB : IntsF w T B (ints G)) (hT : ∀ k, w.heap.size ≤ k → T k) (hs : n ≤ 1048576) (lO : n = O.length) {fr to : Int} {r : Nat} {M : List Nat} (hr : handE O fr to = r) (hM : handV O fr to = M) :
    Calls Try.prog 21 #[.agg #[.slice A n c, .slice B n d], .int .i64 fr, .int .i64 to] w (DocTo w T n M G r) := by
  subst hr hM
  by_cases hn : fr < 1 ∨ to < 1 ∨ fr = to
  · have e1 : handE O fr to = 0 := by unfold handE; rw [if_pos hn]
    have e2 : handV O fr to = O := by unfold handV; rw [if_pos hn]
    rw [e1, e2]
    by_cases h1 : fr < 1
    · exact rhand_no1 hA hB lO hs h1
    · by_cases h2 : to < 1
      · exact rhand_no2 hA hB lO hs h1 h2
      · exact rhand_no3 hA hB lO hs h1 h2 (by simp; omega)
  · have e1 : handE O fr to = cntV O fr := by unfold handE; rw [if_neg hn]
    have e2 : handV O fr to = setAll O to.toNat (ofV O fr) := by unfold handV; rw [if_neg hn]
    rw [e1, e2]
    have hf : ¬ fr < 1 := fun e => hn (.inl e)
    have ht : ¬ to < 1 := fun e => hn (.inr (.inl e))
    have hne : fr ≠ to := fun e => hn (.inr (.inr e))
    obtain ⟨a, rfl⟩ := Int.eq_ofNat_of_zero_le (show 0 ≤ fr by omega)
    obtain ⟨b, rfl⟩ := Int.eq_ofNat_of_zero_le (show 0 ≤ to by omega)
    rw [Int.toNat_natCast]
    exact rhand_yes hA hB hT hs lO (by omega) (by omega) (by omega) rfl
end
end Go.Proofs.Ytiidkfcblnkghaa
