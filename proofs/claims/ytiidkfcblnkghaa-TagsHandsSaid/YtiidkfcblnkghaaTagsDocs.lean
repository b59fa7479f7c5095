/- What the document's own answers for layer 16 (copyholdref16) return where they leave other owners or generations; New; each call in one form: contracts. -/
import Derived.Test.YtiidkfcblnkghaaTagsRefs
import Derived.BigRegion
namespace Go.Proofs.Ytiidkfcblnkghaa
open Go.RowKit

section
variable {w : World} {T : Nat → Prop} {A B : Option Addr} {O G : List Nat} {n c d : Nat}
theorem up_f {w w' : World} {T : Nat → Prop} {lo : Nat} {A : Option Addr} {l : List Nat} (h : IntsAt w' A (ints l)) (hlo : ∀ b off, A = some ⟨b, off, none⟩ → lo ≤ b) (hT : ∀ k, w.heap.size ≤ k → T k) (hl : w.heap.size ≤ lo) : IntsF w' T A (ints l) := by
  rcases h with h | ⟨b, off, e, hb, hc⟩
  · exact .inl h
  · exact .inr ⟨b, off, e, hT b (Nat.le_trans hl (hlo b off e)), hb, hc⟩
set_option maxHeartbeats 1600000 in
theorem rown_yes (hA : IntsF w T A (ints O)) (hB : IntsF w T B (ints G)) (hT : ∀ k, w.heap.size ≤ k → T k) (hs : n ≤ 1048576) (lO : n = O.length) (lG : n = G.length) {k x : Nat} (hk : k < n) (hx : 1 ≤ x) (hy : O[k]? = some 0) : Calls Try.prog 9 #[.agg #[.slice A n c, .slice B n d], .int .i64 k, .int .i64 x] w (DocTo w T n (O.set k x) G 0) := by
  obtain ⟨r0, s0, b0, z0⟩ := duo_start w (.slice A n c) (.slice B n d) (.slice none 0 0) (.slice none 0 0) 28
  have FB0 := Lib.hid hB
  obtain ⟨bA, oA, rfl, hTA, hbA, hcA⟩ := ints_cellF hA hy
  have hcA' := (World.cell?_of_block (w := w) (a := ⟨bA, oA + k, none⟩) (b0.block bA hbA)).trans hcA
  have w1e : ((0 : Nat) : Int) = 0 := rfl
  simp only [w1e] at hcA'
  have h2 : ¬ (x : Int) < 1 := by omega
  have h0 : ¬ (k : Int) < 0 := by omega
  have h1 : ¬ (n : Int) ≤ (k : Int) := by omega
  have hki : 0 ≤ (k : Int) ∧ (k : Int) < (n : Int) := by omega
  obtain ⟨l', hl'⟩ : ∃ l', O.set k x = l' := ⟨_, rfl⟩
  have HLL : Hid (l'.length = n) := by show _ = _; rw [← hl', List.length_set]; exact lO.symm
  have HKN := Lib.hid hk
  have HTT : Hid (∀ k, w.heap.size ≤ k → T k) := hT
  have FA := Lib.hid (hA.keep (.of_below T b0))
  have FB := Lib.hid (hB.keep (.of_below T b0))
  have HLO := Lib.hid lO
  have HLG := Lib.hid lG
  have HL := Lib.hid hl'
  rw [hl']
  clear hA hB hT hk lO lG hl' hcA hbA hTA hy hx w1e
  go_enter Try.func9, Try.ntmps9
  go_upto_region 1 with fail
  generalize (w.alloc (.cells #[.slice (some ⟨bA, oA, none⟩) n c, .slice B n d] 28)).alloc (.cells #[.slice none 0 0, .slice none 0 0] 28) = W at *
  obtain ⟨⟨e0, e1⟩, _⟩ := duo_any r0
  have R0 := Lib.hid r0
  have S0 := Lib.hid s0
  have B0 := Lib.hid b0
  have HZ := Lib.hid z0
  clear r0 s0 b0 z0
  go_upto_region 5 with fail
  have HP := Lib.hid (put_is (w := W.drew) (c := c) (k := k) (x := x) (FA.out.keep (.drewN T W 1)) HLO.out hs HKN.out HL.out)
  have e0d : W.drew.cell? ⟨w.heap.size, 0, none⟩ = some (.slice (some ⟨bA, oA, none⟩) n c) := e0
  have e1d : W.drew.cell? ⟨w.heap.size, 1, none⟩ = some (.slice B n d) := e1
  go_region_held3 (fun X => X.cell? ⟨w.heap.size, 0, none⟩ = some (.slice (some ⟨bA, oA, none⟩) n c) ∧ X.cell? ⟨w.heap.size, 1, none⟩ = some (.slice B n d))
    (first
      | (refine ⟨?_, ?_⟩ <;> with_reducible assumption)
      | exact ⟨duo_cell e0' (by simp) _ _, duo_cell e1' (by simp) _ _⟩)
    (first
      | (go_at_call 25
         (with_reducible refine HP.out.mono ?_)
         rintro e w4 ⟨v4, rfl, l4, b4⟩
         obtain ⟨A4, c4, rfl, _, i4, lo4⟩ := l4
         rw [HLL.out]
         have b5 : Below W.heap.size W w4 := ⟨b4.os, b4.tape, b4.output, b4.size, b4.block⟩
         have r4 := duo_keep R0.out b5
         have s4 := duo_keep S0.out b5
         obtain ⟨⟨e0', e1'⟩, _⟩ := duo_any r4
         obtain ⟨⟨g0, g1⟩, t0, t1⟩ := duo_any s4
         have S4 := Lib.hid s4
         have I4 := Lib.hid i4
         have L4 : Hid (∀ b off, A4 = some ⟨b, off, none⟩ → W.heap.size ≤ b) := lo4
         have B5 := Lib.hid b5
         clear r4 s4 i4 lo4 b4 b5))
  go_wp2
  refine bodyPost_ret_by (back_duo rfl _ _ (w.heap.size + 1) 28 _ (0, 0) _ rfl (duo_block (duo_all S4.out _ _)) Try.underlying28 rfl (by kernel_rfl) rfl) rfl ?_
  have hz := HZ.out
  have bx := step_below B0.out B5.out
  have bl := duo_below bx (g := w.heap.size + 1) (by omega) (.slice A4 n c4) (.slice B n d)
  have bt := duo_turn (S := fun k => k = w.heap.size + 1) w4 rfl (.slice A4 n c4) (.slice B n d)
  have in4 : IntsF w4 (fun k => W.heap.size ≤ k) A4 (ints l') := up_f (w := W) I4.out L4.out (fun _ h => h) (Nat.le_refl _)
  have f4 := (in4.keep (bt.same fun k h1 h2 => by omega)).more (T' := T) fun k hk => HTT.out k (by omega)
  exact ⟨A4, c4, B, d, rfl, f4, FB0.out.keep (.of_below T bl), bl⟩
set_option maxHeartbeats 1600000 in
theorem rleave_yes (hA : IntsF w T A (ints O)) (hB : IntsF w T B (ints G)) (hT : ∀ k, w.heap.size ≤ k → T k) (hs : n ≤ 1048576) (lO : n = O.length) (lG : n = G.length) {k y : Nat} (hk : k < n) (hy : O[k]? = some y) (h3 : 0 < y) : Calls Try.prog 11 #[.agg #[.slice A n c, .slice B n d], .int .i64 k] w (DocTo w T n (O.set k 0) G 0) := by
  obtain ⟨r0, s0, b0, z0⟩ := duo_start w (.slice A n c) (.slice B n d) (.slice none 0 0) (.slice none 0 0) 28
  have FB0 := Lib.hid hB
  obtain ⟨bA, oA, rfl, hTA, hbA, hcA⟩ := ints_cellF hA hy
  have hcA' := (World.cell?_of_block (w := w) (a := ⟨bA, oA + k, none⟩) (b0.block bA hbA)).trans hcA
  have h4 : ((y : Int) == 0) = false := by simp; omega
  have h0 : ¬ (k : Int) < 0 := by omega
  have h1 : ¬ (n : Int) ≤ (k : Int) := by omega
  have hki : 0 ≤ (k : Int) ∧ (k : Int) < (n : Int) := by omega
  obtain ⟨l', hl'⟩ : ∃ l', O.set k 0 = l' := ⟨_, rfl⟩
  have HLL : Hid (l'.length = n) := by show _ = _; rw [← hl', List.length_set]; exact lO.symm
  have HKN := Lib.hid hk
  have HTT : Hid (∀ k, w.heap.size ≤ k → T k) := hT
  have FA := Lib.hid (hA.keep (.of_below T b0))
  have FB := Lib.hid (hB.keep (.of_below T b0))
  have HLO := Lib.hid lO
  have HLG := Lib.hid lG
  have HL := Lib.hid hl'
  rw [hl']
  clear hA hB hT hk lO lG hl' hcA hbA hTA hy h3
  go_enter Try.func11, Try.ntmps11
  go_upto_region 1 with fail
  generalize (w.alloc (.cells #[.slice (some ⟨bA, oA, none⟩) n c, .slice B n d] 28)).alloc (.cells #[.slice none 0 0, .slice none 0 0] 28) = W at *
  obtain ⟨⟨e0, e1⟩, _⟩ := duo_any r0
  have R0 := Lib.hid r0
  have S0 := Lib.hid s0
  have B0 := Lib.hid b0
  have HZ := Lib.hid z0
  clear r0 s0 b0 z0
  go_upto_region 5 with fail
  have HP := Lib.hid (put_is (w := W.drew) (c := c) (k := k) (x := 0) (FA.out.keep (.drewN T W 1)) HLO.out hs HKN.out HL.out)
  simp only [show ((0 : Nat) : Int) = 0 from rfl] at HP
  have e0d : W.drew.cell? ⟨w.heap.size, 0, none⟩ = some (.slice (some ⟨bA, oA, none⟩) n c) := e0
  have e1d : W.drew.cell? ⟨w.heap.size, 1, none⟩ = some (.slice B n d) := e1
  go_region_held3 (fun X => X.cell? ⟨w.heap.size, 0, none⟩ = some (.slice (some ⟨bA, oA, none⟩) n c) ∧ X.cell? ⟨w.heap.size, 1, none⟩ = some (.slice B n d))
    (first
      | (refine ⟨?_, ?_⟩ <;> with_reducible assumption)
      | exact ⟨duo_cell e0' (by simp) _ _, duo_cell e1' (by simp) _ _⟩)
    (first
      | (go_at_call 25
         (with_reducible refine HP.out.mono ?_)
         rintro e w4 ⟨v4, rfl, l4, b4⟩
         obtain ⟨A4, c4, rfl, _, i4, lo4⟩ := l4
         rw [HLL.out]
         have b5 : Below W.heap.size W w4 := ⟨b4.os, b4.tape, b4.output, b4.size, b4.block⟩
         have r4 := duo_keep R0.out b5
         have s4 := duo_keep S0.out b5
         obtain ⟨⟨e0', e1'⟩, _⟩ := duo_any r4
         obtain ⟨⟨g0, g1⟩, t0, t1⟩ := duo_any s4
         have S4 := Lib.hid s4
         have I4 := Lib.hid i4
         have L4 : Hid (∀ b off, A4 = some ⟨b, off, none⟩ → W.heap.size ≤ b) := lo4
         have B5 := Lib.hid b5
         clear r4 s4 i4 lo4 b4 b5))
  go_wp2
  refine bodyPost_ret_by (back_duo rfl _ _ (w.heap.size + 1) 28 _ (0, 0) _ rfl (duo_block (duo_all S4.out _ _)) Try.underlying28 rfl (by kernel_rfl) rfl) rfl ?_
  have hz := HZ.out
  have bx := step_below B0.out B5.out
  have bl := duo_below bx (g := w.heap.size + 1) (by omega) (.slice A4 n c4) (.slice B n d)
  have bt := duo_turn (S := fun k => k = w.heap.size + 1) w4 rfl (.slice A4 n c4) (.slice B n d)
  have in4 : IntsF w4 (fun k => W.heap.size ≤ k) A4 (ints l') := up_f (w := W) I4.out L4.out (fun _ h => h) (Nat.le_refl _)
  have f4 := (in4.keep (bt.same fun k h1 h2 => by omega)).more (T' := T) fun k hk => HTT.out k (by omega)
  exact ⟨A4, c4, B, d, rfl, f4, FB0.out.keep (.of_below T bl), bl⟩
set_option maxHeartbeats 1600000 in
theorem rraise_yes (hA : IntsF w T A (ints O)) (hB : IntsF w T B (ints G)) (hT : ∀ k, w.heap.size ≤ k → T k) (hs : n ≤ 1048576) (lO : n = O.length) (lG : n = G.length) {k z : Nat} (hk : k < n) (hy : O[k]? = some 0) (hz : G[k]? = some z) (h3 : ¬ 1048575 ≤ z) : Calls Try.prog 13 #[.agg #[.slice A n c, .slice B n d], .int .i64 k] w (DocTo w T n O (G.set k (z + 1)) 0) := by
  obtain ⟨r0, s0, b0, z0⟩ := duo_start w (.slice A n c) (.slice B n d) (.slice none 0 0) (.slice none 0 0) 28
  have FA0 := Lib.hid hA
  obtain ⟨bA, oA, rfl, hTA, hbA, hcA⟩ := ints_cellF hA hy
  have hcA' := (World.cell?_of_block (w := w) (a := ⟨bA, oA + k, none⟩) (b0.block bA hbA)).trans hcA
  obtain ⟨bB, oB, rfl, hTB, hbB, hcB⟩ := ints_cellF hB hz
  have hcB' := (World.cell?_of_block (w := w) (a := ⟨bB, oB + k, none⟩) (b0.block bB hbB)).trans hcB
  have HBB := Lib.hid hbB
  have w1e : ((0 : Nat) : Int) = 0 := rfl
  simp only [w1e] at hcA'
  have h4 : ¬ 1048575 ≤ (z : Int) := by omega
  obtain ⟨z1, hz1⟩ : ∃ z1, z + 1 = z1 := ⟨_, rfl⟩
  have hwr : IntKind.i64.wrap ((z : Int) + 1) = (z1 : Int) := by
    rw [IntWalk.i64_in _ (by omega)]; omega
  rw [hz1]
  have h0 : ¬ (k : Int) < 0 := by omega
  have h1 : ¬ (n : Int) ≤ (k : Int) := by omega
  have hki : 0 ≤ (k : Int) ∧ (k : Int) < (n : Int) := by omega
  obtain ⟨l', hl'⟩ : ∃ l', G.set k z1 = l' := ⟨_, rfl⟩
  have HLL : Hid (l'.length = n) := by show _ = _; rw [← hl', List.length_set]; exact lG.symm
  have HKN := Lib.hid hk
  have HTT : Hid (∀ k, w.heap.size ≤ k → T k) := hT
  have FA := Lib.hid (hA.keep (.of_below T b0))
  have FB := Lib.hid (hB.keep (.of_below T b0))
  have HLO := Lib.hid lO
  have HLG := Lib.hid lG
  have HL := Lib.hid hl'
  rw [hl']
  clear hA hB hT hk lO lG hl' hcA hbA hTA hcB hbB hTB hy hz h3 hz1 w1e
  go_enter Try.func13, Try.ntmps13
  go_upto_region 1 with fail
  generalize (w.alloc (.cells #[.slice (some ⟨bA, oA, none⟩) n c, .slice (some ⟨bB, oB, none⟩) n d] 28)).alloc (.cells #[.slice none 0 0, .slice none 0 0] 28) = W at *
  obtain ⟨⟨e0, e1⟩, _⟩ := duo_any r0
  have R0 := Lib.hid r0
  have S0 := Lib.hid s0
  have B0 := Lib.hid b0
  have HZ := Lib.hid z0
  clear r0 s0 b0 z0
  go_upto_region 7 with fail
  have HP := Lib.hid (put_is (w := W.drew) (c := d) (k := k) (x := z1) (FB.out.keep (.drewN T W 1)) HLG.out hs HKN.out HL.out)
  have e0d : W.drew.cell? ⟨w.heap.size, 0, none⟩ = some (.slice (some ⟨bA, oA, none⟩) n c) := e0
  have e1d : W.drew.cell? ⟨w.heap.size, 1, none⟩ = some (.slice (some ⟨bB, oB, none⟩) n d) := e1
  have hbBw : bB ≠ w.heap.size + 1 := by have := HBB.out; omega
  have e2d : W.drew.cell? ⟨bB, oB + k, none⟩ = some (.int .i64 z) := hcB'
  go_region_held3 (fun X => X.cell? ⟨w.heap.size, 0, none⟩ = some (.slice (some ⟨bA, oA, none⟩) n c) ∧ X.cell? ⟨w.heap.size, 1, none⟩ = some (.slice (some ⟨bB, oB, none⟩) n d) ∧ X.cell? ⟨bB, oB + k, none⟩ = some (.int .i64 z))
    (first
      | (refine ⟨?_, ?_, ?_⟩ <;> with_reducible assumption)
      | exact ⟨duo_cell e0' (by simp) _ _, duo_cell e1' (by simp) _ _, duo_cell e2' hbBw _ _⟩)
    (first
      | (go_at_call 25
         (with_reducible refine HP.out.mono ?_)
         rintro e w4 ⟨v4, rfl, l4, b4⟩
         obtain ⟨A4, c4, rfl, _, i4, lo4⟩ := l4
         rw [HLL.out]
         have b5 : Below W.heap.size W w4 := ⟨b4.os, b4.tape, b4.output, b4.size, b4.block⟩
         have r4 := duo_keep R0.out b5
         have s4 := duo_keep S0.out b5
         obtain ⟨⟨e0', e1'⟩, _⟩ := duo_any r4
         obtain ⟨⟨g0, g1⟩, t0, t1⟩ := duo_any s4
         have e2' := (World.cell?_of_block (w := W) (w' := w4) (a := ⟨bB, oB + k, none⟩) (b5.block bB (by have := HBB.out; have := B0.out.size; omega))).trans hcB'
         have S4 := Lib.hid s4
         have I4 := Lib.hid i4
         have L4 : Hid (∀ b off, A4 = some ⟨b, off, none⟩ → W.heap.size ≤ b) := lo4
         have B5 := Lib.hid b5
         clear r4 s4 i4 lo4 b4 b5))
  go_wp2
  refine bodyPost_ret_by (back_duo rfl _ _ (w.heap.size + 1) 28 _ (0, 0) _ rfl (duo_block (duo_all S4.out _ _)) Try.underlying28 rfl (by kernel_rfl) rfl) rfl ?_
  have hz := HZ.out
  have bx := step_below B0.out B5.out
  have bl := duo_below bx (g := w.heap.size + 1) (by omega) (.slice (some ⟨bA, oA, none⟩) n c) (.slice A4 n c4)
  have bt := duo_turn (S := fun k => k = w.heap.size + 1) w4 rfl (.slice (some ⟨bA, oA, none⟩) n c) (.slice A4 n c4)
  have in4 : IntsF w4 (fun k => W.heap.size ≤ k) A4 (ints l') := up_f (w := W) I4.out L4.out (fun _ h => h) (Nat.le_refl _)
  have f4 := (in4.keep (bt.same fun k h1 h2 => by omega)).more (T' := T) fun k hk => HTT.out k (by omega)
  exact ⟨(some ⟨bA, oA, none⟩), c, A4, c4, rfl, FA0.out.keep (.of_below T bl), f4, bl⟩
end
end Go.Proofs.Ytiidkfcblnkghaa
