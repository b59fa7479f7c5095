/- Layer 7 (handle): what Put returns: a contract. -/
import Derived.Test.YtgkmghhplepnnaaDoorHandlePut
import Derived.Deep.RegionHeld3
import Derived.Deep.CutRange
import Derived.Laws.Rows
import Derived.Laws.NewBlocks
import Derived.IntWalk
namespace Go.Proofs.YtgkmghhplepnnaaDoor
open Go.RowKit

theorem sum_wrap {a b c : Int} (h : -9223372036854775808 ≤ a + b * c ∧ a + b * c ≤ 9223372036854775807) : IntKind.i64.wrap (a + b * c) = a + b * c := IntWalk.i64_in _ h
/-- The number at place i. -/
def numV (k p g o : Int) : Nat → Int
  | 0 => k
  | 1 => p
  | 2 => g
  | _ => o
/-- What the first i of them are together. -/
def sumV (k p g o : Int) : Nat → Int
  | 0 => 0
  | 1 => k * 1152921504606846976
  | 2 => k * 1152921504606846976 + p * 1099511627776
  | 3 => k * 1152921504606846976 + p * 1099511627776 + g * 1048576
  | _ => k * 1152921504606846976 + p * 1099511627776 + g * 1048576 + o
def lowB (i : Nat) : Int := partV (i * 4)
def mayB (k p g o : Int) (i : Nat) : Bool := decide (partV (i * 4) ≤ numV k p g o i ∧ numV k p g o i ≤ partV (i * 4 + 1))
/-- The numbers' array. -/
def numsF (k p g o : Int) (i : Nat) : Value := .int .i64 (numV k p g o i)
theorem nums_alloc (w : World) (k p g o : Int) (t : TypeId) : (w.alloc (.cells #[.int .i64 k, .int .i64 p, .int .i64 g, .int .i64 o] t)).rowIs w.heap.size t 4 (numsF k p g o) := World.rowIs_alloc w #[.int .i64 k, .int .i64 p, .int .i64 g, .int .i64 o] t _ (by
  intro i hi
  match i, hi with
  | 0, _ => rfl
  | 1, _ => rfl
  | 2, _ => rfl
  | 3, _ => rfl)
theorem mayB_0 (k p g o : Int) : mayB k p g o 0 = decide (1 ≤ k ∧ k ≤ 3) := rfl
theorem mayB_1 (k p g o : Int) : mayB k p g o 1 = decide (0 ≤ p ∧ p ≤ 1048575) := rfl
theorem mayB_2 (k p g o : Int) : mayB k p g o 2 = decide (0 ≤ g ∧ g ≤ 1048575) := rfl
theorem mayB_3 (k p g o : Int) : mayB k p g o 3 = decide (0 ≤ o ∧ o ≤ 1048575) := rfl
theorem over_may {x : Int} : overB x = !decide (0 ≤ x ∧ x ≤ 1048575) := by
  by_cases h : 0 ≤ x ∧ x ≤ 1048575
  · rw [decide_eq_true h]; exact overB_not.2 (by omega)
  · rw [decide_eq_false h]; exact overB_iff.2 (by omega)
theorem bad_at {k p g o : Int} {i : Nat} (hi : i < 4) (hb : ∀ j, j < i → mayB k p g o j = true) (h : mayB k p g o i = false) : putE k p g o = partV (i * 4 + 3) := by
  match i, hi with
  | 0, _ =>
    rw [mayB_0] at h
    have h := of_decide_eq_false h
    exact putE_kind _ _ _ (by omega)
  | 1, _ =>
    have h0 := hb 0 (by omega)
    rw [mayB_0] at h0
    rw [mayB_1] at h
    exact putE_over (of_decide_eq_true h0) (.inl (by rw [over_may, h]; rfl))
  | 2, _ =>
    have h0 := hb 0 (by omega)
    rw [mayB_0] at h0
    rw [mayB_2] at h
    exact putE_over (of_decide_eq_true h0) (.inr (.inl (by rw [over_may, h]; rfl)))
  | 3, _ =>
    have h0 := hb 0 (by omega)
    rw [mayB_0] at h0
    rw [mayB_3] at h
    exact putE_over (of_decide_eq_true h0) (.inr (.inr (by rw [over_may, h]; rfl)))
theorem err_ne {i : Nat} (hi : i < 4) : partV (i * 4 + 3) ≠ 0 := by
  match i, hi with
  | 0, _ => decide
  | 1, _ => decide
  | 2, _ => decide
  | 3, _ => decide
theorem all_ok {k p g o : Int} (hb : ∀ j, j < 4 → mayB k p g o j = true) : putE k p g o = 0 ∧ putV k p g o = sumV k p g o 4 := by
  have h0 := hb 0 (by omega)
  have h1 := hb 1 (by omega)
  have h2 := hb 2 (by omega)
  have h3 := hb 3 (by omega)
  rw [mayB_0] at h0
  rw [mayB_1] at h1
  rw [mayB_2] at h2
  rw [mayB_3] at h3
  have e := putE_ok (of_decide_eq_true h0) (p := p) (g := g) (o := o) (by rw [over_may, h1]; rfl) (by rw [over_may, h2]; rfl) (by rw [over_may, h3]; rfl)
  exact ⟨e, putV_yes e⟩
theorem sum_next {k p g o : Int} {i : Nat} (hi : i < 4) (hb : ∀ j, j < i + 1 → mayB k p g o j = true) :
    IntKind.i64.wrap (numV k p g o i * partV (i * 4 + 2)) = numV k p g o i * partV (i * 4 + 2) ∧ IntKind.i64.wrap (sumV k p g o i + numV k p g o i * partV (i * 4 + 2)) = sumV k p g o (i + 1) := by
  match i, hi with
  | 0, _ =>
    have h0 := hb 0 (by omega)
    rw [mayB_0] at h0
    have h0 := of_decide_eq_true h0
    refine ⟨IntWalk.i64_in _ (by simp only [numV, partV]; omega), ?_⟩
    rw [IntWalk.i64_in _ (by simp only [numV, partV, sumV]; omega)]
    simp only [numV, partV, sumV]; omega
  | 1, _ =>
    have h0 := hb 0 (by omega)
    have h1 := hb 1 (by omega)
    rw [mayB_0] at h0
    rw [mayB_1] at h1
    have h0 := of_decide_eq_true h0
    have h1 := of_decide_eq_true h1
    refine ⟨IntWalk.i64_in _ (by simp only [numV, partV]; omega), ?_⟩
    rw [IntWalk.i64_in _ (by simp only [numV, partV, sumV]; omega)]
    simp only [numV, partV, sumV]
  | 2, _ =>
    have h0 := hb 0 (by omega)
    have h1 := hb 1 (by omega)
    have h2 := hb 2 (by omega)
    rw [mayB_0] at h0
    rw [mayB_1] at h1
    rw [mayB_2] at h2
    have h0 := of_decide_eq_true h0
    have h1 := of_decide_eq_true h1
    have h2 := of_decide_eq_true h2
    refine ⟨IntWalk.i64_in _ (by simp only [numV, partV]; omega), ?_⟩
    rw [IntWalk.i64_in _ (by simp only [numV, partV, sumV]; omega)]
    simp only [numV, partV, sumV]
  | 3, _ =>
    have h0 := hb 0 (by omega)
    have h1 := hb 1 (by omega)
    have h2 := hb 2 (by omega)
    have h3 := hb 3 (by omega)
    rw [mayB_0] at h0
    rw [mayB_1] at h1
    rw [mayB_2] at h2
    rw [mayB_3] at h3
    have h0 := of_decide_eq_true h0
    have h1 := of_decide_eq_true h1
    have h2 := of_decide_eq_true h2
    have h3 := of_decide_eq_true h3
    refine ⟨IntWalk.i64_in _ (by simp only [numV, partV]; omega), ?_⟩
    rw [IntWalk.i64_in _ (by simp only [numV, partV, sumV]; omega)]
    simp only [numV, partV, sumV]; omega
set_option maxHeartbeats 1600000 in
theorem put_any (k p g o : Int) (w : World) (hT : TabOk w) : Calls Tryd.prog 5 #[.int .i64 k, .int .i64 p, .int .i64 g, .int .i64 o] w fun e w' => e = .returned (.tuple #[.int .i64 (putV k p g o), .int .i64 (putE k p g o)]) ∧ Below w.heap.size w w' := by
  have hnot := not_any
  have n0 := nums_alloc w k p g o 22
  have t0 := hT.alloc (.cells #[.int .i64 k, .int .i64 p, .int .i64 g, .int .i64 o] 22)
  have b0 : Below w.heap.size w (w.alloc (.cells #[.int .i64 k, .int .i64 p, .int .i64 g, .int .i64 o] 22)) := (Below.refl _ _).alloc (Nat.le_refl _) _
  have z0 : (w.alloc (.cells #[.int .i64 k, .int .i64 p, .int .i64 g, .int .i64 o] 22)).heap.size = w.heap.size + 1 := by simp
  have hg := hT.lt
  go_enter Tryd.func5, Tryd.ntmps5
  go_upto_region 2 with fail
  generalize w.alloc (.cells #[.int .i64 k, .int .i64 p, .int .i64 g, .int .i64 o] 22) = W at *
  go_wp2
  go_loopw [11, 18] (fun s i wr => ∃ j : Nat, j ≤ 4 ∧ i = .int .i64 j ∧ s = .int .i64 (sumV k p g o j) ∧ Hid (∀ m, m < j → mayB k p g o m = true) ∧ Below w.heap.size w wr ∧ wr.rowIs w.heap.size 22 4 (numsF k p g o) ∧ TabOk wr) (fun _ i _ => 4 - (intOf i).toNat)
  case atStart => exact ⟨0, by omega, rfl, rfl, fun m hm => (by omega), b0, n0, t0⟩
  case round =>
    clear b0 n0 t0 hT
    obtain ⟨j, hj, rfl, rfl, hb, b1, n1, t1⟩ := hrel
    by_cases hj4 : j < 4
    · cases hm : mayB k p g o j with
      | true =>
        have c0 := n1.cell hj4
        simp only [numsF] at c0
        have d0 := t1 (j * 4) (by omega)
        have d1 := t1 (j * 4 + 1) (by omega)
        have d2 := t1 (j * 4 + 2) (by omega)
        have d3 := t1 (j * 4 + 3) (by omega)
        have hjr : 0 ≤ (j : Int) ∧ (j : Int) < 4 := by omega
        have hlt : w.heap.size < wr.heap.size := n1.lt
        have N1 := Lib.hid n1
        have T1 := Lib.hid t1
        have B1 := Lib.hid b1
        have HM := Lib.hid hm
        clear n1 t1 hm b1
        go_upto_region 6 with fail
        refine wp_region_still_tail 6 (by kernel_rfl) (by kernel_rfl) ?_
        simp only [List.take_succ_cons, List.take_zero, List.drop_succ_cons, List.drop_zero]
        change wpStill _ _ (wr.drewN 1) _ _ _
        repeat still_step
        refine wpStill_nil ?_
        change wpList _ _ _ _ _ (wr.drewN 1)
        go_wp2_with fail
        refine (may_is (wr.drewN 1) HM.out).mono ?_
        rintro e w1 ⟨rfl, b2⟩
        have b3 := (below_drewN B1.out 1).trans (b2.mono (by show w.heap.size ≤ wr.heap.size; omega))
        have hg' : 0 < wr.heap.size := by omega
        have n2 := N1.out.of_block (b2.block _ hlt)
        have t2 := (T1.out.drewN 1).below b2 hg'
        clear c0 d0 d1 d2 d3 B1 b2 N1 T1
        have hb' : ∀ m, m < j + 1 → mayB k p g o m = true := fun m hm => by
          by_cases e : m = j
          · rw [e]; exact HM.out
          · exact hb.out m (by omega)
        obtain ⟨hw1, hw2⟩ := sum_next hj4 hb'
        have HB := Lib.hid hb'
        have c0 := n2.cell hj4
        simp only [numsF] at c0
        have d2 := t2 (j * 4 + 2) (by omega)
        have N2 := Lib.hid n2
        have T2 := Lib.hid t2
        have B3 := Lib.hid b3
        clear hb hb' n2 t2 b3
        go_upto_region 8 with fail
        go_quiet (fail)
        go_wp2
        go_roundw
        case rel => exact ⟨j + 1, by omega, by go_num, rfl, HB, below_drewN B3.out _, N2.out, T2.out⟩
        case measure => simp [intOf]; omega
      | false =>
        have c0 := n1.cell hj4
        simp only [numsF] at c0
        have d0 := t1 (j * 4) (by omega)
        have d1 := t1 (j * 4 + 1) (by omega)
        have d2 := t1 (j * 4 + 2) (by omega)
        have d3 := t1 (j * 4 + 3) (by omega)
        have hjr : 0 ≤ (j : Int) ∧ (j : Int) < 4 := by omega
        have hlt : w.heap.size < wr.heap.size := n1.lt
        have N1 := Lib.hid n1
        have T1 := Lib.hid t1
        have B1 := Lib.hid b1
        have HM := Lib.hid hm
        clear n1 t1 hm b1
        go_upto_region 6 with fail
        refine wp_region_still_tail 6 (by kernel_rfl) (by kernel_rfl) ?_
        simp only [List.take_succ_cons, List.take_zero, List.drop_succ_cons, List.drop_zero]
        change wpStill _ _ (wr.drewN 1) _ _ _
        repeat still_step
        refine wpStill_nil ?_
        change wpList _ _ _ _ _ (wr.drewN 1)
        go_wp2_with fail
        refine (may_is (wr.drewN 1) HM.out).mono ?_
        rintro e w1 ⟨rfl, b2⟩
        have b3 := (below_drewN B1.out 1).trans (b2.mono (by show w.heap.size ≤ wr.heap.size; omega))
        have hg' : 0 < wr.heap.size := by omega
        have n2 := N1.out.of_block (b2.block _ hlt)
        have t2 := (T1.out.drewN 1).below b2 hg'
        clear c0 d0 d1 d2 d3 B1 b2 N1 T1
        have e1 := bad_at hj4 hb.out HM.out
        have e2 : putV k p g o = 0 := putV_no (by rw [e1]; exact err_ne hj4)
        have E1 := Lib.hid e1
        have E2 := Lib.hid e2
        have d3 := t2 (j * 4 + 3) (by omega)
        have B3 := Lib.hid b3
        clear hb n2 t2 b3 e1 e2
        go_upto_region 7 with fail
        go_quiet (fail)
        go_wp2
        go_ret2
        exact ⟨by rw [E1.out, E2.out]; rfl, below_drewN B3.out _⟩
    · obtain rfl : j = 4 := by omega
      obtain ⟨e1, e2⟩ := all_ok hb.out
      have E1 := Lib.hid e1
      have E2 := Lib.hid e2
      clear hb e1 e2 n1 t1
      go_wp2
      go_ret2
      exact ⟨by rw [E1.out, E2.out]; rfl, b1⟩
end Go.Proofs.YtgkmghhplepnnaaDoor
