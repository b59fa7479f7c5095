/- Layer 3 (stack): what New returns, and how a new stack lies in memory: contracts. -/
import Derived.Test.YtgooajgoofojmaaDoorFreeStMem
import Derived.IntWalk
namespace Go.Proofs.YtgooajgoofojmaaDoor
open Go.RowKit

def NewIn (w : World) (size : Nat) (l : List Nat) (e : Ending) (w' : World) : Prop := ∃ g, e = .returned (.pointer (some ⟨g, 0, none⟩)) ∧ StackIn w' w.heap.size w'.heap.size (.pointer (some ⟨g, 0, none⟩)) size l ∧ Below w.heap.size w w'
theorem new_no (n : Int) (w : World) (h : n < 0 ∨ 1048576 < n) : Calls Tryd.prog 22 #[.int .i64 n] w fun e w' => e = .returned (.pointer none) ∧ w = w' := by
  rcases h with h | h
  · go_enter Tryd.func22, Tryd.ntmps22
    go_wp2
    go_ret
    exact ⟨rfl, rfl⟩
  · have h0 : ¬ n < 0 := by omega
    go_enter Tryd.func22, Tryd.ntmps22
    go_wp2
    go_ret
    exact ⟨rfl, rfl⟩
theorem cut_low (W : World) (b n : Nat) : (Instr.slice 26 (.slice (some ⟨b, 0, none⟩) (2 * n) (2 * n)) none (some (.int .i64 0)) (some (.int .i64 n))).run Tryd.prog W = .ok (.slice (some ⟨b, 0, none⟩) 0 n) W := by
  rw [run_slice_hm (P := Tryd.prog) W 26 (some ⟨b, 0, none⟩) (2 * n) (2 * n) (by kernel_rfl) .i64 .i64 0 n (by omega) (by omega) (by omega)]
  rw [show (sizeOf (Tryd.prog.elem 26)).run Tryd.prog W = .ok 1 W by kernel_rfl]
  simp [Result.andThen, sliced, Addr.add]
theorem cut_high (W : World) (b n : Nat) : (Instr.slice 26 (.slice (some ⟨b, 0, none⟩) (2 * n) (2 * n)) (some (.int .i64 n)) (some (.int .i64 (2 * (n : Int)))) (some (.int .i64 (2 * (n : Int))))).run Tryd.prog W = .ok (.slice (some ⟨b, n, none⟩) n n) W := by
  rw [run_slice_lhm (P := Tryd.prog) W 26 (some ⟨b, 0, none⟩) (2 * n) (2 * n) (by kernel_rfl) .i64 .i64 .i64 n (2 * (n : Int)) (2 * (n : Int)) (by omega) (by omega) (by omega) (by omega)]
  rw [show (sizeOf (Tryd.prog.elem 26)).run Tryd.prog W = .ok 1 W by kernel_rfl]
  have e1 : (2 * (n : Int)).toNat = 2 * n := by omega
  have e2 : 2 * n - n = n := by omega
  rw [e1]
  by_cases h : n = 0
  · subst h; simp [Result.andThen, sliced]
  · have h' : ¬ 2 * n = n := by omega
    simp [Result.andThen, sliced, Addr.add, h, h', e2]
/-- The cells of a new stack behind k rounds. -/
def newC (n k j : Nat) : Int := if n ≤ j ∧ j < n + k then -1 else 0
theorem newC_0 (n j : Nat) : newC n 0 j = 0 := by unfold newC; rw [if_neg (by omega)]
theorem newC_succ (n k j : Nat) : newC n (k + 1) j = if j = n + k then -1 else newC n k j := by
  unfold newC
  by_cases h : j = n + k
  · rw [if_pos h, if_pos (by omega)]
  · rw [if_neg h]
    by_cases h2 : n ≤ j ∧ j < n + k
    · rw [if_pos h2, if_pos (by omega)]
    · rw [if_neg h2, if_neg (by omega)]
theorem new_in {w : World} {n : Nat} (h : n ≤ 1048576) : Calls Tryd.prog 22 #[.int .i64 n] w (NewIn w n []) := by
  have h0 : ¬ (n : Int) < 0 := by omega
  have h2 : ¬ 1048576 < (n : Int) := by omega
  have hmk := fun W => run_make_row' (P := Tryd.prog) 26 3 (.int .i64 0) 8 Tryd.underlying26 int_info rfl .i64 .i64 (2 * n) (by omega) (by omega) W
  simp only [show ((2 * n : Nat) : Int) = 2 * (n : Int) by omega] at hmk
  go_enter Tryd.func22, Tryd.ntmps22
  go_wp2
  have hc1 := fun W => cut_low W w.heap.size n
  have hc2 := fun W => cut_high W w.heap.size n
  have hwr : IntKind.i64.wrap (2 * (n : Int)) = 2 * (n : Int) := IntWalk.i64_in _ (by omega)
  refine wp_region_still_tail 11 (by kernel_rfl) (by kernel_rfl) ?_
  simp only [List.take_succ_cons, List.take_zero, List.drop_succ_cons, List.drop_zero]
  change wpStill _ _ ((w.alloc (.cells (madeCells #[.int .i64 0] (2 * n)) 3)).drewN 1) _ _ _
  repeat still_step
  refine wpStill_nil ?_
  change wpList _ _ _ _ _ ((w.alloc (.cells (madeCells #[.int .i64 0] (2 * n)) 3)).drewN 1)
  clear hc1 hc2 hwr hmk
  go_wp2
  have r1 : (((w.alloc (.cells (madeCells #[.int .i64 0] (2 * n)) 3)).drewN 1).alloc (.cells #[.slice (some ⟨w.heap.size, 0, none⟩) 0 n, .slice (some ⟨w.heap.size, n, none⟩) n n] 53)).rowIs w.heap.size 3 (2 * n) (fun j => .int .i64 (newC n 0 j)) :=
    (row_drewN ((World.rowIs_made w (.int .i64 0) (2 * n) 3).congr fun i _ => by rw [newC_0]) 1).alloc _
  have r2 : (((w.alloc (.cells (madeCells #[.int .i64 0] (2 * n)) 3)).drewN 1).alloc (.cells #[.slice (some ⟨w.heap.size, 0, none⟩) 0 n, .slice (some ⟨w.heap.size, n, none⟩) n n] 53)).rowIs (w.heap.size + 1) 53 2 (stackF (some w.heap.size) n 0) := by
    have := World.rowIs_alloc ((w.alloc (.cells (madeCells #[.int .i64 0] (2 * n)) 3)).drewN 1) #[.slice (some ⟨w.heap.size, 0, none⟩) 0 n, .slice (some ⟨w.heap.size, n, none⟩) n n] 53 (stackF (some w.heap.size) n 0) (by
      intro i hi
      match i, hi with
      | 0, _ => rfl
      | 1, _ => rfl)
    simpa using this
  have b1 : Below w.heap.size w (((w.alloc (.cells (madeCells #[.int .i64 0] (2 * n)) 3)).drewN 1).alloc (.cells #[.slice (some ⟨w.heap.size, 0, none⟩) 0 n, .slice (some ⟨w.heap.size, n, none⟩) n n] 53)) :=
    (below_drewN ((Below.refl _ _).alloc (Nat.le_refl _) _) 1).alloc (by simp) _
  generalize (((w.alloc (.cells (madeCells #[.int .i64 0] (2 * n)) 3)).drewN 1).alloc (.cells #[.slice (some ⟨w.heap.size, 0, none⟩) 0 n, .slice (some ⟨w.heap.size, n, none⟩) n n] 53)) = W1 at *
  go_loopw [28] (fun i wr => ∃ k : Nat, k ≤ n ∧ i = .int .i64 k ∧ wr.rowIs w.heap.size 3 (2 * n) (fun j => .int .i64 (newC n k j)) ∧ wr.rowIs (w.heap.size + 1) 53 2 (stackF (some w.heap.size) n 0) ∧ Below w.heap.size w wr) (fun i _ => n - (intOf i).toNat)
  case atStart => exact ⟨0, by omega, rfl, r1, r2, b1⟩
  case round =>
    obtain ⟨k, hk, rfl, q1, q2, b2⟩ := hrel
    by_cases hlt : k < n
    · have c1 : wr.cell? ⟨w.heap.size + 1, 1, none⟩ = some (.slice (some ⟨w.heap.size, n, none⟩) n n) := q2.cell (i := 1) (by omega)
      have c2 : wr.cell? ⟨w.heap.size, n + k, none⟩ = some (.int .i64 (newC n k (n + k))) := q1.cell (i := n + k) (by omega)
      have f2 : wr.frozen? ⟨w.heap.size, n + k, none⟩ = false := q1.frozen _
      have hi : 0 ≤ (k : Int) ∧ (k : Int) < (n : Int) := by omega
      have q3 := (q1.set (n + k) (.int .i64 (-1))).congr (g := fun j => .int .i64 (newC n (k + 1) j)) fun j _ => by
        rw [newC_succ]
        by_cases e : j = n + k
        · rw [if_pos e, if_pos e]
        · rw [if_neg e, if_neg e]
      have q4 := q2.setOther (a := ⟨w.heap.size, n + k, none⟩) (by simp) (.int .i64 (-1))
      have b3 := b2.setCell (p := ⟨w.heap.size, n + k, none⟩) (Nat.le_refl _) (.int .i64 (-1))
      have HQ : Hid (_ ∧ _ ∧ _) := ⟨q3, q4, b3⟩
      clear q1 q2 q3 q4 b2 b3 r1 r2 b1
      go_wp2
      go_roundw
      case rel => exact ⟨k + 1, by omega, by go_num, HQ.out.1, HQ.out.2.1, HQ.out.2.2⟩
      case measure => simp [intOf]; omega
    · go_wp2
      go_ret
      have e : k = n := by omega
      subst e
      refine ⟨w.heap.size + 1, rfl, ⟨w.heap.size + 1, some w.heap.size, rfl, ⟨q2, .inr ⟨w.heap.size, _, rfl, q1, fun k x h => by simp at h, fun x hx => ?_⟩, h, by simp, fun x hx => by simp at hx⟩, by omega, q2.lt, Nat.le_refl _, fun b eb => ?_⟩, b2⟩
      · rw [placeV_nil]; exact if_pos (by omega)
      · injection eb with eb
        have := q1.lt
        omega
end Go.Proofs.YtgooajgoofojmaaDoor
