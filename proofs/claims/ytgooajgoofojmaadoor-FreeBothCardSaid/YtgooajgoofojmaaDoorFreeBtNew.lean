/- Layer 2 (bits): what New makes, where the program names the zero cells of a Set. -/
import Derived.Test.YtgooajgoofojmaaDoorFreeBtPut
namespace Go.Proofs.YtgooajgoofojmaaDoor
open Go.RowKit
theorem u64_info : (Tryd.prog.info? 70).map (fun i => (i.zero, i.size, i.bytes)) = some (some (.int .u64 0), 1, 8) := by kernel_rfl
theorem zero_set : Tryd.zeroCells69.toList = (List.range 261).map (setF 0 none false) := by kernel_rfl

theorem setF_far (size : Nat) (A : Option Addr) (d : Bool) {i : Nat} (h : 2 ≤ i) : setF size A d i = setF 0 none d i := by
  match i, h with
  | 2, _ => rfl
  | 3, _ => rfl
  | 4, _ => rfl
  | _ + 5, _ => rfl
def MadeSet (size : Nat) (w : World) (e : Ending) (w' : World) : Prop :=
  ∃ g b, e = .returned (.pointer (some ⟨g, 0, none⟩)) ∧ w.heap.size ≤ g ∧ w.heap.size ≤ b ∧ g ≠ b ∧ SetAt w' g (some ⟨b, 0, none⟩) size none_ ∧ Below w.heap.size w w' ∧ w'.rowIs b 70 (nw size) (fun k => .int .u64 (word none_ k))
theorem new_any (n : Nat) (w : World) (h1 : n ≤ 1048576) : Calls Tryd.prog 23 #[.int .i64 n] w (MadeSet n w) := by
  have h0 : ¬ (n : Int) < 0 := by omega
  have h2 : ¬ 1048576 < (n : Int) := by omega
  have hmk := fun W => run_make_row' (P := Tryd.prog) 54 70 (.int .u64 0) 8 Tryd.underlying54 u64_info rfl .i64 .i64 (nw n) (by unfold nw; omega) (by unfold nw; omega) W
  have hd : ((n : Int) + 64 - 1) / 64 = (nw n : Int) := by unfold nw; omega
  go_enter Tryd.func23, Tryd.ntmps23
  go_wp2
  go_ret
  have hz : (Tryd.zeroCells69).size = 261 := by rw [← Array.length_toList, zero_set, List.length_map, List.length_range]
  have hrow : ((w.alloc (.cells (madeCells #[.int .u64 0] (nw n)) 70)).alloc (.cells ((Tryd.zeroCells69.setIfInBounds 0 (.int .i64 n)).setIfInBounds 1 (.slice (some ⟨w.heap.size, 0, none⟩) (nw n) (nw n))) 69)).rowIs w.heap.size 70 (nw n) (fun k => .int .u64 (word none_ k)) :=
    ((World.rowIs_made w (.int .u64 0) (nw n) 70).congr fun i _ => by rw [word_none]; rfl).alloc _
  refine ⟨w.heap.size + 1, w.heap.size, rfl, by omega, by omega, by omega, ⟨⟨false, ?_⟩, .inr ⟨_, rfl, hrow⟩, h1, fun _ _ => rfl⟩, ((Below.refl _ _).alloc (Nat.le_refl _) _).alloc (by simp) _, hrow⟩
  have := World.rowIs_alloc (w.alloc (.cells (madeCells #[.int .u64 0] (nw n)) 70)) ((Tryd.zeroCells69.setIfInBounds 0 (.int .i64 n)).setIfInBounds 1 (.slice (some ⟨w.heap.size, 0, none⟩) (nw n) (nw n))) 69 (setF n (some ⟨w.heap.size, 0, none⟩) false) (by
    intro i hi
    have hi' : i < 261 := by simpa [hz] using hi
    rcases i with _ | _ | i
    · simp [hz]; rfl
    · simp [hz]; rfl
    · rw [Array.getElem?_setIfInBounds_ne (by omega), Array.getElem?_setIfInBounds_ne (by omega), ← Array.getElem?_toList, zero_set]
      rw [List.getElem?_map, List.getElem?_range hi', Option.map_some, setF_far 0 none false (by omega), setF_far n (some ⟨w.heap.size, 0, none⟩) false (by omega)])
  simpa [hz] using this
end Go.Proofs.YtgooajgoofojmaaDoor
