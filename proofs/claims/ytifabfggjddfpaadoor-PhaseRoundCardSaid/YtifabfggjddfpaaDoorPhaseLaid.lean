/- From the rows' premise (phase.names and phase.leads read as their initialisers lay them) to the tables' cells. -/
import Derived.Test.YtifabfggjddfpaaDoorRows
import Derived.Test.YtifabfggjddfpaaDoorPhaseW
import Derived.Test.YtifabfggjddfpaaDoorBaseTabs
namespace Go.Proofs.YtifabfggjddfpaaDoor
open Go.ChangeShapes Go.WideShapes Go.ChangeAt Go.WideMaps Go.WideElems Go.RowKit

theorem own_knob : ownKnob Tryd.prog.godebug = none := by kernel_rfl
theorem laid_out : laidOutB Tryd.prog = true := by kernel_rfl
def laidTab : List (String × DataW Unit) := [("copyhold/phase.names", Rows.laid_copyhold_phase_names), ("copyhold/phase.leads", Rows.laid_copyhold_phase_leads)]
theorem door_met (os : Os) (args : Array Value) : laidMetH Tryd.prog laidTab ((World.doorLaid Tryd.prog 400 os).forCall (fun _ _ => 0) ⟨#[], args, []⟩).memory :=
  laidMetH_of_parts3 (fuel := 8) (laidMet_of_run' 8 (by kernel_rfl) (by kernel_rfl)) (by kernel_rfl) (by kernel_rfl)
theorem name_data : (Rows.laid_copyhold_phase_names : DataW Unit) = textData [nameT 0, nameT 1, nameT 2, nameT 3] := by kernel_rfl
theorem lead_data : (Rows.laid_copyhold_phase_leads : DataW Unit) = Lib.tabData .i64 [1, 2, 3, 4] := by kernel_rfl
theorem tab_of_laid {W : World} (h : laidMetH Tryd.prog laidTab W) : TabOk W := by
  rw [MakeChecks.laidMetH_plain _ _ _ (by kernel_rfl)] at h
  have h1 := tab_texts (g := 0) (t := 37) (by kernel_rfl) (by kernel_rfl) Tryd.underlying37 Tryd.underlying9 (by kernel_rfl) (by kernel_rfl) h (by rw [← name_data]; exact .head _)
  have h2 := tab_ints (g := 1) (t := 38) (by kernel_rfl) (by kernel_rfl) Tryd.underlying38 Tryd.underlying3 (by kernel_rfl) (by kernel_rfl) h (by rw [← lead_data]; exact .tail _ (.head _))
  refine ⟨fun j hj => ?_, fun j hj => ?_⟩
  · obtain rfl | rfl | rfl | rfl : j = 0 ∨ j = 1 ∨ j = 2 ∨ j = 3 := by omega
    all_goals exact h1 _ _ rfl
  · obtain rfl | rfl | rfl | rfl : j = 0 ∨ j = 1 ∨ j = 2 ∨ j = 3 := by omega
    all_goals exact h2 _ (by decide)
end Go.Proofs.YtifabfggjddfpaaDoor
