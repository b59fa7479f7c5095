/- From the row's premise (handle.parts reads as its initialiser lays it) to the table's cells; an array of four ints that comes in. -/
import Derived.Test.YtgkmghhplepnnaaDoorRows
import Derived.Test.YtgkmghhplepnnaaDoorHandlePut
import Derived.ProofKit
import Derived.LaidMore
import Derived.OpenShut
import Derived.ChangeOld
import Derived.Stop.Joined
import Derived.Lib.SmallJoins
namespace Go.Proofs.YtgkmghhplepnnaaDoor
open Go.ChangeShapes Go.WideShapes Go.ChangeAt Go.WideMaps Go.WideElems Go.RowKit

theorem own_knob : ownKnob Tryd.prog.godebug = none := by kernel_rfl
theorem laid_out : laidOutB Tryd.prog = true := by kernel_rfl
theorem tab_global : Tryd.prog.globalNamed "copyhold/handle.parts" = some 0 := by kernel_rfl
theorem tab_type : (Tryd.prog.globals[0]?).map (·.type) = some 36 := by kernel_rfl
def laidTab : List (String × DataW Unit) := [("copyhold/handle.parts", Rows.laid_copyhold_handle_parts)]
theorem door_met (os : Os) (args : Array Value) : laidMetH Tryd.prog laidTab ((World.doorLaid Tryd.prog 400 os).forCall (fun _ _ => 0) ⟨#[], args, []⟩).memory :=
  laidMetH_of_parts3 (fuel := 8) (laidMet_of_run' 8 (by kernel_rfl) (by kernel_rfl)) (by kernel_rfl) (by kernel_rfl)
section
variable {H : Type} {enc : TypeId × Value → H} {w : World} {base : Nat} {spare : Nat → Bool} {held : Bool}
/-- A part of known numbers: its cells. -/
theorem part_cells {fuel : Nat} {cs : List Value} {x : DataW H × List MemPlace} {a b c d : Int} (h : DataW.trod enc Tryd.prog w base spare held fuel 35 cs = some x)
    (hx : x.1 = .agg [.lit (.int .i64 a), .lit (.int .i64 b), .lit (.int .i64 c), .lit (.int .i64 d)]) : cs = [.int .i64 a, .int .i64 b, .int .i64 c, .int .i64 d] := by
  obtain ⟨y0, y1, y2, y3, n, rfl, hl, h0, h1, h2, h3⟩ := Go.Joins.trod_struct4 Tryd.underlying35 h
  have c4 : Tryd.prog.cellsOf 35 = 4 := by kernel_rfl
  have c1 : Tryd.prog.cellsOf 3 = 1 := by kernel_rfl
  have c2 : Tryd.prog.cellsOf 23 = 1 := by kernel_rfl
  rw [c4] at hl
  match cs, hl with
  | [v0, v1, v2, v3], _ =>
    obtain ⟨n0, e0, f0, _⟩ := DataW.trod_int Tryd.underlying3 h0
    obtain ⟨n1, e1, f1, _⟩ := DataW.trod_int Tryd.underlying3 h1
    obtain ⟨n2, e2, f2, _⟩ := DataW.trod_int Tryd.underlying3 h2
    obtain ⟨n3, e3, f3, _⟩ := DataW.trod_int Tryd.underlying23 h3
    simp only [c1, c2] at e0 e1 e2 e3
    simp only [f0, f1, f2, f3, DataW.agg.injEq, List.cons.injEq, DataW.lit.injEq, Lit.int.injEq, true_and, and_true] at hx
    obtain ⟨rfl, rfl, rfl, rfl⟩ := hx
    simp at e0 e1 e2 e3
    rw [e0, e1, e2, e3]
end
theorem tab_of_laid {W : World} (h : laidMetH Tryd.prog laidTab W) : TabOk W := by
  rw [MakeChecks.laidMetH_plain _ _ _ (by kernel_rfl)] at h
  obtain ⟨ps, ⟨g0, t0, cs0, f0, p0, q0, hg0, ht0, hv0, hd0, _, _⟩, _, _⟩ := h
  obtain rfl := Option.some.inj (tab_global.symm.trans hg0)
  obtain rfl := Option.some.inj (tab_type.symm.trans ht0)
  obtain ⟨xs, m, rfl, hx, hlen, hn, hel⟩ := DataW.trod_array Tryd.underlying36 hd0
  have c1 : Tryd.prog.cellsOf 35 = 4 := by kernel_rfl
  have c2 : Tryd.prog.cellsOf 36 = 16 := by kernel_rfl
  rw [c1] at hel
  rw [c2] at hlen
  match xs, hn with
  | [x0, x1, x2, x3], _ =>
    simp only [Rows.laid_copyhold_handle_parts, List.map_cons, List.map_nil, Prod.mk.injEq, DataW.agg.injEq, List.cons.injEq, and_true] at hx
    obtain ⟨⟨hx0, hx1, hx2, hx3⟩, _⟩ := hx
    have k0 := part_cells (hel 0 (by omega)) hx0.symm
    have k1 := part_cells (hel 1 (by omega)) hx1.symm
    have k2 := part_cells (hel 2 (by omega)) hx2.symm
    have k3 := part_cells (hel 3 (by omega)) hx3.symm
    intro j hj
    have hc := World.var?_cell hg0 hv0 j
    rw [hc, ← Array.getElem?_toList]
    have e : cs0.toList = ((cs0.toList.drop 0).take 4) ++ ((cs0.toList.drop 4).take 4) ++ ((cs0.toList.drop 8).take 4) ++ ((cs0.toList.drop 12).take 4) := by
      match cs0.toList, hlen with
      | [_, _, _, _, _, _, _, _, _, _, _, _, _, _, _, _], _ => rfl
    rw [Nat.zero_mul] at k0
    rw [e, k0, k1, k2, k3]
    obtain rfl | rfl | rfl | rfl | rfl | rfl | rfl | rfl | rfl | rfl | rfl | rfl | rfl | rfl | rfl | rfl : j = 0 ∨ j = 1 ∨ j = 2 ∨ j = 3 ∨ j = 4 ∨ j = 5 ∨ j = 6 ∨ j = 7 ∨ j = 8 ∨ j = 9 ∨ j = 10 ∨ j = 11 ∨ j = 12 ∨ j = 13 ∨ j = 14 ∨ j = 15 := by omega
    all_goals rfl
section
variable {H : Type} {enc : TypeId × Value → H} {P : Program} {w : World} {base : Nat} {spare : Nat → Bool} {held : Bool}
/-- An array of four integers that came in. -/
theorem open_four {r : Reach} {b0 : Nat} {t e : TypeId} {k : IntKind} {v : Value} {d : DataW H} {p : List MemPlace} (ht : P.underlying t = some (.array 4 e)) (he : P.underlying e = some (.int k)) (hce : P.cellsOf e = 1) (hct : P.cellsOf t = 4)
    (hv : Value.okWide P w r b0 t v) (h : DataW.Trod enc P w base spare held t v d p) : ∃ x y z u : Int, v = .agg #[.int k x, .int k y, .int k z, .int k u] ∧ (Lit.int k x).wf = true ∧ (Lit.int k y).wf = true ∧ (Lit.int k z).wf = true ∧ (Lit.int k u).wf = true := by
  unfold Value.okWide at hv
  rw [ht] at hv
  obtain ⟨cs, rfl, hsz, _⟩ := hv
  rw [hct] at hsz
  obtain ⟨l⟩ := cs
  match l, hsz with
  | [c0, c1, c2, c3], _ =>
    obtain ⟨fuel, hf⟩ := h
    obtain ⟨xs, m, _, hx, _, hn, hel⟩ := DataW.trod_array ht hf
    rw [hce] at hel
    have e0 := hel 0 (by omega)
    have e1 := hel 1 (by omega)
    have e2 := hel 2 (by omega)
    have e3 := hel 3 (by omega)
    rw [List.getElem?_eq_getElem (by omega)] at e0 e1 e2 e3
    obtain ⟨x, ex, _, wx⟩ := DataW.trod_int he e0
    obtain ⟨y, ey, _, wy⟩ := DataW.trod_int he e1
    obtain ⟨z, ez, _, wz⟩ := DataW.trod_int he e2
    obtain ⟨u, eu, _, wu⟩ := DataW.trod_int he e3
    refine ⟨x, y, z, u, ?_, wx, wy, wz, wu⟩
    simp [Value.cells] at ex ey ez eu
    rw [ex, ey, ez, eu]
end
end Go.Proofs.YtgkmghhplepnnaaDoor
