/- Words for the walks of every layer: results of several values (a struct or an array in a block beside others; five words), blocks of four cells. -/
import Derived.Test.YtgkmghhplepnnaaDoorBase
import Derived.Laws.Rows
import Derived.Laws.NewBlocks
namespace Go.Proofs.YtgkmghhplepnnaaDoor
open Go.RowKit

theorem back_tmp5 {fn : Func} {a b c d e : Tmp} (h : fn.results = #[.tmp a, .tmp b, .tmp c, .tmp d, .tmp e]) (tmps : Array Value) (P : Program) (w : World) :
    (results fn tmps).run P w = .ok (.tuple #[tmps.getD a undef, tmps.getD b undef, tmps.getD c undef, tmps.getD d undef, tmps.getD e undef]) w := by
  simp [results, h]
theorem back_cell_two {P : Program} {fn : Func} {p q : Tmp} {ty : TypeId} (h : fn.results = #[.cell p ty, .tmp q]) (tmps : Array Value) (w : World) (g : Nat) (t : TypeId) (cs : Array Value) (fr : Nat × Nat) (d : TypeDesc)
    (hp : tmps.getD p undef = .pointer (some ⟨g, 0, none⟩)) (hg : w.heap[g]? = some (.cells cs t fr))
    (hu : P.underlying ty = some d) (hd : (match d with | .struct _ | .array _ _ => true | _ => false) = true) (hi : (P.info? ty).map (·.size) = some cs.size) {v : Value} (hv : tmps.getD q undef = v) :
    (results fn tmps).run P w = .ok (.tuple #[.agg cs, v]) w := by
  have hp' : tmps[p]?.getD undef = .pointer (some ⟨g, 0, none⟩) := by simpa using hp
  have hv' : tmps[q]?.getD undef = v := by simpa using hv
  simp [results, h, hp', hv', asAddr, run_loadVar_row w g t ty cs fr d hg hu hd hi]

/-! ### blocks of four cells -/
def fourF (a b c d : Value) : Nat → Value
  | 0 => a
  | 1 => b
  | 2 => c
  | _ => d
theorem four_lit (w : World) (a b c d : Value) (t : TypeId) : (w.alloc (.cells #[a, b, c, d] t)).rowIs w.heap.size t 4 (fourF a b c d) := World.rowIs_alloc w #[a, b, c, d] t (fourF a b c d) (by
  intro i hi
  match i, hi with
  | 0, _ => rfl
  | 1, _ => rfl
  | 2, _ => rfl
  | 3, _ => rfl)
theorem four_all {w : World} {g : Nat} {t : TypeId} {f : Nat → Value} (h : w.rowIs g t 4 f) (x y z u : Value) : ((((w.setCell ⟨g, 0, none⟩ x).setCell ⟨g, 1, none⟩ y).setCell ⟨g, 2, none⟩ z).setCell ⟨g, 3, none⟩ u).rowIs g t 4 (fourF x y z u) :=
  ((((h.set 0 x).set 1 y).set 2 z).set 3 u).congr fun j hj => by
    match j, hj with
    | 0, _ => rfl
    | 1, _ => rfl
    | 2, _ => rfl
    | 3, _ => rfl
theorem four_below {a w : World} {B : Nat} (h : Below B a w) {g : Nat} (hb : B ≤ g) (x y z u : Value) : Below B a ((((w.setCell ⟨g, 0, none⟩ x).setCell ⟨g, 1, none⟩ y).setCell ⟨g, 2, none⟩ z).setCell ⟨g, 3, none⟩ u) :=
  (((h.setCell (p := ⟨g, 0, none⟩) hb x).setCell (p := ⟨g, 1, none⟩) hb y).setCell (p := ⟨g, 2, none⟩) hb z).setCell (p := ⟨g, 3, none⟩) hb u
/-- Such a block, whole. -/
theorem four_block {w : World} {b : Nat} {t : TypeId} {f : Nat → Value} (h : w.rowIs b t 4 f) : w.heap[b]? = some (.cells #[f 0, f 1, f 2, f 3] t (0, 0)) := by
  obtain ⟨c, hb, hn, hc⟩ := h
  rw [hb]
  congr 2
  apply Array.ext
  · simpa using hn
  · intro i h1 h2
    have h3 := hc i (by omega)
    rw [Array.getElem?_eq_getElem h1] at h3
    injection h3 with h3
    rw [h3]
    have h4 : i < 4 := by omega
    match i, h4 with
    | 0, _ => rfl
    | 1, _ => rfl
    | 2, _ => rfl
    | 3, _ => rfl
theorem step_below {a W w' : World} (h : Below a.heap.size a W) (h' : Below W.heap.size W w') : Below a.heap.size a w' := h.trans (h'.mono h.size)
theorem drew_below (w : World) : Below w.heap.size w w.drew := ⟨rfl, rfl, rfl, Nat.le_refl _, fun _ _ => rfl⟩
/-- The four cells of a block, in whatever world behind. -/
theorem four_any {W0 : World} {g : Nat} {t : TypeId} {f : Nat → Value} (h : W0.rowIs g t 4 f) {W : World} (hb : Below W0.heap.size W0 W) : W.cell? ⟨g, 0, none⟩ = some (f 0) ∧ W.cell? ⟨g, 1, none⟩ = some (f 1) ∧ W.cell? ⟨g, 2, none⟩ = some (f 2) ∧ W.cell? ⟨g, 3, none⟩ = some (f 3) := by
  have k := h.of_block (hb.block g h.lt)
  exact ⟨k.cell (by omega), k.cell (by omega), k.cell (by omega), k.cell (by omega)⟩
end Go.Proofs.YtgkmghhplepnnaaDoor
