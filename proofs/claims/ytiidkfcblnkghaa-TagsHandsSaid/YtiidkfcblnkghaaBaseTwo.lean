/- Words for the walks of every layer: blocks of two cells (a struct of two words in a variable, or as a result beside a word). -/
import Derived.Test.YtiidkfcblnkghaaBaseFoot
import Derived.Test.YtiidkfcblnkghaaBaseFrom
import Derived.Laws.Rows
import Derived.Laws.NewBlocks
namespace Go.Proofs.Ytiidkfcblnkghaa
open Go.RowKit

def duoF (a b : Value) : Nat → Value
  | 0 => a
  | _ => b
theorem duo_lit (w : World) (a b : Value) (t : TypeId) : (w.alloc (.cells #[a, b] t)).rowIs w.heap.size t 2 (duoF a b) := World.rowIs_alloc w #[a, b] t (duoF a b) (by
  intro i hi
  match i, hi with
  | 0, _ => rfl
  | 1, _ => rfl)
theorem duo_all {w : World} {g : Nat} {t : TypeId} {f : Nat → Value} (h : w.rowIs g t 2 f) (x y : Value) : ((w.setCell ⟨g, 0, none⟩ x).setCell ⟨g, 1, none⟩ y).rowIs g t 2 (duoF x y) :=
  ((h.set 0 x).set 1 y).congr fun j hj => by
    match j, hj with
    | 0, _ => rfl
    | 1, _ => rfl
theorem duo_below {a w : World} {B : Nat} (h : Below B a w) {g : Nat} (hb : B ≤ g) (x y : Value) : Below B a ((w.setCell ⟨g, 0, none⟩ x).setCell ⟨g, 1, none⟩ y) :=
  (h.setCell (p := ⟨g, 0, none⟩) hb x).setCell (p := ⟨g, 1, none⟩) hb y
theorem duo_turn {S : Nat → Prop} (w : World) {g : Nat} (hg : S g) (x y : Value) : Turn S w ((w.setCell ⟨g, 0, none⟩ x).setCell ⟨g, 1, none⟩ y) := (Turn.set w 0 x hg).trans (Turn.set _ 1 y hg)
theorem duo_cell {w : World} {a i g : Nat} {v : Value} (h : w.cell? ⟨a, i, none⟩ = some v) (hne : a ≠ g) (x y : Value) : ((w.setCell ⟨g, 0, none⟩ x).setCell ⟨g, 1, none⟩ y).cell? ⟨a, i, none⟩ = some v := by
  have e1 := World.cell?_of_block (w := w) (w' := w.setCell ⟨g, 0, none⟩ x) (a := ⟨a, i, none⟩) (Below.heap_setCell _ _ _ _ hne)
  have e2 := World.cell?_of_block (w := w.setCell ⟨g, 0, none⟩ x) (w' := (w.setCell ⟨g, 0, none⟩ x).setCell ⟨g, 1, none⟩ y) (a := ⟨a, i, none⟩) (Below.heap_setCell _ _ _ _ hne)
  rw [e2, e1]; exact h
/-- Such a block, whole. -/
theorem duo_block {w : World} {b : Nat} {t : TypeId} {f : Nat → Value} (h : w.rowIs b t 2 f) : w.heap[b]? = some (.cells #[f 0, f 1] t (0, 0)) := by
  obtain ⟨c, hb, hn, hc⟩ := h
  rw [hb]
  congr 2
  apply Array.ext
  · simpa using hn
  · intro i h1 h2
    have h3 := hc i (by omega)
    rw [Array.getElem?_eq_getElem h1] at h3
    injection h3 with h3
    rw [h3]
    have h4 : i < 2 := by omega
    match i, h4 with
    | 0, _ => rfl
    | 1, _ => rfl
/-- Its cells, and that they may be written, as the walks want them. -/
theorem duo_any {w : World} {g : Nat} {t : TypeId} {a b : Value} (h : w.rowIs g t 2 (duoF a b)) : (w.cell? ⟨g, 0, none⟩ = some a ∧ w.cell? ⟨g, 1, none⟩ = some b) ∧ w.frozen? ⟨g, 0, none⟩ = false ∧ w.frozen? ⟨g, 1, none⟩ = false :=
  ⟨⟨h.cell (i := 0) (by omega), h.cell (i := 1) (by omega)⟩, h.frozen 0, h.frozen 1⟩
theorem duo_keep {W0 : World} {g : Nat} {t : TypeId} {f : Nat → Value} (h : W0.rowIs g t 2 f) {W : World} (hb : Below W0.heap.size W0 W) : W.rowIs g t 2 f := h.of_block (hb.block g h.lt)
/-- A parameter's box, and a result's variable behind it. -/
theorem duo_start (w : World) (a b x y : Value) (t : TypeId) : ((w.alloc (.cells #[a, b] t)).alloc (.cells #[x, y] t)).rowIs w.heap.size t 2 (duoF a b) ∧ ((w.alloc (.cells #[a, b] t)).alloc (.cells #[x, y] t)).rowIs (w.heap.size + 1) t 2 (duoF x y) ∧ Below w.heap.size w ((w.alloc (.cells #[a, b] t)).alloc (.cells #[x, y] t)) ∧ ((w.alloc (.cells #[a, b] t)).alloc (.cells #[x, y] t)).heap.size = w.heap.size + 2 := by
  refine ⟨(duo_lit w a b t).alloc _, ?_, (new_below w _).alloc (by simp) _, by simp⟩
  have := duo_lit (w.alloc (.cells #[a, b] t)) x y t
  rwa [show (w.alloc (.cells #[a, b] t)).heap.size = w.heap.size + 1 by simp] at this
theorem back_duo {P : Program} {fn : Func} {p q : Tmp} {ty : TypeId} (h : fn.results = #[.cell p ty, .tmp q]) (tmps : Array Value) (w : World) (g : Nat) (t : TypeId) (cs : Array Value) (fr : Nat × Nat) (d : TypeDesc)
    (hp : tmps.getD p undef = .pointer (some ⟨g, 0, none⟩)) (hg : w.heap[g]? = some (.cells cs t fr))
    (hu : P.underlying ty = some d) (hd : (match d with | .struct _ | .array _ _ => true | _ => false) = true) (hi : (P.info? ty).map (·.size) = some cs.size) {v : Value} (hv : tmps.getD q undef = v) :
    (results fn tmps).run P w = .ok (.tuple #[.agg cs, v]) w := by
  have hp' : tmps[p]?.getD undef = .pointer (some ⟨g, 0, none⟩) := by simpa using hp
  have hv' : tmps[q]?.getD undef = v := by simpa using hv
  simp [results, h, hp', hv', asAddr, run_loadVar_row w g t ty cs fr d hg hu hd hi]
end Go.Proofs.Ytiidkfcblnkghaa
