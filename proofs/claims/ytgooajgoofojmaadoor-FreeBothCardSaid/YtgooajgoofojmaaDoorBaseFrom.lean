/- A region that draws its order, whose operations only read, and whose callees may make memory of their own: one walk, in the order of the text (the library's theorem on whatever class of worlds, at the class 'whatever has been made behind w0'). -/
import Derived.Test.YtgooajgoofojmaaDoorBase
import Derived.Deep.Cut
namespace Go.Proofs.YtgooajgoofojmaaDoor
open Go.RowKit

/-- A world behind w0: what w0 had is as it was. -/
structure From (w0 : World) where
  W : World
  bel : Below w0.heap.size w0 W
instance (w0 : World) : Nonempty (From w0) := ⟨⟨w0, Below.refl _ _⟩⟩
theorem drew_below (w : World) : Below w.heap.size w w.drew := ⟨rfl, rfl, rfl, Nat.le_refl _, fun _ _ => rfl⟩
theorem step_below {a W w' : World} (h : Below a.heap.size a W) (h' : Below W.heap.size W w') : Below a.heap.size a w' := h.trans (h'.mono h.size)
theorem new_below (w : World) (o : Obj) : Below w.heap.size w (w.alloc o) := (Below.refl _ _).alloc (Nat.le_refl _) _
theorem wp_region_from {P : Program} {id : Nat} {Q : Exit → Act → World → Prop} {a : Act} {w w0 : World} {l : List Oper} (hm : P.follows .mixedOrders = true) (hB : Region.lexB .any l.toArray = true) (h0 : Below w0.heap.size w0 w)
    (h : wpQuiet P l.toArray (fun w' => ∃ p : From w0, w' = p.W) (fun a' => ∀ w', (∃ p : From w0, w' = p.W) → Q .normal a' w') l a) : (Code.region id l.toArray true).wp P Q a w :=
  wp_region_quiet (C := fun w' => ∃ p : From w0, w' = p.W) hm hB ⟨⟨w.drew, step_below h0 (drew_below w)⟩, rfl⟩ (by simpa using h)
/-- A callee's contract, met in a world behind w0. -/
theorem from_of {P : Program} {f : FuncId} {args : Array Value} {w0 : World} {p : From w0} {v : Value} (h : Calls P f args p.W fun e w' => e = .returned v ∧ Below p.W.heap.size p.W w') : Calls P f args p.W fun e w'' => e = .returned v ∧ ∃ q : From w0, w'' = q.W :=
  h.mono fun _ w' ⟨he, hb⟩ => ⟨he, ⟨w', step_below p.bel hb⟩, rfl⟩
end Go.Proofs.YtgooajgoofojmaaDoor
