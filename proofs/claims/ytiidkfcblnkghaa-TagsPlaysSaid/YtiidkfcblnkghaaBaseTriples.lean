/- Slices of structs of three ints that come in: calls, say. -/
import Derived.Test.YtiidkfcblnkghaaBaseRecs
namespace Go.Proofs.Ytiidkfcblnkghaa
open Go.RowKit

/-- A slice of triples of ints that reads as xs. -/
def TriplesAt (w : World) (A : Option Addr) (xs : List (Int × Int × Int)) : Prop := xs = [] ∨ ∃ b off, A = some ⟨b, off, none⟩ ∧ b < w.heap.size ∧ ∀ (k : Nat) (p : Int × Int × Int), xs[k]? = some p →
  w.cell? ⟨b, off + k * 3, none⟩ = some (.int .i64 p.1) ∧ w.cell? ⟨b, off + k * 3 + 1, none⟩ = some (.int .i64 p.2.1) ∧ w.cell? ⟨b, off + k * 3 + 2, none⟩ = some (.int .i64 p.2.2) ∧ InInt p.1 ∧ InInt p.2.1 ∧ InInt p.2.2
theorem TriplesAt.at_ {w : World} {A : Option Addr} {xs : List (Int × Int × Int)} {k : Nat} (h : TriplesAt w A xs) (hk : k < xs.length) : ∃ b off x y z, A = some ⟨b, off, none⟩ ∧ b < w.heap.size ∧
    w.cell? ⟨b, off + k * 3, none⟩ = some (.int .i64 x) ∧ w.cell? ⟨b, off + k * 3 + 1, none⟩ = some (.int .i64 y) ∧ w.cell? ⟨b, off + k * 3 + 2, none⟩ = some (.int .i64 z) ∧ InInt x ∧ InInt y ∧ InInt z := by
  rcases h with h | ⟨b, off, e, hb, hc⟩
  · subst h; simp at hk
  · obtain ⟨h1, h2, h3, h4, h5, h6⟩ := hc k _ (List.getElem?_eq_getElem hk)
    exact ⟨b, off, _, _, _, e, hb, h1, h2, h3, h4, h5, h6⟩
theorem RecsIn.triples {w : World} {a : Option Addr} {len cap : Nat} {f : Nat → Nat → Int} (h : RecsIn w a len cap [.i64, .i64, .i64] f) : ∃ xs : List (Int × Int × Int), TriplesAt w a xs ∧ len = xs.length := by
  refine ⟨(List.range len).map fun i => (f i 0, f i 1, f i 2), ?_, by simp⟩
  by_cases h0 : len = 0
  · subst h0; exact .inl rfl
  · obtain ⟨b, off, e, hb, hc⟩ := h.cells (by simp) (by omega)
    refine .inr ⟨b, off, e, hb, fun k p hp => ?_⟩
    have hk : k < len := by
      have := (List.getElem?_eq_some_iff.1 hp).1
      simpa using this
    rw [List.getElem?_map, List.getElem?_range hk] at hp
    injection hp with hp
    subst hp
    obtain ⟨c0, w0⟩ := hc k 0 .i64 hk rfl
    obtain ⟨c1, w1⟩ := hc k 1 .i64 hk rfl
    obtain ⟨c2, w2⟩ := hc k 2 .i64 hk rfl
    simp only [List.length_cons, List.length_nil, Nat.reduceAdd, ← Nat.add_assoc, Nat.add_zero] at c0 c1 c2
    exact ⟨c0, c1, c2, int_range_i64 w0, int_range_i64 w1, int_range_i64 w2⟩
/-- Blocks of three cells. -/
def trioF (a b c : Value) : Nat → Value
  | 0 => a
  | 1 => b
  | _ => c
theorem trio_lit (w : World) (a b c : Value) (t : TypeId) : (w.alloc (.cells #[a, b, c] t)).rowIs w.heap.size t 3 (trioF a b c) := World.rowIs_alloc w #[a, b, c] t (trioF a b c) (by
  intro i hi
  match i, hi with
  | 0, _ => rfl
  | 1, _ => rfl
  | 2, _ => rfl)
theorem trio_any {w : World} {g : Nat} {t : TypeId} {a b c : Value} (h : w.rowIs g t 3 (trioF a b c)) : w.cell? ⟨g, 0, none⟩ = some a ∧ w.cell? ⟨g, 1, none⟩ = some b ∧ w.cell? ⟨g, 2, none⟩ = some c :=
  ⟨h.cell (i := 0) (by omega), h.cell (i := 1) (by omega), h.cell (i := 2) (by omega)⟩
end Go.Proofs.Ytiidkfcblnkghaa
