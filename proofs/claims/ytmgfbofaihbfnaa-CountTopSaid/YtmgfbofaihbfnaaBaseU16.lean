/- Slices of 16-bit numbers that come in as arguments: from the reading of a row to their cells. -/
import Derived.Test.YtmgfbofaihbfnaaBaseRows
namespace Go.Proofs.Ytmgfbofaihbfnaa
open Go.RowKit

/-- A slice of 16-bit numbers that reads as xs. -/
def U16sAt (w : World) (A : Option Addr) (xs : List Nat) : Prop := xs = [] ∨ ∃ b off, A = some ⟨b, off, none⟩ ∧ b < w.heap.size ∧ ∀ (k : Nat) (x : Nat), xs[k]? = some x → x < 65536 ∧ w.cell? ⟨b, off + k, none⟩ = some (.int .u16 x)
theorem U16sAt.below {w w' : World} {A : Option Addr} {xs : List Nat} (h : U16sAt w A xs) (hb : Below w.heap.size w w') : U16sAt w' A xs := by
  rcases h with h | ⟨b, off, e, hlt, hc⟩
  · exact .inl h
  · exact .inr ⟨b, off, e, Nat.lt_of_lt_of_le hlt hb.size, fun k x hx => ⟨(hc k x hx).1, (hb.cell (p := ⟨b, off + k, none⟩) hlt).trans (hc k x hx).2⟩⟩
/-- One of them, by its number. -/
theorem U16sAt.at_ {w : World} {A : Option Addr} {xs : List Nat} {k : Nat} (h : U16sAt w A xs) (hk : k < xs.length) : ∃ b off, A = some ⟨b, off, none⟩ ∧ b < w.heap.size ∧ xs.getD k 0 < 65536 ∧ w.cell? ⟨b, off + k, none⟩ = some (.int .u16 (xs.getD k 0 : Nat)) := by
  rcases h with h | ⟨b, off, e, hb, hc⟩
  · subst h; simp at hk
  · have hx : xs[k]? = some (xs.getD k 0) := by rw [List.getD_eq_getElem?_getD, List.getElem?_eq_getElem hk]; rfl
    obtain ⟨h1, h2⟩ := hc k _ hx
    exact ⟨b, off, e, hb, h1, h2⟩
theorem int_range_u16 {n : Int} (h : (Lit.int .u16 n).wf = true) : 0 ≤ n ∧ n ≤ 65535 := by
  have hmin : IntKind.u16.min = 0 := rfl
  have hmax : IntKind.u16.max = 65535 := rfl
  simp only [Lit.wf, Bool.and_eq_true, decide_eq_true_eq] at h
  omega
theorem RowIn.u16s {w : World} {a : Option Addr} {len cap : Nat} {zs : List Int} (h : RowIn .u16 w a len cap zs) : ∃ xs : List Nat, U16sAt w a xs ∧ xs.length = len := by
  refine ⟨(zs.take len).map Int.toNat, ?_, by rw [List.length_map]; exact h.len.2.symm⟩
  by_cases h0 : zs.take len = []
  · rw [h0]; exact .inl rfl
  · obtain ⟨b, off, e, hb, hc⟩ := h.cells h0
    refine .inr ⟨b, off, e, hb, fun j x hx => ?_⟩
    rw [List.getElem?_map] at hx
    cases ey : (zs.take len)[j]? with
    | none => rw [ey] at hx; cases hx
    | some y =>
      rw [ey] at hx
      simp only [Option.map_some, Option.some.injEq] at hx
      obtain ⟨h1, h2⟩ := hc j y ey
      have h3 := int_range_u16 h1
      have : ((x : Nat) : Int) = y := by omega
      rw [this]
      exact ⟨by omega, h2⟩
end Go.Proofs.Ytmgfbofaihbfnaa
