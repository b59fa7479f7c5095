/- A slice of texts among the arguments: from the reading of a row to what it reads as. -/
import Derived.Test.YtcafppconcghhaaDoorBaseTexts
import Derived.SliceStrings
namespace Go.Proofs.YtcafppconcghhaaDoor
open Go.RowKit Go.ChangeShapes Go.WideShapes

/-- A slice of texts that came in. -/
def TextsIn (w : World) (A : Option Addr) (len cap : Nat) (M : List (List UInt8)) : Prop := M.length = len ∧ TextsAt w (.slice A len cap) M
theorem cell_at {w : World} {a : Addr} {v : Value} (h : w.cell? a = some v) : a.block < w.heap.size ∧ a = ⟨a.block, a.off, none⟩ := by
  obtain ⟨b, o, sp⟩ := a
  cases sp with
  | some x =>
    unfold World.cell? at h
    simp only at h
    split at h <;> cases h
  | none =>
    refine ⟨?_, rfl⟩
    unfold World.cell? at h
    cases hb : w.heap[b]? with
    | none => simp [hb] at h
    | some o' => exact (Array.getElem?_eq_some_iff.1 hb).1
theorem texts_in {H : Type} {enc : TypeId × Value → H} {P : Program} {w : World} {base : Nat} {spare : Nat → Bool} {held : Bool} {t e : TypeId} {fuel : Nat} {A : Option Addr} {len cap : Nat} {x : DataW H × List MemPlace} (ht : P.underlying t = some (.slice e)) (he : P.underlying e = some .string) (hc : P.cellsOf e = 1)
    (h : DataW.trod enc P w base spare held fuel t [.slice A len cap] = some x) : ∃ M, TextsIn w A len cap M := by
  rcases open_strings ht he hc h with ⟨h0, _⟩ | ⟨a, len', cap', ss, hcs, _, hl, _, hlen, _, hcell, _⟩
  · injection h0 with h0
    injection h0 with h1 h2 h3
    subst h1 h2 h3
    exact ⟨[], rfl, none, 0, rfl, fun j x hx => by cases hx⟩
  · injection hcs with hcs
    injection hcs with h1 h2 h3
    subst h1 h2 h3
    have hss : len ≤ ss.length := by rw [hlen]; split <;> omega
    have hml : ((ss.take len).map txt).length = len := by rw [List.length_map, List.length_take]; omega
    refine ⟨(ss.take len).map txt, hml, some a, cap, by rw [hml], fun j x hx => ?_⟩
    have hj : j < len := by
      have := (List.getElem?_eq_some_iff.1 hx).1
      omega
    obtain ⟨b, o, sp⟩ := a
    have hc1 := hcell j (by omega)
    have hsp : sp = none := by
      cases sp with
      | none => rfl
      | some y =>
        have h2 := (cell_at (hcell 0 (by omega))).2
        simp [Addr.add] at h2
    subst hsp
    have e : (⟨b, o, none⟩ : Addr).add j = ⟨b, o + j, none⟩ := by simp [Addr.add]
    rw [e] at hc1
    have h1 := (cell_at hc1).1
    have hx2 : x = txt (ss.getD j ByteArray.empty) := by
      rw [List.getElem?_map, List.getElem?_take, if_pos hj, List.getElem?_eq_getElem (show j < ss.length by omega)] at hx
      rw [List.getD_eq_getElem?_getD, List.getElem?_eq_getElem (show j < ss.length by omega)]
      simpa using hx.symm
    exact ⟨b, o, rfl, h1, by rw [hx2]; exact hc1⟩
end Go.Proofs.YtcafppconcghhaaDoor
