/- A slice of slices of ints among the arguments: from the reading of a row to what it reads as. -/
import Derived.Test.YtfclnahpgbpjbaaBaseRows
import Derived.Deep.Matrix
namespace Go.Proofs.Ytfclnahpgbpjbaa
open Go.RowKit Go.ChangeShapes Go.WideShapes Go.Deep

/-- A slice of slices of ints that reads as M. -/
def RowsAt (w : World) (A : Option Addr) (M : List (List Int)) : Prop := M = [] ∨ ∃ b off, A = some ⟨b, off, none⟩ ∧ b < w.heap.size ∧ ∀ (k : Nat) (l : List Int), M[k]? = some l → ∃ A' c', w.cell? ⟨b, off + k, none⟩ = some (.slice A' l.length c') ∧ IntsAt w A' l
theorem RowsAt.at_ {w : World} {A : Option Addr} {M : List (List Int)} {k : Nat} (h : RowsAt w A M) (hk : k < M.length) : ∃ b off A' c', A = some ⟨b, off, none⟩ ∧ w.cell? ⟨b, off + k, none⟩ = some (.slice A' (M[k]'hk).length c') ∧ IntsAt w A' (M[k]'hk) := by
  rcases h with h | ⟨b, off, e, _, hc⟩
  · subst h; simp at hk
  · obtain ⟨A', c', h1, h2⟩ := hc k _ (List.getElem?_eq_getElem hk)
    exact ⟨b, off, A', c', e, h1, h2⟩
theorem RowsAt.below {w w' : World} {A : Option Addr} {M : List (List Int)} (h : RowsAt w A M) (hb : Below w.heap.size w w') : RowsAt w' A M := by
  rcases h with h | ⟨b, off, e, hlt, hc⟩
  · exact .inl h
  · refine .inr ⟨b, off, e, Nat.lt_of_lt_of_le hlt hb.size, fun k l hl => ?_⟩
    obtain ⟨A', c', h1, h2⟩ := hc k l hl
    exact ⟨A', c', (hb.cell (p := ⟨b, off + k, none⟩) hlt).trans h1, h2.below hb⟩
/-- A slice of slices of ints that came in. -/
def RowsIn (w : World) (A : Option Addr) (len cap : Nat) (M : List (List Int)) : Prop := M.length = len ∧ len ≤ cap ∧ RowsAt w A M
theorem rows_in {H : Type} {enc : TypeId × Value → H} {P : Program} {w : World} {base : Nat} {held : Bool} {t e q : TypeId} {fuel : Nat} {A : Option Addr} {len cap : Nat} {x : DataW H × List MemPlace} (ht : P.underlying t = some (.slice e)) (he : P.underlying e = some (.slice q)) (hq : P.underlying q = some (.int .i64))
    (ce : P.cellsOf e = 1) (cq : P.cellsOf q = 1) (h : DataW.trod enc P w base (fun _ => true) held fuel t [.slice A len cap] = some x) : ∃ M, RowsIn w A len cap M := by
  rcases open_int_rows ht he hq ce cq h with ⟨h0, _⟩ | ⟨a, len', cap', A', L, C, Z, hcs, _, hl, _, _, hr⟩
  · injection h0 with h0
    injection h0 with h1 h2 h3
    subst h1 h2 h3
    exact ⟨[], rfl, Nat.le_refl _, .inl rfl⟩
  · injection hcs with hcs
    injection hcs with h1 h2 h3
    subst h1 h2 h3
    have each : ∀ r, r < cap → RowIn .i64 w (A' r) (L r) (C r) (Z r) := fun r hlt => by
      obtain ⟨_, k1, k2, k3, k4, k5, k6⟩ := hr r hlt
      cases hA : A' r with
      | none =>
        have hC := k5 hA
        exact .inl ⟨rfl, by omega, hC, List.eq_nil_of_length_eq_zero (by omega)⟩
      | some x => exact .inr ⟨x, rfl, k1, k2, k3, fun i hi => (k6 x hA).2 i (by omega), k4⟩
    refine ⟨(List.range len).map fun r => (Z r).take (L r), by simp, hl, ?_⟩
    by_cases h0 : len = 0
    · subst h0; exact .inl rfl
    · have hc0 := (hr 0 (by omega)).1
      rw [show a.add 0 = a by unfold Addr.add; rfl] at hc0
      obtain ⟨ea, hlt⟩ := spot_none hc0
      refine .inr ⟨a.block, a.off, by rw [← ea], hlt, fun k l hk => ?_⟩
      have hkl : k < len := by
        have := (List.getElem?_eq_some_iff.1 hk).1
        simpa using this
      rw [List.getElem?_map, List.getElem?_range hkl] at hk
      injection hk with hk
      subst hk
      have R := each k (by omega)
      refine ⟨A' k, C k, ?_, R.ints.1⟩
      have hc := (hr k (by omega)).1
      rw [ea, Addr.add_lit] at hc
      rw [hc, ← R.len.2]
end Go.Proofs.Ytfclnahpgbpjbaa
