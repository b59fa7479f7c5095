/- Arguments that are structs of two integers, by value; and slices of such: from the reading of a row. -/
import Derived.Test.YtppiibdeigjcjaaBaseRecs
namespace Go.Proofs.Ytppiibdeigjcjaa
open Go.RowKit Go.ChangeShapes Go.WideShapes Go.Deep

/-- A struct of two integers that came in. -/
theorem open_rec2 {H : Type} {enc : TypeId × Value → H} {P : Program} {w : World} {base : Nat} {spare : Nat → Bool} {held : Bool} {r : Reach} {b0 : Nat} {t : TypeId} {fs : Array Field} {k : IntKind} {v : Value} {d : DataW H} {p : List MemPlace} (ht : P.underlying t = some (.struct fs)) (hone : oneCellFields P fs = true) (hks : (fs.toList.map fun f => P.underlying f.type) = [k, k].map fun k => some (.int k)) (hct : P.cellsOf t = 2)
    (hv : Value.okWide P w r b0 t v) (h : DataW.Trod enc P w base spare held t v d p) : ∃ x0 x1 : Int, v = .agg #[.int k x0, .int k x1] ∧ (Lit.int k x0).wf = true ∧ (Lit.int k x1).wf = true := by
  unfold Value.okWide at hv
  rw [ht] at hv
  obtain ⟨cs, rfl, hsz, _⟩ := hv
  rw [hct] at hsz
  obtain ⟨l⟩ := cs
  match l, hsz with
  | [c0, c1], _ =>
    obtain ⟨fuel, hf⟩ := h
    obtain ⟨xs, n', _, _, _, hxl, hfl⟩ := DataW.trod_struct ht hf
    have hlen : fs.toList.length = 2 := by rw [← List.length_map (f := fun f => P.underlying f.type), hks]; rfl
    have hsz2 : fs.size = 2 := by rw [← Array.length_toList]; exact hlen
    have get : ∀ j (hj : j < 2), ∃ z : Int, [c0, c1][j]'hj = .int k z ∧ (Lit.int k z).wf = true := fun j hj => by
      have hjf : j < fs.size := by omega
      have hfj : fs[j]? = some (fs[j]'hjf) := Array.getElem?_eq_getElem hjf
      obtain ⟨ho, hone'⟩ := hone_of hone j _ hfj
      have hu : P.underlying (fs[j]'hjf).type = some (.int k) := by
        have h5 : (fs.toList.map fun f => P.underlying f.type)[j]? = ([k, k].map fun k => some (TypeDesc.int k))[j]? := by rw [hks]
        rw [List.getElem?_map, List.getElem?_map, Array.getElem?_toList, hfj] at h5
        match j, hj with
        | 0, _ => simpa using h5
        | 1, _ => simpa using h5
      have h6 := hfl j _ hfj
      rw [ho, hone'] at h6
      have e1 : ([c0, c1].drop j).take 1 = [[c0, c1][j]'hj] := by
        rw [List.drop_eq_getElem_cons hj]
        rfl
      have hcl : (Value.agg ⟨[c0, c1]⟩).cells.toList = [c0, c1] := rfl
      rw [hcl, e1, List.getElem?_eq_getElem (show j < xs.length by omega)] at h6
      obtain ⟨z, e2, _, hw⟩ := DataW.trod_int hu h6
      injection e2 with e2
      exact ⟨z, e2, hw⟩
    obtain ⟨x0, f0, w0⟩ := get 0 (by omega)
    obtain ⟨x1, f1, w1⟩ := get 1 (by omega)
    simp at f0 f1
    exact ⟨x0, x1, by rw [f0, f1], w0, w1⟩
end Go.Proofs.Ytppiibdeigjcjaa
