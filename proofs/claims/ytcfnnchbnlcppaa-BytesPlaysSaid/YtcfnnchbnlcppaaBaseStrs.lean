/- Arguments that are slices of structs of integers, bools and strings: from the reading of a row to their cells. -/
import Derived.Test.YtcfnnchbnlcppaaBaseRecs
import Derived.ChangeArms
namespace Go.Proofs.Ytcfnnchbnlcppaa
open Go.RowKit Go.ChangeShapes Go.WideShapes Go.Deep

/-- A field's kind: an integer's; or a bool; or none: a string. -/
def kindS : Option (Option IntKind) → TypeDesc
  | some (some k) => .int k
  | some none => .bool
  | none => .string
def KindS : Option (Option IntKind) → Value → Prop
  | some (some k), v => ∃ n, v = .int k n ∧ (Lit.int k n).wf = true
  | some none, v => ∃ b, v = .bool b
  | none, v => ∃ s : ByteArray, v = .string s ∧ s.size ≤ maxLen
/-- A slice that came in, its elements of so many fields of these kinds. -/
def StrIn (w : World) (a : Option Addr) (len cap : Nat) (ks : List (Option (Option IntKind))) (f : Nat → Nat → Value) : Prop :=
  (a = none ∧ len = 0 ∧ cap = 0) ∨
  ∃ x, a = some x ∧ len ≤ cap ∧ cap ≤ maxLen ∧ ∀ i j k, i < len → ks[j]? = some k → w.cell? (x.add (i * ks.length + j)) = some (f i j) ∧ KindS k (f i j)
section
variable {H : Type} {enc : TypeId × Value → H} {P : Program} {w : World} {base : Nat} {spare : Nat → Bool} {held : Bool}
theorem strs_of_cells {a : Addr} {len cap c : Nat} {ks : List (Option (Option IntKind))} (hks : ks.length = c) (hl : len ≤ cap) (hm : cap ≤ maxLen)
    (h : ∀ i, i < len → ∃ cs : List Value, (∀ j, j < c → w.cell? ((a.add (i * c)).add j) = cs[j]?) ∧ ∀ (j : Nat) (k : Option (Option IntKind)), ks[j]? = some k → ∃ u : Value, cs[j]? = some u ∧ KindS k u) : ∃ f, StrIn w (some a) len cap ks f := by
  have h2 : ∀ i j, ∃ u : Value, ∀ k, i < len → ks[j]? = some k → w.cell? (a.add (i * c + j)) = some u ∧ KindS k u := fun i j => by
    by_cases hi : i < len
    · obtain ⟨cs, h3, h4⟩ := h i hi
      cases hk : ks[j]? with
      | none => exact ⟨.bool false, fun k _ e => by cases e⟩
      | some k =>
        obtain ⟨u, h5, h6⟩ := h4 j k hk
        have hj := (List.getElem?_eq_some_iff.1 hk).1
        refine ⟨u, fun k' _ e => ?_⟩
        injection e with e
        subst e
        rw [← add_two, h3 j (by omega), h5]
        exact ⟨rfl, h6⟩
    · exact ⟨.bool false, fun k hi' _ => absurd hi' hi⟩
  refine ⟨fun i j => Classical.choose (h2 i j), .inr ⟨a, rfl, hl, hm, fun i j k hi hk => ?_⟩⟩
  rw [hks]
  exact Classical.choose_spec (h2 i j) k hi hk
theorem strs_of_struct {t e : TypeId} {fs : Array Field} {fuel : Nat} {A : Option Addr} {len cap : Nat} {x : DataW H × List MemPlace} {ks : List (Option (Option IntKind))} (ht : P.underlying t = some (.slice e)) (he : P.underlying e = some (.struct fs))
    (hone : oneCellFields P fs = true) (hC : P.cellsOf e = ks.length) (hks : (fs.toList.map fun f => P.underlying f.type) = ks.map fun k => some (kindS k)) (h : DataW.trod enc P w base spare held fuel t [.slice A len cap] = some x) : ∃ f, StrIn w A len cap ks f := by
  rcases open_slice ht h with ⟨h0, _⟩ | ⟨a, len', cap', m, n, D, Pl, hcs, _, hl, hm, hmm, _, hi⟩
  · injection h0 with h0
    injection h0 with h1 h2 h3
    exact ⟨fun _ _ => .bool false, .inl ⟨h1, h2, h3⟩⟩
  · injection hcs with hcs
    injection hcs with h1 h2 h3
    subst h1 h2 h3
    refine strs_of_cells rfl hl hm fun i hlt => ?_
    have him : i < m := by rw [hmm]; split <;> omega
    obtain ⟨cs', hc, ht'⟩ := hi i him
    rw [hC] at hc
    obtain ⟨_, hcl, hat⟩ := World.cells?_some hc
    obtain ⟨xs, n', _, _, _, hxl, hf⟩ := DataW.trod_struct he ht'
    refine ⟨cs', hat, fun j k hk => ?_⟩
    have hjk := (List.getElem?_eq_some_iff.1 hk).1
    have hlen : fs.toList.length = ks.length := by rw [← List.length_map (f := fun f => P.underlying f.type), hks, List.length_map]
    have hjf : j < fs.size := by rw [← Array.length_toList]; omega
    have hfj : fs[j]? = some (fs[j]'hjf) := Array.getElem?_eq_getElem hjf
    obtain ⟨ho, hone'⟩ := hone_of hone j _ hfj
    have hu : P.underlying (fs[j]'hjf).type = some (kindS k) := by
      have h5 : (fs.toList.map fun f => P.underlying f.type)[j]? = (ks.map fun k => some (kindS k))[j]? := by rw [hks]
      rw [List.getElem?_map, List.getElem?_map, hk, Array.getElem?_toList, hfj] at h5
      simpa using h5
    have h6 := hf j _ hfj
    rw [ho, hone'] at h6
    have hjc : j < cs'.length := by omega
    have e1 : (cs'.drop j).take 1 = [cs'[j]'hjc] := by
      rw [List.drop_eq_getElem_cons hjc]
      rfl
    rw [e1, List.getElem?_eq_getElem (show j < xs.length by omega)] at h6
    rcases k with _ | _ | k
    · obtain ⟨z, e2, _, hw⟩ := DataW.trod_string hu h6
      injection e2 with e2
      exact ⟨_, List.getElem?_eq_getElem hjc, z, e2, hw⟩
    · obtain ⟨z, e2, _⟩ := DataW.trod_bool hu h6
      injection e2 with e2
      exact ⟨_, List.getElem?_eq_getElem hjc, z, e2⟩
    · obtain ⟨z, e2, _, hw⟩ := DataW.trod_int hu h6
      injection e2 with e2
      exact ⟨_, List.getElem?_eq_getElem hjc, z, e2, hw⟩
end
theorem StrIn.cells {w : World} {a : Option Addr} {len cap : Nat} {ks : List (Option (Option IntKind))} {f : Nat → Nat → Value} (h : StrIn w a len cap ks f) (hk : 0 < ks.length) (h0 : 0 < len) :
    ∃ b off, a = some ⟨b, off, none⟩ ∧ b < w.heap.size ∧ ∀ i j k, i < len → ks[j]? = some k → w.cell? ⟨b, off + (i * ks.length + j), none⟩ = some (f i j) ∧ KindS k (f i j) := by
  rcases h with ⟨_, rfl, _⟩ | ⟨x, rfl, h1, h2, h3⟩
  · omega
  · have hc0 := (h3 0 0 (ks[0]'hk) h0 (List.getElem?_eq_getElem hk)).1
    rw [show x.add (0 * ks.length + 0) = x by rw [Nat.zero_mul]; rfl] at hc0
    obtain ⟨e, hlt⟩ := spot_none hc0
    refine ⟨x.block, x.off, by rw [← e], hlt, fun i j k hi hj => ?_⟩
    have := h3 i j k hi hj
    rw [e, Addr.add_lit] at this
    exact this
end Go.Proofs.Ytcfnnchbnlcppaa
