/- Arguments that are slices of structs, or of arrays, of integers: from the reading of a row to their cells. -/
import Derived.Test.YtgooajgoofojmaaDoorBaseRows
import Derived.Deep.Slices
import Derived.Deep.Fields
import Derived.ChangeSame
namespace Go.Proofs.YtgooajgoofojmaaDoor
open Go.RowKit Go.ChangeShapes Go.WideShapes Go.Deep

/-- A slice that came in, its elements of so many integers of these kinds. -/
def RecsIn (w : World) (a : Option Addr) (len cap : Nat) (ks : List IntKind) (f : Nat → Nat → Int) : Prop :=
  (a = none ∧ len = 0 ∧ cap = 0) ∨
  ∃ x, a = some x ∧ len ≤ cap ∧ cap ≤ maxLen ∧ ∀ i j k, i < len → ks[j]? = some k → w.cell? (x.add (i * ks.length + j)) = some (.int k (f i j)) ∧ (Lit.int k (f i j)).wf = true
theorem add_two (a : Addr) (i j : Nat) : (a.add i).add j = a.add (i + j) := by
  unfold Addr.add
  by_cases hi : i = 0 <;> by_cases hj : j = 0 <;> simp [hi, hj, Nat.add_assoc]
section
variable {H : Type} {enc : TypeId × Value → H} {P : Program} {w : World} {base : Nat} {spare : Nat → Bool} {held : Bool}
theorem recs_of_cells {a : Addr} {len cap c : Nat} {ks : List IntKind} (hks : ks.length = c) (hl : len ≤ cap) (hm : cap ≤ maxLen)
    (h : ∀ i, i < len → ∃ cs : List Value, (∀ j, j < c → w.cell? ((a.add (i * c)).add j) = cs[j]?) ∧ ∀ (j : Nat) (k : IntKind), ks[j]? = some k → ∃ n : Int, cs[j]? = some (Value.int k n) ∧ (Lit.int k n).wf = true) : ∃ f, RecsIn w (some a) len cap ks f := by
  have h2 : ∀ i j, ∃ n : Int, ∀ k, i < len → ks[j]? = some k → w.cell? (a.add (i * c + j)) = some (.int k n) ∧ (Lit.int k n).wf = true := fun i j => by
    by_cases hi : i < len
    · obtain ⟨cs, h3, h4⟩ := h i hi
      cases hk : ks[j]? with
      | none => exact ⟨0, fun k _ e => by cases e⟩
      | some k =>
        obtain ⟨n, h5, h6⟩ := h4 j k hk
        have hj := (List.getElem?_eq_some_iff.1 hk).1
        refine ⟨n, fun k' _ e => ?_⟩
        injection e with e
        subst e
        rw [← add_two, h3 j (by omega), h5]
        exact ⟨rfl, h6⟩
    · exact ⟨0, fun k hi' _ => absurd hi' hi⟩
  refine ⟨fun i j => Classical.choose (h2 i j), .inr ⟨a, rfl, hl, hm, fun i j k hi hk => ?_⟩⟩
  rw [hks]
  exact Classical.choose_spec (h2 i j) k hi hk
theorem recs_of_struct {t e : TypeId} {fs : Array Field} {fuel : Nat} {A : Option Addr} {len cap : Nat} {x : DataW H × List MemPlace} {ks : List IntKind} (ht : P.underlying t = some (.slice e)) (he : P.underlying e = some (.struct fs))
    (hone : oneCellFields P fs = true) (hC : P.cellsOf e = ks.length) (hks : (fs.toList.map fun f => P.underlying f.type) = ks.map fun k => some (.int k)) (h : DataW.trod enc P w base spare held fuel t [.slice A len cap] = some x) : ∃ f, RecsIn w A len cap ks f := by
  rcases open_slice ht h with ⟨h0, _⟩ | ⟨a, len', cap', m, n, D, Pl, hcs, _, hl, hm, hmm, _, hi⟩
  · injection h0 with h0
    injection h0 with h1 h2 h3
    exact ⟨fun _ _ => 0, .inl ⟨h1, h2, h3⟩⟩
  · injection hcs with hcs
    injection hcs with h1 h2 h3
    subst h1 h2 h3
    refine recs_of_cells rfl hl hm fun i hlt => ?_
    have him : i < m := by rw [hmm]; split <;> omega
    obtain ⟨cs', hc, ht'⟩ := hi i him
    rw [hC] at hc
    obtain ⟨_, hcl, hat⟩ := World.cells?_some hc
    obtain ⟨xs, n', _, _, _, hxl, hf⟩ := DataW.trod_struct he ht'
    refine ⟨cs', hat, fun j k hk => ?_⟩
    have hjk := (List.getElem?_eq_some_iff.1 hk).1
    have hlen : fs.toList.length = ks.length := by rw [← List.length_map (f := fun f => P.underlying f.type), hks, List.length_map]
    have hjf : j < fs.size := by rw [← Array.length_toList]; omega
    have hfj : fs[j]? = some (fs[j]'hjf) := Array.getElem?_eq_getElem hjf
    obtain ⟨ho, hone'⟩ := hone_of hone j _ hfj
    have hu : P.underlying (fs[j]'hjf).type = some (.int k) := by
      have h5 : (fs.toList.map fun f => P.underlying f.type)[j]? = (ks.map fun k => some (TypeDesc.int k))[j]? := by rw [hks]
      rw [List.getElem?_map, List.getElem?_map, hk, Array.getElem?_toList, hfj] at h5
      simpa using h5
    have h6 := hf j _ hfj
    rw [ho, hone'] at h6
    have hjc : j < cs'.length := by omega
    have e1 : (cs'.drop j).take 1 = [cs'[j]'hjc] := by
      rw [List.drop_eq_getElem_cons hjc]
      rfl
    rw [e1, List.getElem?_eq_getElem (show j < xs.length by omega)] at h6
    obtain ⟨z, e2, _, hw⟩ := DataW.trod_int hu h6
    injection e2 with e2
    exact ⟨z, by rw [List.getElem?_eq_getElem hjc, e2], hw⟩
theorem recs_of_array {t e u : TypeId} {c fuel : Nat} {A : Option Addr} {len cap : Nat} {k : IntKind} {x : DataW H × List MemPlace} (ht : P.underlying t = some (.slice e)) (he : P.underlying e = some (.array c u)) (hu : P.underlying u = some (.int k))
    (hC : P.cellsOf e = c) (hone : P.cellsOf u = 1) (h : DataW.trod enc P w base spare held fuel t [.slice A len cap] = some x) : ∃ f, RecsIn w A len cap (List.replicate c k) f := by
  rcases open_slice ht h with ⟨h0, _⟩ | ⟨a, len', cap', m, n, D, Pl, hcs, _, hl, hm, hmm, _, hi⟩
  · injection h0 with h0
    injection h0 with h1 h2 h3
    exact ⟨fun _ _ => 0, .inl ⟨h1, h2, h3⟩⟩
  · injection hcs with hcs
    injection hcs with h1 h2 h3
    subst h1 h2 h3
    refine recs_of_cells (List.length_replicate ..) hl hm fun i hlt => ?_
    have him : i < m := by rw [hmm]; split <;> omega
    obtain ⟨cs', hc, ht'⟩ := hi i him
    rw [hC] at hc
    obtain ⟨_, hcl, hat⟩ := World.cells?_some hc
    obtain ⟨xs, n', _, _, _, hxl, hf⟩ := DataW.trod_array he ht'
    refine ⟨cs', hat, fun j k' hk => ?_⟩
    have hj : j < c := by
      have := (List.getElem?_eq_some_iff.1 hk).1
      rwa [List.length_replicate] at this
    rw [List.getElem?_replicate, if_pos hj] at hk
    injection hk with hk
    subst hk
    have h6 := hf j hj
    rw [hone, Nat.mul_one] at h6
    have hjc : j < cs'.length := by omega
    have e1 : (cs'.drop j).take 1 = [cs'[j]'hjc] := by
      rw [List.drop_eq_getElem_cons hjc]
      rfl
    rw [e1, List.getElem?_eq_getElem (show j < xs.length by omega)] at h6
    obtain ⟨z, e2, _, hw⟩ := DataW.trod_int hu h6
    injection e2 with e2
    exact ⟨z, by rw [List.getElem?_eq_getElem hjc, e2], hw⟩
end
theorem RecsIn.len {w : World} {a : Option Addr} {len cap : Nat} {ks : List IntKind} {f : Nat → Nat → Int} (h : RecsIn w a len cap ks f) : len ≤ 9223372036854775807 := by
  rcases h with ⟨_, rfl, _⟩ | ⟨x, _, h1, h2, _⟩
  · omega
  · unfold maxLen at h2; omega
theorem RecsIn.cells {w : World} {a : Option Addr} {len cap : Nat} {ks : List IntKind} {f : Nat → Nat → Int} (h : RecsIn w a len cap ks f) (hk : 0 < ks.length) (h0 : 0 < len) :
    ∃ b off, a = some ⟨b, off, none⟩ ∧ b < w.heap.size ∧ ∀ i j k, i < len → ks[j]? = some k → w.cell? ⟨b, off + (i * ks.length + j), none⟩ = some (.int k (f i j)) ∧ (Lit.int k (f i j)).wf = true := by
  rcases h with ⟨_, rfl, _⟩ | ⟨x, rfl, h1, h2, h3⟩
  · omega
  · have hc0 := (h3 0 0 (ks[0]'hk) h0 (List.getElem?_eq_getElem hk)).1
    rw [show x.add (0 * ks.length + 0) = x by rw [Nat.zero_mul]; rfl] at hc0
    obtain ⟨e, hlt⟩ := spot_none hc0
    refine ⟨x.block, x.off, by rw [← e], hlt, fun i j k hi hj => ?_⟩
    have := h3 i j k hi hj
    rw [e, Addr.add_lit] at this
    exact this
/-- A slice of pairs of ints that reads as xs. -/
def PairsAt (w : World) (A : Option Addr) (xs : List (Int × Int)) : Prop := xs = [] ∨ ∃ b off, A = some ⟨b, off, none⟩ ∧ b < w.heap.size ∧ ∀ (k : Nat) (p : Int × Int), xs[k]? = some p → w.cell? ⟨b, off + k * 2, none⟩ = some (.int .i64 p.1) ∧ w.cell? ⟨b, off + k * 2 + 1, none⟩ = some (.int .i64 p.2)
theorem PairsAt.at_ {w : World} {A : Option Addr} {xs : List (Int × Int)} {k : Nat} (h : PairsAt w A xs) (hk : k < xs.length) : ∃ b off, A = some ⟨b, off, none⟩ ∧ w.cell? ⟨b, off + k * 2, none⟩ = some (.int .i64 (xs[k]'hk).1) ∧ w.cell? ⟨b, off + k * 2 + 1, none⟩ = some (.int .i64 (xs[k]'hk).2) := by
  rcases h with h | ⟨b, off, e, _, hc⟩
  · subst h; simp at hk
  · exact ⟨b, off, e, hc k _ (List.getElem?_eq_getElem hk)⟩
theorem PairsAt.below {w w' : World} {A : Option Addr} {xs : List (Int × Int)} (h : PairsAt w A xs) (hb : Below w.heap.size w w') : PairsAt w' A xs := by
  rcases h with h | ⟨b, off, e, hlt, hc⟩
  · exact .inl h
  · exact .inr ⟨b, off, e, Nat.lt_of_lt_of_le hlt hb.size, fun k p hp => ⟨(hb.cell (p := ⟨b, off + k * 2, none⟩) hlt).trans (hc k p hp).1, (hb.cell (p := ⟨b, off + k * 2 + 1, none⟩) hlt).trans (hc k p hp).2⟩⟩
def InInt (x : Int) : Prop := -9223372036854775808 ≤ x ∧ x ≤ 9223372036854775807
theorem RecsIn.pairs {w : World} {a : Option Addr} {len cap : Nat} {f : Nat → Nat → Int} (h : RecsIn w a len cap [.i64, .i64] f) : ∃ xs : List (Int × Int), PairsAt w a xs ∧ len = xs.length ∧ ∀ p ∈ xs, InInt p.1 ∧ InInt p.2 := by
  refine ⟨(List.range len).map fun i => (f i 0, f i 1), ?_, by simp, fun p hp => ?_⟩
  · by_cases h0 : len = 0
    · subst h0; exact .inl rfl
    · obtain ⟨b, off, e, hb, hc⟩ := h.cells (by simp) (by omega)
      refine .inr ⟨b, off, e, hb, fun k p hp => ?_⟩
      rw [List.getElem?_map] at hp
      have hk : k < len := by
        have := (List.getElem?_eq_some_iff.1 (show ((List.range len).map fun i => (f i 0, f i 1))[k]? = some p by rw [List.getElem?_map]; exact hp)).1
        simpa using this
      rw [List.getElem?_range hk] at hp
      injection hp with hp
      subst hp
      exact ⟨(hc k 0 .i64 hk rfl).1, by have := (hc k 1 .i64 hk rfl).1; rwa [← Nat.add_assoc] at this⟩
  · obtain ⟨i, hi, rfl⟩ := List.mem_map.1 hp
    have hi' := List.mem_range.1 hi
    obtain ⟨b, off, e, hb, hc⟩ := h.cells (by simp) (by omega)
    exact ⟨int_range_i64 (hc i 0 .i64 hi' rfl).2, int_range_i64 (hc i 1 .i64 hi' rfl).2⟩
end Go.Proofs.YtgooajgoofojmaaDoor
