/- Slices that come in as arguments: from the reading of a row to ints and bytes. -/
import Derived.Test.YtgooajgoofojmaaDoorBase
import Derived.ProofKit
import Derived.OpenShut
import Derived.ChangeOld
namespace Go.Proofs.YtgooajgoofojmaaDoor
open Go.RowKit

/-- A slice of bytes that reads as xs. -/
def BytesAt (w : World) (A : Option Addr) (xs : List Nat) : Prop := xs = [] ∨ ∃ b off, A = some ⟨b, off, none⟩ ∧ b < w.heap.size ∧ ∀ (k : Nat) (x : Nat), xs[k]? = some x → x < 256 ∧ w.cell? ⟨b, off + k, none⟩ = some (.int .u8 x)
theorem BytesAt.at_ {w : World} {A : Option Addr} {xs : List Nat} {k : Nat} (h : BytesAt w A xs) (hk : k < xs.length) : ∃ b off, A = some ⟨b, off, none⟩ ∧ (xs[k]'hk) < 256 ∧ w.cell? ⟨b, off + k, none⟩ = some (.int .u8 (xs[k]'hk : Nat)) := by
  rcases h with h | ⟨b, off, e, _, hc⟩
  · subst h; simp at hk
  · obtain ⟨h1, h2⟩ := hc k _ (List.getElem?_eq_getElem hk)
    exact ⟨b, off, e, h1, h2⟩
theorem BytesAt.below {w w' : World} {A : Option Addr} {xs : List Nat} (h : BytesAt w A xs) (hb : Below w.heap.size w w') : BytesAt w' A xs := by
  rcases h with h | ⟨b, off, e, hlt, hc⟩
  · exact .inl h
  · exact .inr ⟨b, off, e, Nat.lt_of_lt_of_le hlt hb.size, fun k x hx => ⟨(hc k x hx).1, (hb.cell (p := ⟨b, off + k, none⟩) hlt).trans (hc k x hx).2⟩⟩
theorem int_range_i64 {n : Int} (h : (Lit.int .i64 n).wf = true) : -9223372036854775808 ≤ n ∧ n ≤ 9223372036854775807 := by
  have hmin : IntKind.i64.min = -9223372036854775808 := rfl
  have hmax : IntKind.i64.max = 9223372036854775807 := rfl
  simp only [Lit.wf, Bool.and_eq_true, decide_eq_true_eq] at h
  omega
theorem int_range_u8 {n : Int} (h : (Lit.int .u8 n).wf = true) : 0 ≤ n ∧ n ≤ 255 := by
  have hmin : IntKind.u8.min = 0 := rfl
  have hmax : IntKind.u8.max = 255 := rfl
  simp only [Lit.wf, Bool.and_eq_true, decide_eq_true_eq] at h
  omega
/-- A slice of integers that came in: nil, or a row of cap cells. -/
def RowIn (k : IntKind) (w : World) (a : Option Addr) (len cap : Nat) (zs : List Int) : Prop :=
  (a = none ∧ len = 0 ∧ cap = 0 ∧ zs = []) ∨
  ∃ x, a = some x ∧ len ≤ cap ∧ cap ≤ maxLen ∧ zs.length = cap ∧ (∀ i, i < zs.length → w.cell? (x.add i) = some (.int k (zs.getD i 0))) ∧ ∀ n ∈ zs, (Lit.int k n).wf = true
theorem RowIn.len {k : IntKind} {w : World} {a : Option Addr} {len cap : Nat} {zs : List Int} (h : RowIn k w a len cap zs) : len ≤ 9223372036854775807 ∧ len = (zs.take len).length := by
  rcases h with ⟨_, rfl, _, rfl⟩ | ⟨x, _, h1, h2, h3, _⟩
  · simp
  · unfold maxLen at h2
    rw [List.length_take]
    omega
theorem spot_none {w : World} {x : Addr} {v : Value} (h : w.cell? x = some v) : x = ⟨x.block, x.off, none⟩ ∧ x.block < w.heap.size := by
  refine ⟨?_, World.block_lt_of_cell? w x h⟩
  unfold World.cell? at h
  split at h
  · split at h
    · cases h
    · rename_i hs
      obtain ⟨b, o, s⟩ := x
      cases s with
      | none => rfl
      | some _ => simp at hs
  · cases h
theorem RowIn.cells {k : IntKind} {w : World} {a : Option Addr} {len cap : Nat} {zs : List Int} (h : RowIn k w a len cap zs) (h0 : zs.take len ≠ []) :
    ∃ b off, a = some ⟨b, off, none⟩ ∧ b < w.heap.size ∧ ∀ (j : Nat) (x : Int), (zs.take len)[j]? = some x → (Lit.int k x).wf = true ∧ w.cell? ⟨b, off + j, none⟩ = some (.int k x) := by
  rcases h with ⟨_, _, _, rfl⟩ | ⟨x, rfl, h1, h2, h3, h4, h5⟩
  · simp at h0
  · have hpos : 0 < zs.length := by
      rcases Nat.eq_zero_or_pos zs.length with e | e
      · rw [List.eq_nil_of_length_eq_zero e] at h0; simp at h0
      · exact e
    have hc0 := h4 0 hpos
    rw [show x.add 0 = x by unfold Addr.add; rfl] at hc0
    obtain ⟨e, hlt⟩ := spot_none hc0
    refine ⟨x.block, x.off, by rw [← e], hlt, fun j y hy => ?_⟩
    have hjl := (List.getElem?_eq_some_iff.1 hy).1
    rw [List.length_take] at hjl
    have hy2 : zs[j]? = some y := by
      rw [List.getElem?_take] at hy
      rw [if_pos (by omega)] at hy
      exact hy
    have hm := List.mem_of_getElem? hy2
    refine ⟨h5 y hm, ?_⟩
    have := h4 j (by omega)
    rw [List.getD_eq_getElem?_getD, hy2, Option.getD_some] at this
    rw [← this]
    congr 1
    unfold Addr.add
    by_cases hj : j = 0
    · subst hj; rw [if_pos rfl, Nat.add_zero]; exact e.symm
    · rw [if_neg hj]
theorem RowIn.ints {w : World} {a : Option Addr} {len cap : Nat} {zs : List Int} (h : RowIn .i64 w a len cap zs) : IntsAt w a (zs.take len) ∧ ∀ x ∈ zs.take len, -9223372036854775808 ≤ x ∧ x ≤ 9223372036854775807 := by
  by_cases h0 : zs.take len = []
  · rw [h0]; exact ⟨.inl rfl, fun x hx => by cases hx⟩
  · obtain ⟨b, off, e, hb, hc⟩ := h.cells h0
    refine ⟨.inr ⟨b, off, e, hb, fun j x hx => (hc j x hx).2⟩, fun x hx => ?_⟩
    obtain ⟨j, hj⟩ := List.getElem?_of_mem hx
    exact int_range_i64 (hc j x hj).1
theorem RowIn.bytes {w : World} {a : Option Addr} {len cap : Nat} {zs : List Int} (h : RowIn .u8 w a len cap zs) : ∃ xs : List Nat, BytesAt w a xs ∧ len = xs.length := by
  refine ⟨(zs.take len).map Int.toNat, ?_, by rw [List.length_map]; exact h.len.2⟩
  by_cases h0 : zs.take len = []
  · rw [h0]; exact .inl rfl
  · obtain ⟨b, off, e, hb, hc⟩ := h.cells h0
    refine .inr ⟨b, off, e, hb, fun j x hx => ?_⟩
    rw [List.getElem?_map] at hx
    cases ey : (zs.take len)[j]? with
    | none => rw [ey] at hx; cases hx
    | some y =>
      rw [ey] at hx
      simp only [Option.map_some, Option.some.injEq] at hx
      obtain ⟨h1, h2⟩ := hc j y ey
      have h3 := int_range_u8 h1
      have : ((x : Nat) : Int) = y := by omega
      rw [this]
      exact ⟨by omega, h2⟩
end Go.Proofs.YtgooajgoofojmaaDoor
