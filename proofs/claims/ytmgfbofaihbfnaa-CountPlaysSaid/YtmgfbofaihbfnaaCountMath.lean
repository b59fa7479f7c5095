/- Layer 14 (count): counts as a list of numbers: what Add, Sum and Top make of them. Plain mathematics. -/
import Derived.Test.YtmgfbofaihbfnaaBase
namespace Go.Proofs.Ytmgfbofaihbfnaa
open Go.RowKit

/-- The error that Add tells: 0 is none. -/
def addE (L : List Nat) (i y : Int) : Nat := if i < 0 ∨ (L.length : Int) ≤ i ∨ y < 0 then 2 else if 4611686018427387904 < (L.getD i.toNat 0 : Int) + y then 6 else 0
/-- The counts behind Add. -/
def addV (L : List Nat) (i y : Int) : List Nat := if addE L i y = 0 then L.set i.toNat (L.getD i.toNat 0 + y.toNat) else L
/-- No count is above 2^62. -/
def Low (L : List Nat) : Prop := ∀ j, L.getD j 0 ≤ 4611686018427387904

theorem getD_set (L : List Nat) (k x j : Nat) (hk : k < L.length) : (L.set k x).getD j 0 = if j = k then x else L.getD j 0 := by
  rw [List.getD_eq_getElem?_getD, List.getD_eq_getElem?_getD, List.getElem?_set]
  by_cases h : k = j
  · subst h; rw [if_pos rfl, if_pos rfl, if_pos hk]; rfl
  · rw [if_neg h, if_neg (fun e => h e.symm)]
theorem getD_at {L : List Nat} {k : Nat} (h : k < L.length) : L[k]? = some (L.getD k 0) := by
  rw [List.getD_eq_getElem?_getD, List.getElem?_eq_getElem h]; rfl
theorem getD_far {L : List Nat} {k : Nat} (h : L.length ≤ k) : L.getD k 0 = 0 := by
  rw [List.getD_eq_getElem?_getD, List.getElem?_eq_none h]; rfl
theorem add_bad {L : List Nat} {i y : Int} (h : i < 0 ∨ (L.length : Int) ≤ i ∨ y < 0) : addE L i y = 2 ∧ addV L i y = L := by
  have e : addE L i y = 2 := by unfold addE; rw [if_pos h]
  refine ⟨e, ?_⟩
  unfold addV
  rw [e, if_neg (by omega)]
theorem add_over {L : List Nat} {k m : Nat} (hk : k < L.length) (h : 4611686018427387904 < L.getD k 0 + m) : addE L k m = 6 ∧ addV L k m = L := by
  have e : addE L k m = 6 := by
    unfold addE
    rw [if_neg (by omega), Int.toNat_natCast, if_pos (by omega)]
  refine ⟨e, ?_⟩
  unfold addV
  rw [e, if_neg (by omega)]
theorem add_good {L : List Nat} {k m : Nat} (hk : k < L.length) (h : L.getD k 0 + m ≤ 4611686018427387904) : addE L k m = 0 ∧ addV L k m = L.set k (L.getD k 0 + m) := by
  have e : addE L k m = 0 := by
    unfold addE
    rw [if_neg (by omega), Int.toNat_natCast, if_neg (by omega)]
  refine ⟨e, ?_⟩
  unfold addV
  rw [e, if_pos rfl, Int.toNat_natCast, Int.toNat_natCast]
theorem add_length (L : List Nat) (i y : Int) : (addV L i y).length = L.length := by
  unfold addV
  split
  · rw [List.length_set]
  · rfl
/-- The three ways of Add. -/
theorem add_ways (L : List Nat) (i y : Int) : (i < 0 ∨ (L.length : Int) ≤ i ∨ y < 0) ∨ ∃ k m : Nat, i = k ∧ y = m ∧ k < L.length ∧ (4611686018427387904 < L.getD k 0 + m ∨ L.getD k 0 + m ≤ 4611686018427387904) := by
  by_cases h : i < 0 ∨ (L.length : Int) ≤ i ∨ y < 0
  · exact .inl h
  · exact .inr ⟨i.toNat, y.toNat, by omega, by omega, by omega, by omega⟩
theorem Low.addV {L : List Nat} (h : Low L) (i y : Int) : Low (addV L i y) := by
  rcases add_ways L i y with h1 | ⟨k, m, rfl, rfl, hk, h2 | h2⟩
  · rw [(add_bad h1).2]; exact h
  · rw [(add_over hk h2).2]; exact h
  · rw [(add_good hk h2).2]
    intro j
    rw [getD_set _ _ _ _ hk]
    split
    · exact h2
    · exact h j
theorem Low.zero (n : Nat) : Low (List.replicate n 0) := fun j => by
  rw [List.getD_eq_getElem?_getD, List.getElem?_replicate]
  split <;> simp
theorem zero_getD (n j : Nat) : (List.replicate n 0).getD j 0 = 0 := by
  rw [List.getD_eq_getElem?_getD, List.getElem?_replicate]
  split <;> rfl

/-! ### how many all are -/
theorem sum_take {L : List Nat} {k : Nat} (h : k < L.length) : (L.take (k + 1)).sum = (L.take k).sum + L.getD k 0 := by
  rw [List.take_succ_eq_append_getElem h, List.sum_append]
  rw [List.getD_eq_getElem?_getD, List.getElem?_eq_getElem h]
  simp
theorem sum_le (L : List Nat) (k : Nat) : (L.take k).sum ≤ L.sum := by
  conv => rhs; rw [← List.take_append_drop k L, List.sum_append]
  omega
theorem sum_over {L : List Nat} {k : Nat} (h : k < L.length) {m : Nat} (hm : m < (L.take k).sum + L.getD k 0) : m < L.sum := by
  have := sum_le L (k + 1)
  rw [sum_take h] at this
  omega
theorem sum_all {L : List Nat} {k : Nat} (h : L.length ≤ k) : (L.take k).sum = L.sum := by rw [List.take_of_length_le h]
/-- What Sum tells. -/
def sumV (L : List Nat) : Nat := if L.sum ≤ 9223372036854775807 then L.sum else 0
def sumB (L : List Nat) : Bool := decide (L.sum ≤ 9223372036854775807)
theorem sum_fits {L : List Nat} {s : Nat} (h : L.sum = s) (hs : s ≤ 9223372036854775807) : sumV L = s ∧ sumB L = true := by
  unfold sumV sumB
  rw [h, if_pos hs]
  exact ⟨rfl, decide_eq_true hs⟩
theorem sum_not {L : List Nat} (h : 9223372036854775807 < L.sum) : sumV L = 0 ∧ sumB L = false := by
  unfold sumV sumB
  rw [if_neg (by omega)]
  exact ⟨rfl, decide_eq_false (by omega)⟩

/-! ### the least number of a greatest count -/
structure IsTop (L : List Nat) (t : Nat) : Prop where
  lt : t < L.length
  le : ∀ j, L.getD j 0 ≤ L.getD t 0
  ahead : ∀ j, j < t → L.getD j 0 < L.getD t 0
theorem IsTop.one {L : List Nat} {s t : Nat} (h : IsTop L s) (k : IsTop L t) : s = t := by
  rcases Nat.lt_trichotomy s t with e | e | e
  · have := k.ahead s e; have := h.le t; omega
  · exact e
  · have := h.ahead t e; have := k.le s; omega
/-- The greatest of the first k. -/
def MaxTo (L : List Nat) (k m : Nat) : Prop := (∀ j, j < k → L.getD j 0 ≤ m) ∧ ∃ j, j < k ∧ L.getD j 0 = m
theorem MaxTo.first (L : List Nat) : MaxTo L 1 (L.getD 0 0) := ⟨fun j hj => by rw [show j = 0 by omega]; exact Nat.le_refl _, 0, by omega, rfl⟩
theorem MaxTo.more {L : List Nat} {k m : Nat} (h : MaxTo L k m) : MaxTo L (k + 1) (max m (L.getD k 0)) := by
  obtain ⟨h1, j, hj, e⟩ := h
  refine ⟨fun i hi => ?_, ?_⟩
  · by_cases e : i = k
    · rw [e]; exact Nat.le_max_right _ _
    · exact Nat.le_trans (h1 i (by omega)) (Nat.le_max_left _ _)
  · by_cases hm : L.getD k 0 ≤ m
    · exact ⟨j, by omega, by rw [Nat.max_eq_left hm]; exact e⟩
    · exact ⟨k, by omega, by rw [Nat.max_eq_right (by omega)]⟩
theorem MaxTo.top {L : List Nat} {m k : Nat} (h : MaxTo L L.length m) (hk : k < L.length) (he : L.getD k 0 = m) (ha : ∀ j, j < k → L.getD j 0 ≠ m) : IsTop L k := by
  refine ⟨hk, fun j => ?_, fun j hj => ?_⟩
  · rw [he]
    by_cases hj : j < L.length
    · exact h.1 j hj
    · rw [getD_far (by omega)]; exact Nat.zero_le _
  · have := h.1 j (by omega)
    have := ha j hj
    omega
/-- From the back: the least number of a greatest one from k on. -/
structure TopFrom (L : List Nat) (k t : Nat) : Prop where
  lt : t < L.length
  from_ : k ≤ t
  le : ∀ j, k ≤ j → L.getD j 0 ≤ L.getD t 0
  ahead : ∀ j, k ≤ j → j < t → L.getD j 0 < L.getD t 0
theorem TopFrom.last {L : List Nat} {k : Nat} (h : k + 1 = L.length) : TopFrom L k k :=
  ⟨by omega, Nat.le_refl _, fun j hj => by
    by_cases e : j = k
    · rw [e]; exact Nat.le_refl _
    · rw [getD_far (by omega)]; exact Nat.zero_le _, fun j h1 h2 => by omega⟩
theorem TopFrom.new {L : List Nat} {k t : Nat} (h : TopFrom L (k + 1) t) (hg : L.getD t 0 ≤ L.getD k 0) : TopFrom L k k :=
  ⟨by have := h.lt; have := h.from_; omega, Nat.le_refl _, fun j hj => by
    by_cases e : j = k
    · rw [e]; exact Nat.le_refl _
    · exact Nat.le_trans (h.le j (by omega)) hg, fun j h1 h2 => by omega⟩
theorem TopFrom.old {L : List Nat} {k t : Nat} (h : TopFrom L (k + 1) t) (hg : L.getD k 0 < L.getD t 0) : TopFrom L k t :=
  ⟨h.lt, by have := h.from_; omega, fun j hj => by
    by_cases e : j = k
    · rw [e]; omega
    · exact h.le j (by omega), fun j h1 h2 => by
    by_cases e : j = k
    · rw [e]; exact hg
    · exact h.ahead j (by omega) h2⟩
theorem TopFrom.top {L : List Nat} {t : Nat} (h : TopFrom L 0 t) : IsTop L t := ⟨h.lt, fun j => h.le j (Nat.zero_le _), fun j hj => h.ahead j (Nat.zero_le _) hj⟩
end Go.Proofs.Ytmgfbofaihbfnaa
