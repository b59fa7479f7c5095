/- Layer 5 (chain): each call that changes a chain, as one contract: what has become of the lists, and what is answered. -/
import Derived.Test.YtffpnpcbfogemaaChainWorks
namespace Go.Proofs.Ytffpnpcbfogemaa
open Go.RowKit
variable {w w' : World} {L N : Nat} {lo hi : Nat} {v : Value} {m : Nat → List Nat}

open Classical in
noncomputable def addB (L N : Nat) (m : Nat → List Nat) (i x : Int) : Bool := decide (Can L N m i x)
noncomputable def addM (L N : Nat) (m : Nat → List Nat) (i x : Int) : Nat → List Nat := if addB L N m i x = true then upd m i.toNat (m i.toNat ++ [x.toNat]) else m
open Classical in
noncomputable def dropB (m : Nat → List Nat) (x : Int) : Bool := decide (¬ Out m x)
def dropM (m : Nat → List Nat) (x : Int) : Nat → List Nat := fun j => if 0 ≤ x then (m j).erase x.toNat else m j
noncomputable def moveB (L : Nat) (m : Nat → List Nat) (i x : Int) : Bool := hasB L i && dropB m x
noncomputable def moveM (L : Nat) (m : Nat → List Nat) (i x : Int) : Nat → List Nat := if moveB L m i x = true then upd (dropM m x) i.toNat (dropM m x i.toNat ++ [x.toNat]) else m
def joinB (L : Nat) (i j : Int) : Bool := hasB L i && hasB L j && !decide (i = j)
def joinM (L : Nat) (m : Nat → List Nat) (i j : Int) : Nat → List Nat := if joinB L i j = true then upd (upd m i.toNat (m i.toNat ++ m j.toNat)) j.toNat [] else m
theorem addB_true {i x : Int} : addB L N m i x = true ↔ Can L N m i x := by unfold addB; simp
theorem dropB_true {x : Int} : dropB m x = true ↔ ¬ Out m x := by unfold dropB; simp
theorem not_out {x : Int} (h : ¬ Out m x) : ∃ (i : Nat) (a : List Nat) (k : Nat) (b : List Nat), x = (k : Int) ∧ m i = a ++ k :: b := by
  obtain ⟨o, b, n, hs⟩ := spot m x
  rcases hs with hs | ⟨i, a, k, b, e, e2⟩
  · exact absurd hs h
  · exact ⟨i, a, k, b, e, e2⟩
theorem out_not {i k : Nat} {a b : List Nat} (e : m i = a ++ k :: b) : ¬ Out m (k : Int) := fun h => h i k rfl (by rw [e]; simp)
theorem dropM_at (hI : Inv L N m) {i k : Nat} {a b : List Nat} (e : m i = a ++ k :: b) : upd m i (a ++ b) = dropM m (k : Int) := by
  have hn := hI.nodup i
  rw [e] at hn
  obtain ⟨_, h1, _⟩ := nodup_cut hn
  funext j
  unfold dropM
  rw [if_pos (by omega), Int.toNat_natCast]
  by_cases ej : j = i
  · subst ej
    rw [upd_same, e, List.erase_append_right _ h1, List.erase_cons_head]
  · rw [upd_ne ej, List.erase_of_not_mem fun h => ej (hI.apart j i k h (by rw [e]; simp))]
theorem dropM_out {x : Int} (h : Out m x) : dropM m x = m := by
  funext j
  unfold dropM
  split
  · rw [List.erase_of_not_mem fun hm => h j x.toNat (by omega) hm]
  · rfl
theorem hasB_nat {n : Nat} {x : Int} (h : hasB n x = true) : ∃ k : Nat, x = (k : Int) ∧ k < n := by
  obtain ⟨h1, h2⟩ := of_decide_eq_true h
  obtain ⟨k, rfl⟩ := Int.eq_ofNat_of_zero_le h1
  exact ⟨k, rfl, by omega⟩
theorem add_is (h : ChainIn w lo hi v L N m) (i x : Int) :
    Calls Try.prog 12 #[v, .int .i64 i, .int .i64 x] w (StepIn w lo hi v L N (addM L N m i x) (addB L N m i x)) := by
  unfold addM
  cases hb : addB L N m i x with
  | true =>
    rw [if_pos rfl]
    obtain ⟨h1, h2, h3⟩ := addB_true.1 hb
    obtain ⟨k, rfl, hk⟩ := hasB_nat h1
    obtain ⟨q, rfl, hq⟩ := hasB_nat h2
    rw [Int.toNat_natCast, Int.toNat_natCast]
    exact add_yes h hk hq h3
  | false =>
    rw [if_neg (by simp)]
    exact add_no h fun hc => by rw [addB_true.2 hc] at hb; cases hb
theorem drop_is (h : ChainIn w lo hi v L N m) (x : Int) :
    Calls Try.prog 10 #[v, .int .i64 x] w (StepIn w lo hi v L N (dropM m x) (dropB m x)) := by
  by_cases ho : Out m x
  · have hb : dropB m x = false := by
      cases hb : dropB m x with
      | false => rfl
      | true => exact absurd ho (dropB_true.1 hb)
    rw [hb, dropM_out ho]
    exact drop_no h ho
  · obtain ⟨i, a, k, b, rfl, e⟩ := not_out ho
    rw [dropB_true.2 ho, ← dropM_at h.1 e]
    exact drop_yes h e
theorem move_is (h : ChainIn w lo hi v L N m) (i x : Int) :
    Calls Try.prog 22 #[v, .int .i64 i, .int .i64 x] w (StepIn w lo hi v L N (moveM L m i x) (moveB L m i x)) := by
  unfold moveM
  cases hb : moveB L m i x with
  | true =>
    rw [if_pos rfl]
    have hb2 := hb
    unfold moveB at hb2
    rw [Bool.and_eq_true] at hb2
    obtain ⟨k, rfl, hk⟩ := hasB_nat hb2.1
    obtain ⟨j, a, q, b, rfl, e⟩ := not_out (dropB_true.1 hb2.2)
    rw [Int.toNat_natCast, Int.toNat_natCast, ← dropM_at h.1 e]
    exact move_yes h hk e
  | false =>
    rw [if_neg (by simp)]
    refine move_no h ?_
    unfold moveB at hb
    rw [Bool.and_eq_false_iff] at hb
    rcases hb with hb | hb
    · exact .inl hb
    · refine .inr (Classical.byContradiction fun ho => ?_)
      rw [dropB_true.2 ho] at hb
      cases hb
theorem join_is (h : ChainIn w lo hi v L N m) (i j : Int) :
    Calls Try.prog 24 #[v, .int .i64 i, .int .i64 j] w (StepIn w lo hi v L N (joinM L m i j) (joinB L i j)) := by
  unfold joinM
  cases hb : joinB L i j with
  | true =>
    rw [if_pos rfl]
    unfold joinB at hb
    rw [Bool.and_eq_true, Bool.and_eq_true] at hb
    obtain ⟨k, rfl, hk⟩ := hasB_nat hb.1.1
    obtain ⟨q, rfl, hq⟩ := hasB_nat hb.1.2
    have hne : k ≠ q := fun e => by
      have := hb.2
      rw [e] at this
      simp at this
    rw [Int.toNat_natCast, Int.toNat_natCast]
    by_cases he : m q = []
    · have e : upd (upd m k (m k ++ m q)) q [] = m := by
        funext y
        by_cases e1 : y = q
        · subst e1; rw [upd_same, he]
        · rw [upd_ne e1]
          by_cases e2 : y = k
          · subst e2; rw [upd_same, he, List.append_nil]
          · rw [upd_ne e2]
      rw [e]
      exact join_none h hk hq hne he
    · exact join_yes h hk hq hne he
  | false =>
    rw [if_neg (by simp)]
    refine join_no h ?_
    unfold joinB at hb
    rw [Bool.and_eq_false_iff, Bool.and_eq_false_iff] at hb
    rcases hb with (hb | hb) | hb
    · exact .inl hb
    · exact .inr (.inl hb)
    · exact .inr (.inr (by simpa using hb))
end Go.Proofs.Ytffpnpcbfogemaa
