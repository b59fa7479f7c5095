/- Layer 8 (spans), the mathematics: lists of spans (pairs of a place and a length); what the program's calls and the document's own answers are of them, as plain functions, and what follows of them. -/
import Derived.Test.YtppiibdeigjcjaaBaseRecs
namespace Go.Proofs.Ytppiibdeigjcjaa

abbrev Sp := Int × Int
/-- In order by itself, from a on. -/
def okB (a : Int) (p : Sp) : Bool := decide (a ≤ p.1 ∧ 1 ≤ p.2 ∧ p.1 + p.2 ≤ 9223372036854775807)
theorem okB_iff {a : Int} {p : Sp} : okB a p = true ↔ a ≤ p.1 ∧ 1 ≤ p.2 ∧ p.1 + p.2 ≤ 9223372036854775807 := by unfold okB; exact decide_eq_true_iff
/-- In order, from a on. -/
def ordB : Int → List Sp → Bool
  | _, [] => true
  | a, p :: r => okB a p && ordB (p.1 + p.2) r
theorem ordB_cons {a : Int} {p : Sp} {r : List Sp} : ordB a (p :: r) = true ↔ okB a p = true ∧ ordB (p.1 + p.2) r = true := by
  show (okB a p && ordB (p.1 + p.2) r) = true ↔ _
  rw [Bool.and_eq_true]
theorem ordB_less {a b : Int} (h : b ≤ a) : ∀ {l : List Sp}, ordB a l = true → ordB b l = true
  | [], _ => rfl
  | p :: r, hl => by
    obtain ⟨h1, h2⟩ := ordB_cons.1 hl
    have := okB_iff.1 h1
    exact ordB_cons.2 ⟨okB_iff.2 (by omega), h2⟩
theorem ordB_mem : ∀ {a : Int} {l : List Sp}, ordB a l = true → ∀ q ∈ l, a ≤ q.1 ∧ 1 ≤ q.2 ∧ q.1 + q.2 ≤ 9223372036854775807
  | _, [], _, q, hq => by cases hq
  | a, p :: r, h, q, hq => by
    obtain ⟨h1, h2⟩ := ordB_cons.1 h
    have h1 := okB_iff.1 h1
    rcases List.mem_cons.1 hq with e | e
    · rw [e]; exact h1
    · have := ordB_mem h2 q e; omega
theorem ordB_drop : ∀ {a : Int} {l : List Sp} (k : Nat), ordB a l = true → ordB a (l.drop k) = true
  | _, [], k, _ => by rw [List.drop_nil]; rfl
  | _, _ :: _, 0, h => h
  | a, p :: r, k + 1, h => by
    obtain ⟨h1, h2⟩ := ordB_cons.1 h
    have h1 := okB_iff.1 h1
    exact ordB_drop k (ordB_less (by omega) h2)
/-- Have both a number in common? -/
def meetB (p q : Sp) : Bool := okB 0 p && okB 0 q && decide (p.1 < q.1 + q.2 ∧ q.1 < p.1 + p.2)
theorem meetB_iff {p q : Sp} : meetB p q = true ↔ okB 0 p = true ∧ okB 0 q = true ∧ p.1 < q.1 + q.2 ∧ q.1 < p.1 + p.2 := by
  unfold meetB
  rw [Bool.and_eq_true, Bool.and_eq_true, decide_eq_true_iff, and_assoc]
theorem meetB_not {p q : Sp} (h : ¬ (p.1 < q.1 + q.2 ∧ q.1 < p.1 + p.2)) : meetB p q = false := by
  cases e : meetB p q with
  | false => rfl
  | true => exact absurd (meetB_iff.1 e).2.2 h
theorem meetB_off {p q : Sp} (hp : okB 0 p = true) (hq : okB 0 q = true) (h : meetB p q = false) : p.1 + p.2 ≤ q.1 ∨ q.1 + q.2 ≤ p.1 := by
  unfold meetB at h
  rw [hp, hq, Bool.true_and, Bool.true_and] at h
  have := of_decide_eq_false h
  omega
/-- The place of the first one that has x or a number behind it. -/
def firstL (x : Int) : List Sp → Nat
  | [] => 0
  | p :: r => if x < p.1 + p.2 then 0 else firstL x r + 1
theorem firstL_le (x : Int) : ∀ l : List Sp, firstL x l ≤ l.length
  | [] => Nat.le_refl _
  | p :: r => by
    unfold firstL
    split
    · omega
    · have := firstL_le x r; simp; omega
theorem firstL_below (x : Int) : ∀ (l : List Sp) (k : Nat) (p : Sp), k < firstL x l → l[k]? = some p → ¬ x < p.1 + p.2
  | [], k, p, h, _ => by unfold firstL at h; omega
  | q :: r, k, p, h, hk => by
    unfold firstL at h
    by_cases hx : x < q.1 + q.2
    · rw [if_pos hx] at h; omega
    · rw [if_neg hx] at h
      cases k with
      | zero => simp at hk; rw [← hk]; exact hx
      | succ k => exact firstL_below x r k p (by omega) (by simpa using hk)
theorem firstL_from {x : Int} : ∀ {a : Int} {l : List Sp} (k : Nat) (p : Sp), ordB a l = true → firstL x l ≤ k → l[k]? = some p → x < p.1 + p.2
  | _, [], k, p, _, _, hk => by simp at hk
  | a, q :: r, k, p, ho, h, hk => by
    obtain ⟨h1, h2⟩ := ordB_cons.1 ho
    have h1 := okB_iff.1 h1
    unfold firstL at h
    by_cases hx : x < q.1 + q.2
    · cases k with
      | zero => simp at hk; rw [← hk]; exact hx
      | succ k =>
        have hm : p ∈ r := List.mem_of_getElem? (by simpa using hk)
        have := ordB_mem h2 p hm
        omega
    · rw [if_neg hx] at h
      cases k with
      | zero => omega
      | succ k => exact firstL_from k p h2 (by omega) (by simpa using hk)

/-! ### Add -/
def insL (s : Sp) : List Sp → List Sp
  | [] => [s]
  | p :: r => if s.1 < p.1 then s :: p :: r else p :: insL s r
def meetsL (s : Sp) (l : List Sp) : Bool := l.any fun p => meetB p s
theorem meetsL_cons (s p : Sp) (r : List Sp) : meetsL s (p :: r) = (meetB p s || meetsL s r) := rfl
def addB (l : List Sp) (s : Sp) : Bool := ordB 0 l && okB 0 s && !meetsL s l
theorem addB_iff {l : List Sp} {s : Sp} : addB l s = true ↔ ordB 0 l = true ∧ okB 0 s = true ∧ meetsL s l = false := by
  unfold addB
  rw [Bool.and_eq_true, Bool.and_eq_true, and_assoc]
  simp
theorem insL_length (s : Sp) : ∀ l : List Sp, (insL s l).length = l.length + 1
  | [] => rfl
  | p :: r => by
    unfold insL
    split
    · rfl
    · simp [insL_length s r]
theorem meets_at {l : List Sp} {s p : Sp} {k : Nat} (hk : l[k]? = some p) (h : meetB p s = true) : meetsL s l = true := by
  unfold meetsL
  exact List.any_eq_true.2 ⟨p, List.mem_of_getElem? hk, h⟩
theorem meets_none {l : List Sp} {s : Sp} (h : ∀ p ∈ l, ¬ (p.1 < s.1 + s.2 ∧ s.1 < p.1 + p.2)) : meetsL s l = false := by
  unfold meetsL
  rw [List.any_eq_false]
  intro p hp e
  exact h p hp (meetB_iff.1 e).2.2
theorem meets_off {l : List Sp} {s : Sp} (h : meetsL s l = false) : ∀ p ∈ l, meetB p s = false := by
  unfold meetsL at h
  rw [List.any_eq_false] at h
  intro p hp
  simpa using h p hp
theorem add_first {s : Sp} (hs : okB 0 s = true) : ∀ {a : Int} {l : List Sp}, 0 ≤ a → ordB a l = true → (∀ p, l[firstL s.1 l]? = some p → meetB p s = false) → meetsL s l = false ∧ l.take (firstL s.1 l) ++ s :: l.drop (firstL s.1 l) = insL s l
  | _, [], _, _, _ => ⟨rfl, rfl⟩
  | a, p :: r, ha, ho, h => by
    obtain ⟨h1, h2⟩ := ordB_cons.1 ho
    have k1 := okB_iff.1 h1
    have ks := okB_iff.1 hs
    by_cases hx : s.1 < p.1 + p.2
    · have e : firstL s.1 (p :: r) = 0 := by unfold firstL; rw [if_pos hx]
      rw [e] at h ⊢
      have hm := h p rfl
      have hoff := meetB_off (okB_iff.2 (by omega)) hs hm
      refine ⟨meets_none fun q hq => ?_, ?_⟩
      · rcases List.mem_cons.1 hq with e | e
        · rw [e]; omega
        · have := ordB_mem h2 q e; omega
      · show s :: p :: r = _
        unfold insL
        rw [if_pos (by omega)]
    · have e : firstL s.1 (p :: r) = firstL s.1 r + 1 := by rw [firstL, if_neg hx]
      rw [e] at h ⊢
      obtain ⟨i1, i2⟩ := add_first hs (a := p.1 + p.2) (by omega) h2 fun q hq => h q (by simpa using hq)
      refine ⟨by rw [meetsL_cons, i1, meetB_not (by omega)]; rfl, ?_⟩
      rw [insL, if_neg (by omega), ← i2]
      rfl
theorem ord_ins {s : Sp} : ∀ {a : Int} {l : List Sp}, 0 ≤ a → ordB a l = true → okB a s = true → meetsL s l = false → ordB a (insL s l) = true
  | _, [], _, _, hs, _ => ordB_cons.2 ⟨hs, rfl⟩
  | a, p :: r, ha, ho, hs, hm => by
    obtain ⟨h1, h2⟩ := ordB_cons.1 ho
    have k1 := okB_iff.1 h1
    have ks := okB_iff.1 hs
    rw [meetsL_cons, Bool.or_eq_false_iff] at hm
    have hoff := meetB_off (okB_iff.2 (by omega)) (okB_iff.2 (by omega)) hm.1
    unfold insL
    split
    · exact ordB_cons.2 ⟨hs, ordB_cons.2 ⟨okB_iff.2 (by omega), h2⟩⟩
    · exact ordB_cons.2 ⟨h1, ord_ins (by omega) h2 (okB_iff.2 (by omega)) hm.2⟩

/-! ### Find -/
def findL (x : Int) : Nat → List Sp → Int
  | _, [] => -1
  | i, p :: r => if p.1 ≤ x ∧ x < p.1 + p.2 then (i : Int) else findL x (i + 1) r
def findR (l : List Sp) (x : Int) : Int := if ordB 0 l = true then findL x 0 l else -1
theorem find_none {x : Int} : ∀ {l : List Sp} (i : Nat), (∀ p ∈ l, ¬ (p.1 ≤ x ∧ x < p.1 + p.2)) → findL x i l = -1
  | [], _, _ => rfl
  | p :: r, i, h => by rw [findL, if_neg (h p (by simp)), find_none (i + 1) fun q hq => h q (by simp [hq])]
theorem find_first {x : Int} : ∀ {a : Int} {l : List Sp} (i : Nat), ordB a l = true →
    (findL x i l = -1 ∧ ∀ p, l[firstL x l]? = some p → x < p.1) ∨ (findL x i l = ((i + firstL x l : Nat) : Int) ∧ ∃ p, l[firstL x l]? = some p ∧ p.1 ≤ x ∧ x < p.1 + p.2)
  | _, [], _, _ => .inl ⟨rfl, fun p h => by simp at h⟩
  | a, p :: r, i, ho => by
    obtain ⟨h1, h2⟩ := ordB_cons.1 ho
    have k1 := okB_iff.1 h1
    by_cases hx : x < p.1 + p.2
    · have e : firstL x (p :: r) = 0 := by unfold firstL; rw [if_pos hx]
      rw [e]
      by_cases hp : p.1 ≤ x
      · refine .inr ⟨by rw [findL, if_pos ⟨hp, hx⟩]; rfl, p, rfl, hp, hx⟩
      · refine .inl ⟨?_, fun q hq => by simp at hq; rw [← hq]; omega⟩
        rw [findL, if_neg (by omega), find_none (i + 1) fun q hq => by have := ordB_mem h2 q hq; omega]
    · have e : firstL x (p :: r) = firstL x r + 1 := by rw [firstL, if_neg hx]
      have ef : findL x i (p :: r) = findL x (i + 1) r := by rw [findL, if_neg (by omega)]
      rw [e, ef]
      rcases find_first (x := x) (i + 1) h2 with ⟨g1, g2⟩ | ⟨g1, q, g2, g3⟩
      · exact .inl ⟨g1, fun q hq => g2 q (by simpa using hq)⟩
      · exact .inr ⟨by rw [g1]; congr 1; omega, q, by simpa using g2, g3⟩
theorem find_ins {s : Sp} : ∀ {a : Int} {l : List Sp} (i : Nat), 0 ≤ a → ordB a l = true → okB a s = true → meetsL s l = false → ∃ k, findL s.1 i (insL s l) = ((i + k : Nat) : Int) ∧ (insL s l)[k]? = some s
  | _, [], i, _, _, hs, _ => by
    have ks := okB_iff.1 hs
    exact ⟨0, by rw [insL, findL, if_pos (by omega)]; rfl, rfl⟩
  | a, p :: r, i, ha, ho, hs, hm => by
    obtain ⟨h1, h2⟩ := ordB_cons.1 ho
    have k1 := okB_iff.1 h1
    have ks := okB_iff.1 hs
    rw [meetsL_cons, Bool.or_eq_false_iff] at hm
    have hoff := meetB_off (okB_iff.2 (by omega)) (okB_iff.2 (by omega)) hm.1
    by_cases hsp : s.1 < p.1
    · refine ⟨0, ?_, ?_⟩
      · rw [insL, if_pos hsp, findL, if_pos (by omega)]; rfl
      · rw [insL, if_pos hsp]; rfl
    · obtain ⟨k, e1, e2⟩ := find_ins (i + 1) (by omega) h2 (okB_iff.2 (by omega)) hm.2
      refine ⟨k + 1, ?_, ?_⟩
      · rw [insL, if_neg hsp, findL, if_neg (by omega), e1]; congr 1; omega
      · rw [insL, if_neg hsp]; simpa using e2

/-! ### Drop -/
def isAt (x : Int) (p : Sp) : Bool := p.1 == x
def lessL (x : Int) (l : List Sp) : List Sp := l.filter fun p => !isAt x p
def hasL (x : Int) (l : List Sp) : Bool := l.any (isAt x)
def dropB (l : List Sp) (x : Int) : Bool := hasL x l && ordB 0 l
theorem isAt_yes {x : Int} {p : Sp} (h : p.1 = x) : isAt x p = true := by unfold isAt; simp [h]
theorem isAt_no {x : Int} {p : Sp} (h : p.1 ≠ x) : isAt x p = false := by unfold isAt; simp [h]
theorem less_none {x : Int} {l : List Sp} (h : ∀ p ∈ l, p.1 ≠ x) : lessL x l = l := by
  unfold lessL
  rw [List.filter_eq_self]
  intro p hp
  rw [isAt_no (h p hp)]; rfl
theorem has_none {x : Int} {l : List Sp} (h : ∀ p ∈ l, p.1 ≠ x) : hasL x l = false := by
  unfold hasL
  rw [List.any_eq_false]
  intro p hp
  rw [isAt_no (h p hp)]; decide
theorem has_cons (x : Int) (p : Sp) (r : List Sp) : hasL x (p :: r) = (isAt x p || hasL x r) := rfl
theorem less_cons (x : Int) (p : Sp) (r : List Sp) : lessL x (p :: r) = if isAt x p = true then lessL x r else p :: lessL x r := by
  unfold lessL
  rw [List.filter_cons]
  cases isAt x p <;> rfl
theorem less_length (x : Int) (l : List Sp) : (lessL x l).length ≤ l.length := List.length_filter_le _ _
theorem drop_first {x : Int} : ∀ {a : Int} {l : List Sp}, ordB a l = true →
    (∀ p, l[firstL x l]? = some p → p.1 ≠ x) ∧ hasL x l = false ∨ (∃ p, l[firstL x l]? = some p ∧ p.1 = x) ∧ hasL x l = true ∧ l.take (firstL x l) ++ l.drop (firstL x l + 1) = lessL x l
  | _, [], _ => .inl ⟨fun p h => by simp at h, rfl⟩
  | a, p :: r, ho => by
    obtain ⟨h1, h2⟩ := ordB_cons.1 ho
    have k1 := okB_iff.1 h1
    by_cases hx : x < p.1 + p.2
    · have e : firstL x (p :: r) = 0 := by unfold firstL; rw [if_pos hx]
      rw [e]
      have hr : ∀ q ∈ r, q.1 ≠ x := fun q hq => by have := ordB_mem h2 q hq; omega
      by_cases hp : p.1 = x
      · refine .inr ⟨⟨p, rfl, hp⟩, by rw [has_cons, isAt_yes hp]; rfl, ?_⟩
        rw [less_cons, if_pos (isAt_yes hp), less_none hr]
        rfl
      · exact .inl ⟨fun q hq => by simp at hq; rw [← hq]; exact hp, by rw [has_cons, isAt_no hp, has_none hr]; rfl⟩
    · have e : firstL x (p :: r) = firstL x r + 1 := by rw [firstL, if_neg hx]
      have hp : p.1 ≠ x := by omega
      rw [e]
      rcases drop_first (x := x) h2 with ⟨g1, g2⟩ | ⟨⟨q, g1, g2⟩, g3, g4⟩
      · exact .inl ⟨fun q hq => g1 q (by simpa using hq), by rw [has_cons, isAt_no hp, g2]; rfl⟩
      · refine .inr ⟨⟨q, by simpa using g1, g2⟩, by rw [has_cons, g3, Bool.or_true], ?_⟩
        rw [less_cons, if_neg (by rw [isAt_no hp]; decide), ← g4]
        rfl
theorem drop_ins {s : Sp} : ∀ {a : Int} {l : List Sp}, 0 ≤ a → ordB a l = true → okB 0 s = true → meetsL s l = false → hasL s.1 (insL s l) = true ∧ lessL s.1 (insL s l) = l
  | _, [], _, _, _, _ => ⟨by rw [insL, has_cons, isAt_yes rfl]; rfl, by rw [insL, less_cons, if_pos (isAt_yes rfl)]; rfl⟩
  | a, p :: r, ha, ho, hs, hm => by
    obtain ⟨h1, h2⟩ := ordB_cons.1 ho
    have k1 := okB_iff.1 h1
    have ks := okB_iff.1 hs
    rw [meetsL_cons, Bool.or_eq_false_iff] at hm
    have hoff := meetB_off (okB_iff.2 (by omega)) (okB_iff.2 (by omega)) hm.1
    by_cases hsp : s.1 < p.1
    · rw [insL, if_pos hsp, has_cons, less_cons, if_pos (isAt_yes rfl), isAt_yes rfl]
      refine ⟨rfl, less_none fun q hq => ?_⟩
      rcases List.mem_cons.1 hq with e | e
      · rw [e]; omega
      · have := ordB_mem h2 q e; omega
    · obtain ⟨g1, g2⟩ := drop_ins (by omega) h2 hs hm.2
      rw [insL, if_neg hsp, has_cons, less_cons, if_neg (by rw [isAt_no (by omega)]; decide), g1, g2, Bool.or_true]
      exact ⟨rfl, rfl⟩

/-! ### Total -/
def sumL : List Sp → Int
  | [] => 0
  | p :: r => p.2 + sumL r
def totalR (l : List Sp) : Int := if ordB 0 l = true then sumL l else 0

/-! ### Holes, Gap -/
def holesL (stop : Int) : Int → List Sp → List Sp
  | a, [] => if a < stop then [(a, stop - a)] else []
  | a, p :: r => if a < min stop p.1 then (a, min stop p.1 - a) :: holesL stop (p.1 + p.2) r else holesL stop (p.1 + p.2) r
def holesR (l : List Sp) (stop : Int) : List Sp := if ordB 0 l = true ∧ 1 ≤ stop then holesL stop 0 l else []
theorem holes_length (stop : Int) : ∀ (a : Int) (l : List Sp), (holesL stop a l).length ≤ l.length + 1
  | a, [] => by unfold holesL; split <;> simp
  | a, p :: r => by
    unfold holesL
    have := holes_length stop (p.1 + p.2) r
    split <;> simp <;> omega
theorem holesR_length (l : List Sp) (stop : Int) : (holesR l stop).length ≤ l.length + 1 := by
  unfold holesR
  split
  · exact holes_length _ _ _
  · simp
theorem holes_past {stop : Int} : ∀ {a : Int} {l : List Sp}, stop ≤ a → ordB a l = true → holesL stop a l = []
  | a, [], h, _ => by rw [holesL, if_neg (by omega)]
  | a, p :: r, h, ho => by
    obtain ⟨h1, h2⟩ := ordB_cons.1 ho
    have k1 := okB_iff.1 h1
    rw [holesL, if_neg (by omega), holes_past (by omega) h2]
/-- The round of the program's loop: the one that begins at the end, or further, ends it. -/
theorem holes_stop {stop a : Int} {p : Sp} {r : List Sp} (ho : ordB a (p :: r) = true) (h : stop ≤ p.1) : holesL stop a (p :: r) = if a < stop then [(a, stop - a)] else [] := by
  obtain ⟨h1, h2⟩ := ordB_cons.1 ho
  have k1 := okB_iff.1 h1
  rw [holesL, holes_past (by omega) h2, show min stop p.1 = stop by omega]
theorem holes_step {stop a : Int} {p : Sp} {r : List Sp} (h : p.1 < stop) : holesL stop a (p :: r) = if a < p.1 then (a, p.1 - a) :: holesL stop (p.1 + p.2) r else holesL stop (p.1 + p.2) r := by
  rw [holesL, show min stop p.1 = p.1 by omega]
theorem holes_less {l : List Sp} {stop : Int} (ho : ordB 0 l = true) : holesR l stop = holesL stop 0 l := by
  unfold holesR
  by_cases h : 1 ≤ stop
  · rw [if_pos ⟨ho, h⟩]
  · rw [if_neg (by omega), holes_past (by omega) ho]
theorem holes_ok {stop : Int} (hs : stop ≤ 9223372036854775807) : ∀ {a : Int} {l : List Sp}, ordB a l = true → ∀ h ∈ holesL stop a l, a ≤ h.1 ∧ 1 ≤ h.2 ∧ h.1 + h.2 ≤ stop
  | a, [], _, h, hh => by
    unfold holesL at hh
    split at hh
    · rw [List.mem_singleton.1 hh]; simp only; omega
    · cases hh
  | a, p :: r, ho, h, hh => by
    obtain ⟨h1, h2⟩ := ordB_cons.1 ho
    have k1 := okB_iff.1 h1
    unfold holesL at hh
    split at hh
    · rcases List.mem_cons.1 hh with e | e
      · rw [e]; simp only; omega
      · have := holes_ok hs h2 h e; omega
    · have := holes_ok hs h2 h hh; omega
def gapH (size : Int) : List Sp → Int
  | [] => -1
  | h :: r => if size ≤ h.2 then h.1 else gapH size r
def gapL (size stop : Int) : Int → List Sp → Int
  | a, [] => if a ≤ stop ∧ size ≤ stop - a then a else -1
  | a, p :: r => if p.1 - a < size then gapL size stop (p.1 + p.2) r else if a ≤ stop ∧ size ≤ stop - a then a else -1
def gapR (l : List Sp) (size stop : Int) : Int := if ordB 0 l = true ∧ 1 ≤ size ∧ size ≤ stop then gapL size stop 0 l else -1
theorem gapH_none {size stop : Int} (hs : 1 ≤ size) : ∀ {a : Int} {l : List Sp}, stop - a < size → ordB a l = true → gapH size (holesL stop a l) = -1
  | a, [], h, _ => by
    unfold holesL
    split
    · rw [gapH, if_neg (by simp only; omega)]; rfl
    · rfl
  | a, p :: r, h, ho => by
    obtain ⟨h1, h2⟩ := ordB_cons.1 ho
    have k1 := okB_iff.1 h1
    unfold holesL
    split
    · rw [gapH, if_neg (by simp only; omega), gapH_none hs (by omega) h2]
    · exact gapH_none hs (by omega) h2
theorem gap_holes {size stop : Int} (hs : 1 ≤ size) : ∀ {a : Int} {l : List Sp}, ordB a l = true → gapH size (holesL stop a l) = gapL size stop a l
  | a, [], _ => by
    unfold holesL gapL
    by_cases h : a < stop
    · rw [if_pos h]
      by_cases g : size ≤ stop - a
      · rw [gapH, if_pos g, if_pos (by omega)]
      · rw [gapH, if_neg g, if_neg (by omega)]; rfl
    · rw [if_neg h, if_neg (by omega)]; rfl
  | a, p :: r, ho => by
    obtain ⟨h1, h2⟩ := ordB_cons.1 ho
    have k1 := okB_iff.1 h1
    unfold holesL gapL
    by_cases hp : p.1 - a < size
    · rw [if_pos hp]
      split
      · rw [gapH, if_neg (by simp only; omega)]; exact gap_holes hs h2
      · exact gap_holes hs h2
    · rw [if_neg hp]
      by_cases g : a ≤ stop ∧ size ≤ stop - a
      · rw [if_pos g, if_pos (by omega), gapH, if_pos (by simp only; omega)]
      · rw [if_neg g]
        split
        · rw [gapH, if_neg (by simp only; omega), gapH_none hs (by omega) h2]
        · exact gapH_none hs (by omega) h2
theorem gapR_is {l : List Sp} {size stop : Int} (hs : 1 ≤ size) : gapH size (holesR l stop) = gapR l size stop := by
  unfold gapR
  by_cases ho : ordB 0 l = true
  · rw [holes_less ho]
    by_cases h : size ≤ stop
    · rw [if_pos ⟨ho, hs, h⟩]; exact gap_holes hs ho
    · rw [if_neg (by omega)]; exact gapH_none hs (by omega) ho
  · rw [if_neg (fun h => ho h.1)]
    unfold holesR
    rw [if_neg (fun h => ho h.1)]
    rfl
theorem gap_fits {size stop : Int} (hs : 1 ≤ size) : ∀ {a : Int} {l : List Sp} {x : Int}, 0 ≤ a → ordB a l = true → gapL size stop a l = x → 0 ≤ x → a ≤ x ∧ x + size ≤ stop ∧ ∀ p ∈ l, ¬ (p.1 < x + size ∧ x < p.1 + p.2)
  | a, [], x, ha, _, h, hx => by
    unfold gapL at h
    split at h
    · exact ⟨by omega, by omega, fun p hp => by cases hp⟩
    · omega
  | a, p :: r, x, ha, ho, h, hx => by
    obtain ⟨h1, h2⟩ := ordB_cons.1 ho
    have k1 := okB_iff.1 h1
    unfold gapL at h
    split at h
    · obtain ⟨g1, g2, g3⟩ := gap_fits hs (by omega) h2 h hx
      refine ⟨by omega, g2, fun q hq => ?_⟩
      rcases List.mem_cons.1 hq with e | e
      · rw [e]; omega
      · exact g3 q e
    · split at h
      · refine ⟨by omega, by omega, fun q hq => ?_⟩
        rcases List.mem_cons.1 hq with e | e
        · rw [e]; omega
        · have := ordB_mem h2 q e; omega
      · omega

/-! ### Merge -/
def mergeFrom : Sp → List Sp → List Sp
  | p, [] => [p]
  | p, q :: r => if p.1 + p.2 = q.1 then mergeFrom (p.1, p.2 + q.2) r else p :: mergeFrom q r
def mergeL : List Sp → List Sp
  | [] => []
  | p :: r => mergeFrom p r
theorem mergeFrom_length : ∀ (p : Sp) (l : List Sp), (mergeFrom p l).length ≤ l.length + 1
  | _, [] => by simp [mergeFrom]
  | p, q :: r => by
    unfold mergeFrom
    have h1 := mergeFrom_length (p.1, p.2 + q.2) r
    have h2 := mergeFrom_length q r
    split <;> simp <;> omega
theorem mergeL_length : ∀ l : List Sp, (mergeL l).length ≤ l.length
  | [] => Nat.le_refl _
  | p :: r => mergeFrom_length p r
theorem merge_ok : ∀ {a : Int} {p : Sp} {r : List Sp}, ordB a (p :: r) = true → ordB a (mergeFrom p r) = true ∧ sumL (mergeFrom p r) = p.2 + sumL r
  | a, p, [], h => ⟨h, rfl⟩
  | a, p, q :: r, h => by
    obtain ⟨h1, h2⟩ := ordB_cons.1 h
    obtain ⟨h3, h4⟩ := ordB_cons.1 h2
    have k1 := okB_iff.1 h1
    have k3 := okB_iff.1 h3
    unfold mergeFrom
    split
    · rename_i e
      obtain ⟨g1, g2⟩ := merge_ok (a := a) (p := (p.1, p.2 + q.2)) (r := r) (ordB_cons.2 ⟨okB_iff.2 (by simp only; omega), by simp only; rw [show p.1 + (p.2 + q.2) = q.1 + q.2 by omega]; exact h4⟩)
      refine ⟨g1, ?_⟩
      rw [g2]
      show p.2 + q.2 + sumL r = p.2 + (q.2 + sumL r)
      omega
    · obtain ⟨g1, g2⟩ := merge_ok h2
      refine ⟨ordB_cons.2 ⟨h1, g1⟩, ?_⟩
      show p.2 + sumL (mergeFrom q r) = _
      rw [g2]; rfl
theorem mergeL_ok : ∀ {l : List Sp}, ordB 0 l = true → ordB 0 (mergeL l) = true ∧ sumL (mergeL l) = sumL l
  | [], _ => ⟨rfl, rfl⟩
  | _ :: _, h => merge_ok h
theorem sum_fits : ∀ {a : Int} {l : List Sp}, 0 ≤ a → a ≤ 9223372036854775807 → ordB a l = true → 0 ≤ sumL l ∧ a + sumL l ≤ 9223372036854775807
  | a, [], _, h, _ => by show 0 ≤ (0 : Int) ∧ a + 0 ≤ _; omega
  | a, p :: r, ha, _, ho => by
    obtain ⟨h1, h2⟩ := ordB_cons.1 ho
    have k1 := okB_iff.1 h1
    have := sum_fits (by omega) (by omega) h2
    show 0 ≤ p.2 + sumL r ∧ a + (p.2 + sumL r) ≤ _
    omega

/-! ### Cut -/
def headP (x : Int) (p : Sp) : List Sp := if p.1 < x then [(p.1, min p.2 (x - p.1))] else []
def tailP (e : Int) (p : Sp) : List Sp := if e < p.1 + p.2 then [(max p.1 e, p.1 + p.2 - max p.1 e)] else []
def cutL (x e : Int) : List Sp → List Sp
  | [] => []
  | p :: r => headP x p ++ tailP e p ++ cutL x e r
/-- Where the numbers that are cut end: no span has one from there on, if that is no int. -/
def stopI (x n : Int) : Int := if x + n ≤ 9223372036854775807 then x + n else 9223372036854775807
def cutR (l : List Sp) (x n : Int) : List Sp := if n = 0 then l else cutL x (stopI x n) l
def cutB (l : List Sp) (x n : Int) : Bool := ordB 0 l && decide (0 ≤ x) && decide (0 ≤ n)
theorem cutB_iff {l : List Sp} {x n : Int} : cutB l x n = true ↔ ordB 0 l = true ∧ 0 ≤ x ∧ 0 ≤ n := by
  unfold cutB
  rw [Bool.and_eq_true, Bool.and_eq_true, decide_eq_true_iff, decide_eq_true_iff, and_assoc]
theorem cutL_length (x e : Int) : ∀ l : List Sp, (cutL x e l).length ≤ 2 * l.length
  | [] => Nat.le_refl _
  | p :: r => by
    have := cutL_length x e r
    unfold cutL headP tailP
    split <;> split <;> simp <;> omega
theorem cutR_length (l : List Sp) (x n : Int) : (cutR l x n).length ≤ 2 * l.length := by
  unfold cutR
  split
  · omega
  · exact cutL_length _ _ _
/-- What is left of the one at place k of l, if it has numbers of both sides. -/
def leftA (x : Int) (l : List Sp) : List Sp := match l[firstL x l]? with
  | some p => if p.1 < x then [(p.1, x - p.1)] else []
  | none => []
def leftB (e : Int) (l : List Sp) : List Sp := match l[firstL e l]? with
  | some p => if p.1 < e then [(e, p.1 + p.2 - e)] else []
  | none => []
def toN (e : Int) (l : List Sp) : Nat := firstL e l + (leftB e l).length
theorem first_mono {x e : Int} (h : x ≤ e) : ∀ l : List Sp, firstL x l ≤ firstL e l
  | [] => Nat.le_refl _
  | p :: r => by
    have := first_mono h r
    unfold firstL
    split <;> split <;> omega
theorem cut_after {x e : Int} : ∀ {b : Int} {l : List Sp}, x ≤ b → e < b → ordB b l = true → cutL x e l = l
  | _, [], _, _, _ => rfl
  | b, q :: t, hx, he, ho => by
    obtain ⟨g1, g2⟩ := ordB_cons.1 ho
    have j1 := okB_iff.1 g1
    rw [cutL, headP, if_neg (by omega), tailP, if_pos (by omega), cut_after (by omega) (by omega) g2, show max q.1 e = q.1 by omega, show q.1 + q.2 - q.1 = q.2 by omega]
    rfl
theorem cut_tail {x e : Int} : ∀ {a : Int} {l : List Sp}, x ≤ a → ordB a l = true → leftB e l ++ l.drop (toN e l) = cutL x e l
  | a, [], _, _ => rfl
  | a, p :: r, ha, ho => by
    obtain ⟨h1, h2⟩ := ordB_cons.1 ho
    have k1 := okB_iff.1 h1
    rw [cutL, headP, if_neg (by omega), List.nil_append]
    by_cases hx : e < p.1 + p.2
    · have ef : firstL e (p :: r) = 0 := by unfold firstL; rw [if_pos hx]
      have hr : cutL x e r = r := cut_after (by omega) hx h2
      rw [tailP, if_pos hx, hr]
      by_cases hp : p.1 < e
      · have el : leftB e (p :: r) = [(e, p.1 + p.2 - e)] := by
          unfold leftB
          rw [ef]
          show (if p.1 < e then [(e, p.1 + p.2 - e)] else []) = _
          rw [if_pos hp]
        rw [toN, el, ef, show max p.1 e = e by omega]
        rfl
      · have el : leftB e (p :: r) = [] := by
          unfold leftB
          rw [ef]
          show (if p.1 < e then [(e, p.1 + p.2 - e)] else []) = _
          rw [if_neg hp]
        rw [toN, el, ef, show max p.1 e = p.1 by omega, show p.1 + p.2 - p.1 = p.2 by omega]
        rfl
    · have ef : firstL e (p :: r) = firstL e r + 1 := by rw [firstL, if_neg hx]
      have el : leftB e (p :: r) = leftB e r := by
        unfold leftB
        rw [ef]
        rfl
      have et : toN e (p :: r) = toN e r + 1 := by unfold toN; rw [el, ef]; omega
      rw [et, el, tailP, if_neg hx, List.nil_append, ← cut_tail (by omega) h2]
      rfl
theorem cut_first {x e : Int} (hxe : x < e) : ∀ {a : Int} {l : List Sp}, ordB a l = true → l.take (firstL x l) ++ (leftA x l ++ leftB e l) ++ l.drop (toN e l) = cutL x e l
  | a, [], _ => rfl
  | a, p :: r, ho => by
    obtain ⟨h1, h2⟩ := ordB_cons.1 ho
    have k1 := okB_iff.1 h1
    by_cases hx : x < p.1 + p.2
    · have ef : firstL x (p :: r) = 0 := by unfold firstL; rw [if_pos hx]
      have ea : leftA x (p :: r) = headP x p := by
        unfold leftA headP
        rw [ef]
        show (if p.1 < x then [(p.1, x - p.1)] else []) = _
        split
        · rw [show min p.2 (x - p.1) = x - p.1 by omega]
        · rfl
      rw [ef, ea]
      show headP x p ++ leftB e (p :: r) ++ (p :: r).drop (toN e (p :: r)) = _
      rw [cutL, List.append_assoc, List.append_assoc]
      congr 1
      by_cases hp : p.1 < x
      · -- the one that is cut at x
        by_cases he : e < p.1 + p.2
        · have eg : firstL e (p :: r) = 0 := by unfold firstL; rw [if_pos he]
          have el : leftB e (p :: r) = [(e, p.1 + p.2 - e)] := by
            unfold leftB
            rw [eg]
            show (if p.1 < e then [(e, p.1 + p.2 - e)] else []) = _
            rw [if_pos (by omega)]
          have := cut_tail (x := x) (e := e) (a := p.1 + p.2) (by omega) h2
          have hz : firstL e r = 0 ∨ r = [] := by
            cases r with
            | nil => exact .inr rfl
            | cons q t =>
              obtain ⟨g1, g2⟩ := ordB_cons.1 h2
              have j1 := okB_iff.1 g1
              exact .inl (by unfold firstL; rw [if_pos (by omega)])
          have hlb : leftB e r = [] := by
            cases r with
            | nil => rfl
            | cons q t =>
              obtain ⟨g1, g2⟩ := ordB_cons.1 h2
              have j1 := okB_iff.1 g1
              rcases hz with hz | hz
              · unfold leftB
                rw [hz]
                show (if q.1 < e then [(e, q.1 + q.2 - e)] else []) = _
                rw [if_neg (by omega)]
              · cases hz
          have hto : toN e r = firstL e r := by unfold toN; rw [hlb]; rfl
          rw [hlb, hto, List.nil_append] at this
          rw [toN, el, eg, tailP, if_pos he, show max p.1 e = e by omega, ← this]
          rcases hz with hz | hz
          · rw [hz]; rfl
          · rw [hz]; rfl
        · have eg : firstL e (p :: r) = firstL e r + 1 := by rw [firstL, if_neg he]
          have el : leftB e (p :: r) = leftB e r := by
            unfold leftB
            rw [eg]
            rfl
          have et : toN e (p :: r) = toN e r + 1 := by unfold toN; rw [el, eg]; omega
          rw [et, el, tailP, if_neg he, List.nil_append, ← cut_tail (x := x) (e := e) (a := p.1 + p.2) (by omega) h2]
          rfl
      · have := cut_tail (x := x) (e := e) (a := p.1) (l := p :: r) (by omega) (ordB_cons.2 ⟨okB_iff.2 (by omega), h2⟩)
        rw [this, cutL, headP, if_neg hp, List.nil_append]
    · have ef : firstL x (p :: r) = firstL x r + 1 := by rw [firstL, if_neg hx]
      have eg : firstL e (p :: r) = firstL e r + 1 := by rw [firstL, if_neg (by omega)]
      have ea : leftA x (p :: r) = leftA x r := by unfold leftA; rw [ef]; rfl
      have eb : leftB e (p :: r) = leftB e r := by unfold leftB; rw [eg]; rfl
      have et : toN e (p :: r) = toN e r + 1 := by unfold toN; rw [eb, eg]; omega
      rw [ef, ea, eb, et, cutL, headP, if_pos (by omega), tailP, if_neg (by omega), show min p.2 (x - p.1) = p.2 by omega, ← cut_first hxe h2]
      rfl
theorem cut_ok {x e : Int} (hxe : x < e) : ∀ {a : Int} {l : List Sp}, ordB a l = true → ordB a (cutL x e l) = true ∧ ∀ p ∈ cutL x e l, ¬ (p.1 ≤ x ∧ x < p.1 + p.2)
  | a, [], _ => ⟨rfl, fun p hp => by cases hp⟩
  | a, p :: r, ho => by
    obtain ⟨h1, h2⟩ := ordB_cons.1 ho
    have k1 := okB_iff.1 h1
    obtain ⟨g1, g2⟩ := cut_ok hxe h2
    unfold cutL headP tailP
    by_cases hp : p.1 < x <;> by_cases he : e < p.1 + p.2
    · rw [if_pos hp, if_pos he]
      refine ⟨ordB_cons.2 ⟨okB_iff.2 (by simp only; omega), ordB_cons.2 ⟨okB_iff.2 (by simp only; omega), ?_⟩⟩, fun q hq => ?_⟩
      · exact ordB_less (by simp only; omega) g1
      · simp only [List.cons_append, List.nil_append, List.mem_cons] at hq
        rcases hq with e | e | e
        · rw [e]; simp only; omega
        · rw [e]; simp only; omega
        · exact g2 q e
    · rw [if_pos hp, if_neg he]
      refine ⟨ordB_cons.2 ⟨okB_iff.2 (by simp only; omega), ?_⟩, fun q hq => ?_⟩
      · exact ordB_less (by simp only; omega) g1
      · simp only [List.cons_append, List.nil_append, List.append_nil, List.mem_cons] at hq
        rcases hq with e | e
        · rw [e]; simp only; omega
        · exact g2 q e
    · rw [if_neg hp, if_pos he]
      refine ⟨ordB_cons.2 ⟨okB_iff.2 (by simp only; omega), ?_⟩, fun q hq => ?_⟩
      · exact ordB_less (by simp only; omega) g1
      · simp only [List.cons_append, List.nil_append, List.mem_cons] at hq
        rcases hq with e | e
        · rw [e]; simp only; omega
        · exact g2 q e
    · rw [if_neg hp, if_neg he]
      exact ⟨ordB_less (by omega) g1, fun q hq => g2 q (by simpa using hq)⟩

/-! ### spans and the holes between them -/
/-- From a to b without a hole. -/
def rowB : Int → List Sp → Int → Bool
  | a, [], b => a == b
  | a, p :: r, b => (p.1 == a) && decide (1 ≤ p.2) && rowB (p.1 + p.2) r b
theorem rowB_cons {a b : Int} {p : Sp} {r : List Sp} : rowB a (p :: r) b = true ↔ p.1 = a ∧ 1 ≤ p.2 ∧ rowB (p.1 + p.2) r b = true := by
  show ((p.1 == a) && decide (1 ≤ p.2) && rowB (p.1 + p.2) r b) = true ↔ _
  rw [Bool.and_eq_true, Bool.and_eq_true, decide_eq_true_iff, and_assoc, beq_iff_eq]
theorem rowB_more {b c : Int} {s : Sp} (hs : s.1 = b ∧ 1 ≤ s.2 ∧ s.1 + s.2 = c) : ∀ {a : Int} {l : List Sp}, rowB a l b = true → rowB a (l ++ [s]) c = true
  | a, [], h => by
    have e : a = b := by simpa [rowB] using h
    exact rowB_cons.2 ⟨by omega, hs.2.1, by rw [hs.2.2]; simp [rowB]⟩
  | a, p :: r, h => by
    obtain ⟨h1, h2, h3⟩ := rowB_cons.1 h
    exact rowB_cons.2 ⟨h1, h2, rowB_more hs h3⟩
theorem rowB_le : ∀ {a b : Int} {l : List Sp}, rowB a l b = true → a ≤ b
  | a, b, [], h => by have e : a = b := by simpa [rowB] using h
                      omega
  | a, b, p :: r, h => by
    obtain ⟨h1, h2, h3⟩ := rowB_cons.1 h
    have := rowB_le h3
    omega
theorem row_mem : ∀ {a b : Int} {l : List Sp}, rowB a l b = true → ∀ q ∈ l, q.1 + q.2 ≤ b
  | _, _, [], _, q, hq => by cases hq
  | a, b, p :: r, h, q, hq => by
    obtain ⟨h1, h2, h3⟩ := rowB_cons.1 h
    have := rowB_le h3
    rcases List.mem_cons.1 hq with e | e
    · rw [e]; omega
    · exact row_mem h3 q e
theorem row_ord {b : Int} {l : List Sp} (hb : b ≤ 9223372036854775807) (hl : ordB b l = true) : ∀ {a : Int} {d : List Sp}, rowB a d b = true → ordB a (d ++ l) = true
  | a, [], h => by
    have e : a = b := by simpa [rowB] using h
    rw [e]; exact hl
  | a, p :: r, h => by
    obtain ⟨h1, h2, h3⟩ := rowB_cons.1 h
    have := rowB_le h3
    exact ordB_cons.2 ⟨okB_iff.2 (by omega), row_ord hb hl h3⟩
theorem row_ins {b : Int} {s : Sp} {l : List Sp} (hs : b ≤ s.1) (hl : ∀ p ∈ l, s.1 < p.1) : ∀ {a : Int} {d : List Sp}, rowB a d b = true → insL s (d ++ l) = d ++ s :: l
  | a, [], h => by
    cases l with
    | nil => rfl
    | cons p r => show insL s (p :: r) = _; rw [insL, if_pos (hl p (by simp))]; rfl
  | a, p :: r, h => by
    obtain ⟨h1, h2, h3⟩ := rowB_cons.1 h
    have := rowB_le h3
    show insL s (p :: (r ++ l)) = _
    rw [insL, if_neg (by omega), row_ins hs hl h3]
    rfl
theorem row_merge : ∀ {a b : Int} {p : Sp} {l : List Sp}, rowB a (p :: l) b = true → mergeFrom p l = [(a, b - a)]
  | a, b, p, [], h => by
    obtain ⟨h1, h2, h3⟩ := rowB_cons.1 h
    have e : p.1 + p.2 = b := by simpa [rowB] using h3
    show [p] = _
    rw [← e, ← h1, show p.1 + p.2 - p.1 = p.2 by omega]
  | a, b, p, q :: r, h => by
    obtain ⟨h1, h2, h3⟩ := rowB_cons.1 h
    obtain ⟨h4, h5, h6⟩ := rowB_cons.1 h3
    rw [mergeFrom, if_pos h4.symm]
    exact row_merge (a := a) (rowB_cons.2 ⟨h1, by simp only; omega, by simp only; rw [show p.1 + (p.2 + q.2) = q.1 + q.2 by omega]; exact h6⟩)
/-- Where l ends. -/
def endL : Int → List Sp → Int
  | a, [] => a
  | _, p :: r => endL (p.1 + p.2) r
theorem endL_ge : ∀ {a : Int} {l : List Sp}, ordB a l = true → a ≤ endL a l
  | _, [], _ => Int.le_refl _
  | a, p :: r, h => by
    obtain ⟨h1, h2⟩ := ordB_cons.1 h
    have k1 := okB_iff.1 h1
    have := endL_ge h2
    show a ≤ endL (p.1 + p.2) r
    omega
theorem endL_le : ∀ {a : Int} {l : List Sp}, a ≤ 9223372036854775807 → ordB a l = true → endL a l ≤ 9223372036854775807
  | _, [], h, _ => h
  | a, p :: r, _, h => by
    obtain ⟨h1, h2⟩ := ordB_cons.1 h
    have k1 := okB_iff.1 h1
    exact endL_le (l := r) (by omega) h2
theorem endL_last : ∀ {a : Int} {l : List Sp} {p : Sp}, l[l.length - 1]? = some p → endL a l = p.1 + p.2
  | _, [], _, h => by simp at h
  | _, [q], p, h => by simp at h; rw [← h]; rfl
  | a, q :: t :: r, p, h => by
    show endL (q.1 + q.2) (t :: r) = _
    exact endL_last (by simpa using h)
/-- What has been filled so far: without a hole from 0 to a, then l; hs are the holes that are left. -/
structure Fill (stop : Int) (m hs : List Sp) : Prop where
  ex : ∃ (a : Int) (d l : List Sp), m = d ++ l ∧ 0 ≤ a ∧ rowB 0 d a = true ∧ ordB a l = true ∧ endL a l = stop ∧ hs = holesL stop a l
theorem fill_start {l : List Sp} (h : ordB 0 l = true) : Fill (endL 0 l) l (holesL (endL 0 l) 0 l) := ⟨0, [], l, rfl, by omega, by simp [rowB], h, rfl, rfl⟩
/-- To the next hole, or to the end. -/
theorem fill_next {stop : Int} (hs : stop ≤ 9223372036854775807) : ∀ {a : Int} {d l : List Sp}, 0 ≤ a → rowB 0 d a = true → ordB a l = true → endL a l = stop →
    (holesL stop a l = [] ∧ rowB 0 (d ++ l) stop = true) ∨ ∃ (a' : Int) (d' : List Sp) (p : Sp) (r : List Sp), d ++ l = d' ++ p :: r ∧ 0 ≤ a' ∧ a' < p.1 ∧ rowB 0 d' a' = true ∧ ordB a' (p :: r) = true ∧ endL p.1 (p :: r) = stop ∧ holesL stop a l = (a', p.1 - a') :: holesL stop p.1 (p :: r)
  | a, d, [], ha, hd, _, he => by
    have e : a = stop := he
    refine .inl ⟨by rw [holesL, if_neg (by omega)], by rw [List.append_nil, ← e]; exact hd⟩
  | a, d, p :: r, ha, hd, ho, he => by
    obtain ⟨h1, h2⟩ := ordB_cons.1 ho
    have k1 := okB_iff.1 h1
    have e1 : endL (p.1 + p.2) r = stop := he
    have hge := endL_ge h2
    by_cases hap : a < p.1
    · refine .inr ⟨a, d, p, r, rfl, ha, hap, hd, ho, he, ?_⟩
      rw [holes_step (by omega), if_pos hap, holes_step (by omega), if_neg (by omega)]
    · have hpa : p.1 = a := by omega
      have hd' := rowB_more (c := p.1 + p.2) (s := p) ⟨hpa, k1.2.1, rfl⟩ hd
      have e2 : holesL stop a (p :: r) = holesL stop (p.1 + p.2) r := by rw [holes_step (by omega), if_neg hap]
      rw [e2]
      rcases fill_next hs (by omega) hd' h2 e1 with ⟨g1, g2⟩ | ⟨a', d', q, t, g1, g2⟩
      · exact .inl ⟨g1, by rwa [List.append_assoc] at g2⟩
      · exact .inr ⟨a', d', q, t, by rw [← g1, List.append_assoc]; rfl, g2⟩
theorem Fill.step {stop : Int} (hst : stop ≤ 9223372036854775807) {m hs : List Sp} {h : Sp} (hf : Fill stop m (h :: hs)) : addB m h = true ∧ Fill stop (insL h m) hs := by
  obtain ⟨a, d, l, rfl, ha, hd, ho, he, hh⟩ := hf.ex
  rcases fill_next hst ha hd ho he with ⟨g1, _⟩ | ⟨a', d', p, r, g1, g2, g3, g4, g5, g6, g7⟩
  · rw [g1] at hh; cases hh
  · rw [g7] at hh
    injection hh with hh1 hh2
    obtain ⟨h1, h2⟩ := ordB_cons.1 g5
    have k1 := okB_iff.1 h1
    have hls : ∀ q ∈ p :: r, h.1 < q.1 := fun q hq => by
      rw [hh1]
      rcases List.mem_cons.1 hq with e | e
      · rw [e]; exact g3
      · have := ordB_mem h2 q e; simp only; omega
    rw [g1]
    refine ⟨addB_iff.2 ⟨row_ord (by omega) g5 g4, okB_iff.2 (by rw [hh1]; simp only; omega), meets_none fun q hq => ?_⟩, ⟨p.1, d' ++ [h], p :: r, ?_, by omega, ?_, ordB_cons.2 ⟨okB_iff.2 (by omega), h2⟩, g6, hh2⟩⟩
    · rcases List.mem_append.1 hq with e | e
      · have := row_mem g4 q e
        rw [hh1]; simp only; omega
      · rcases List.mem_cons.1 e with e | e
        · rw [e, hh1]; simp only; omega
        · have := ordB_mem h2 q e
          rw [hh1]; simp only; omega
    · rw [row_ins (by rw [hh1]; exact Int.le_refl _) hls g4, List.append_assoc]; rfl
    · exact rowB_more (b := a') (c := p.1) (s := h) ⟨by rw [hh1], by rw [hh1]; simp only; omega, by rw [hh1]; simp only; omega⟩ g4
theorem Fill.done {stop : Int} (hst : 0 < stop) (hst' : stop ≤ 9223372036854775807) {m : List Sp} (hf : Fill stop m []) : ordB 0 m = true ∧ mergeL m = [(0, stop)] := by
  obtain ⟨a, d, l, rfl, ha, hd, ho, he, hh⟩ := hf.ex
  rcases fill_next hst' ha hd ho he with ⟨_, g⟩ | ⟨_, _, _, _, _, _, _, _, _, _, g7⟩
  · have hord := row_ord hst' (l := []) rfl g
    rw [List.append_nil] at hord
    refine ⟨hord, ?_⟩
    generalize d ++ l = m at *
    cases m with
    | nil => have e : (0 : Int) = stop := by simpa [rowB] using g
             omega
    | cons p r =>
      show mergeFrom p r = _
      rw [row_merge g, show stop - 0 = stop by omega]
  · rw [← hh] at g7; cases g7
end Go.Proofs.Ytppiibdeigjcjaa
