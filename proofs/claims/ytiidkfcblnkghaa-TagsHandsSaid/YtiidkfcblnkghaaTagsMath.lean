/- Layer 16 (tags): plain mathematics: the chunks that an owner has, how many, all owners, what each call answers and leaves. -/
import Derived.Test.YtiidkfcblnkghaaBase
namespace Go.Proofs.Ytiidkfcblnkghaa

/-! ### how many chunks an owner has -/
def cntV (O : List Nat) (x : Int) : Nat := if 0 < x then O.count x.toNat else 0
theorem cntV_nat (O : List Nat) (x : Nat) : cntV O (x : Int) = if 0 < x then O.count x else 0 := by
  unfold cntV
  rw [Int.toNat_natCast]
  by_cases h : 0 < x
  · rw [if_pos h, if_pos (by omega)]
  · rw [if_neg h, if_neg (by omega)]
theorem cntV_low {O : List Nat} {x : Int} (h : x < 1) : cntV O x = 0 := by unfold cntV; rw [if_neg (by omega)]
theorem cntV_le (O : List Nat) (x : Int) : cntV O x ≤ O.length := by
  unfold cntV
  split
  · exact List.count_le_length
  · omega
theorem cntV_zeros (n : Nat) (x : Int) : cntV (List.replicate n 0) x = 0 := by
  unfold cntV
  split
  · rw [List.count_replicate, if_neg]
    simp
    omega
  · rfl
/-- The chunk k, that was y's, is z's. -/
theorem cntV_set {O : List Nat} {k : Nat} (hk : k < O.length) (z : Nat) (x : Int) : cntV (O.set k z) x + (if 0 < x ∧ ((O[k]'hk : Nat) : Int) = x then 1 else 0) = cntV O x + if 0 < x ∧ (z : Int) = x then 1 else 0 := by
  unfold cntV
  by_cases h : 0 < x
  · rw [if_pos h, if_pos h, List.count_set hk]
    have h1 : (O[k]'hk == x.toNat) = true ↔ (0 < x ∧ ((O[k]'hk : Nat) : Int) = x) := by simp; omega
    have h2 : (z == x.toNat) = true ↔ (0 < x ∧ (z : Int) = x) := by simp; omega
    have h3 : (O[k]'hk == x.toNat) = true → 1 ≤ O.count x.toNat := fun e => by
      have : O[k]'hk = x.toNat := by simpa using e
      rw [← this]
      exact List.count_pos_iff.2 (List.getElem_mem hk)
    simp only [h1, h2] at h3 ⊢
    split <;> split <;> simp_all <;> omega
  · rw [if_neg h, if_neg h, if_neg (fun e => h e.1), if_neg (fun e => h e.1)]

/-! ### the chunks that an owner has -/
/-- .. among the first k. -/
def ofK (O : List Nat) (k : Nat) (x : Int) : List Nat := (List.range k).filter fun i => decide (0 < x) && decide (((O[i]?.getD 0 : Nat) : Int) = x)
def ofV (O : List Nat) (x : Int) : List Nat := ofK O O.length x
theorem ofK_zero (O : List Nat) (x : Int) : ofK O 0 x = [] := rfl
theorem ofK_low (O : List Nat) (k : Nat) {x : Int} (h : x < 1) : ofK O k x = [] := by
  unfold ofK
  rw [List.filter_eq_nil_iff]
  intro a _
  simp
  omega
theorem ofK_yes {O : List Nat} {k : Nat} {x : Int} (h0 : 0 < x) {y : Nat} (hy : O[k]? = some y) (h : (y : Int) = x) : ofK O (k + 1) x = ofK O k x ++ [k] := by
  unfold ofK
  rw [List.range_succ, List.filter_append]
  simp [hy, h, h0]
theorem ofK_no {O : List Nat} {k : Nat} {x : Int} {y : Nat} (hy : O[k]? = some y) (h : (y : Int) ≠ x) : ofK O (k + 1) x = ofK O k x := by
  unfold ofK
  rw [List.range_succ, List.filter_append]
  simp [hy, h]
theorem count_take_succ {O : List Nat} {k y : Nat} (hy : O[k]? = some y) (z : Nat) : (O.take (k + 1)).count z = (O.take k).count z + if y = z then 1 else 0 := by
  rw [List.take_add_one, hy, List.count_append]
  simp [List.count_singleton]
theorem ofK_length (O : List Nat) (x : Int) : ∀ k, k ≤ O.length → (ofK O k x).length = cntV (O.take k) x
  | 0, _ => by unfold cntV; simp [ofK_zero]
  | k + 1, h => by
    have ih := ofK_length O x k (by omega)
    obtain ⟨y, hy⟩ : ∃ y, O[k]? = some y := ⟨_, List.getElem?_eq_getElem (show k < O.length by omega)⟩
    by_cases h0 : 0 < x
    · unfold cntV at ih ⊢
      rw [if_pos h0] at ih ⊢
      rw [count_take_succ hy]
      by_cases e : (y : Int) = x
      · rw [ofK_yes h0 hy e, List.length_append, ih, if_pos (by omega)]
        rfl
      · rw [ofK_no hy e, ih, if_neg (by omega)]
        rfl
    · rw [ofK_low O _ (by omega), cntV_low (by omega)]
      rfl
theorem ofV_length (O : List Nat) (x : Int) : (ofV O x).length = cntV O x := by
  unfold ofV
  rw [ofK_length O x _ (Nat.le_refl _), List.take_length]
theorem ofK_prefix (O : List Nat) (x : Int) : ∀ k j, k ≤ j → ∃ m, ofK O j x = ofK O k x ++ m
  | k, j, h => by
    induction j with
    | zero => exact ⟨[], by rw [show k = 0 by omega]; simp⟩
    | succ j ih =>
      by_cases e : k = j + 1
      · exact ⟨[], by rw [e]; simp⟩
      · obtain ⟨m, hm⟩ := ih (by omega)
        refine ⟨m ++ List.filter (fun i => decide (0 < x) && decide (((O[i]?.getD 0 : Nat) : Int) = x)) [j], ?_⟩
        rw [← List.append_assoc, ← hm]
        unfold ofK
        rw [List.range_succ, List.filter_append]
theorem ofK_le {O : List Nat} {k : Nat} (x : Int) (h : k ≤ O.length) : (ofK O k x).length ≤ cntV O x := by
  obtain ⟨m, hm⟩ := ofK_prefix O x k O.length h
  rw [← ofV_length]
  unfold ofV
  rw [hm, List.length_append]
  omega
theorem ofK_full {O : List Nat} {k : Nat} {x : Int} (h : k ≤ O.length) (hl : cntV O x ≤ (ofK O k x).length) : ofK O k x = ofV O x := by
  obtain ⟨m, hm⟩ := ofK_prefix O x k O.length h
  have h1 := ofV_length O x
  unfold ofV at h1 ⊢
  rw [hm, List.length_append] at h1
  have : m = [] := List.eq_nil_of_length_eq_zero (by omega)
  rw [hm, this, List.append_nil]
theorem ofK_lt {O : List Nat} {k : Nat} {x : Int} (h : k ≤ O.length) (hl : (ofK O k x).length < cntV O x) : k < O.length := by
  rcases Nat.lt_or_ge k O.length with h1 | h1
  · exact h1
  · have := ofV_length O x
    unfold ofV at this
    rw [show O.length = k by omega] at this
    omega
theorem mem_ofV {O : List Nat} {x : Int} {i : Nat} : i ∈ ofV O x ↔ i < O.length ∧ 0 < x ∧ ((O[i]?.getD 0 : Nat) : Int) = x := by
  unfold ofV ofK
  simp [List.mem_filter]

/-! ### all of the one are the other's -/
def setAll (O : List Nat) (to : Nat) : List Nat → List Nat
  | [] => O
  | i :: l => setAll (O.set i to) to l
theorem setAll_length (to : Nat) : ∀ (l O : List Nat), (setAll O to l).length = O.length
  | [], _ => rfl
  | i :: l, O => by unfold setAll; rw [setAll_length to l, List.length_set]
theorem setAll_at (to : Nat) (j : Nat) : ∀ (l O : List Nat), (setAll O to l)[j]? = if j ∈ l ∧ j < O.length then some to else O[j]?
  | [], O => by simp [setAll]
  | i :: l, O => by
    unfold setAll
    rw [setAll_at to j l, List.length_set, List.getElem?_set]
    by_cases h1 : j ∈ l
    · by_cases h2 : j < O.length
      · simp [h1, h2]
      · have : O[j]? = none := List.getElem?_eq_none (by omega)
        by_cases h3 : i = j
        · subst h3; simp [h2]
        · simp [h2, h3]
    · by_cases h3 : i = j
      · subst h3
        by_cases h2 : i < O.length
        · simp [h1, h2]
        · simp [h2]
      · simp [h1, h3]
        intro e; exact absurd e.symm h3
theorem setAll_map (O : List Nat) {fr to : Nat} (hf : 0 < fr) : setAll O to (ofV O (fr : Int)) = O.map fun y => if y = fr then to else y := by
  refine List.ext_getElem? fun j => ?_
  rw [setAll_at, List.getElem?_map]
  by_cases hj : j < O.length
  · have hg := List.getElem?_eq_getElem hj
    rw [hg]
    by_cases e : O[j]'hj = fr
    · rw [if_pos ⟨mem_ofV.2 ⟨hj, by omega, by rw [hg]; simp; omega⟩, hj⟩, Option.map_some, if_pos e]
    · rw [if_neg, Option.map_some, if_neg e]
      rintro ⟨h, _⟩
      have := (mem_ofV.1 h).2.2
      rw [hg] at this
      simp at this
      omega
  · rw [if_neg (fun h => hj h.2), List.getElem?_eq_none (by omega)]
    rfl
theorem count_handed {fr to : Nat} (hne : fr ≠ to) (x : Nat) : ∀ O : List Nat, (O.map fun y => if y = fr then to else y).count x = if x = fr then 0 else if x = to then O.count to + O.count fr else O.count x
  | [] => by simp
  | y :: l => by
    rw [List.map_cons, List.count_cons, count_handed hne x l, List.count_cons, List.count_cons, List.count_cons]
    by_cases h1 : x = fr
    · subst h1
      simp
      split <;> omega
    · by_cases h2 : x = to
      · subst h2
        rw [if_neg h1, if_pos rfl, if_neg h1, if_pos rfl]
        by_cases h3 : y = fr
        · subst h3; simp [hne]; omega
        · simp [h3]; omega
      · rw [if_neg h1, if_neg h2, if_neg h1, if_neg h2]
        by_cases h3 : y = fr
        · subst h3; simp [Ne.symm h1, Ne.symm h2]
        · simp [h3]
theorem cntV_handed (O : List Nat) {fr to : Nat} (hf : 0 < fr) (ht : 0 < to) (hne : fr ≠ to) (x : Int) : cntV (setAll O to (ofV O (fr : Int))) x = if x = (fr : Int) then 0 else if x = (to : Int) then cntV O (to : Int) + cntV O (fr : Int) else cntV O x := by
  rw [setAll_map O hf]
  rw [cntV_nat O to, cntV_nat O fr, if_pos hf, if_pos ht]
  unfold cntV
  by_cases h0 : 0 < x
  · rw [if_pos h0, count_handed hne]
    by_cases h1 : x = (fr : Int)
    · rw [if_pos h1, if_pos (by omega)]
    · rw [if_neg h1, if_neg (by omega)]
      by_cases h2 : x = (to : Int)
      · rw [if_pos h2, if_pos (by omega)]
      · rw [if_neg h2, if_neg (by omega), if_pos h0]
  · rw [if_neg h0, if_neg (by omega), if_neg (by omega), if_neg h0]

/-! ### all owners -/
def insU (x : Nat) : List Nat → List Nat
  | [] => [x]
  | y :: l => if x < y then x :: y :: l else if x = y then y :: l else y :: insU x l
def ownersL : List Nat → List Nat
  | [] => []
  | x :: l => if x = 0 then ownersL l else insU x (ownersL l)
theorem mem_insU {x z : Nat} : ∀ {l : List Nat}, z ∈ insU x l ↔ z = x ∨ z ∈ l
  | [] => by simp [insU]
  | y :: l => by
    unfold insU
    split
    · simp
    · split
      · rename_i h; subst h; simp
      · simp [mem_insU (l := l)]
        constructor <;> rintro (h | h | h) <;> simp [h]
theorem insU_sorted {x : Nat} : ∀ {l : List Nat}, l.Pairwise (· < ·) → (insU x l).Pairwise (· < ·)
  | [], _ => by simp [insU]
  | y :: l, h => by
    have h1 := List.pairwise_cons.1 h
    unfold insU
    split
    · rename_i hxy
      refine List.pairwise_cons.2 ⟨fun z hz => ?_, h⟩
      rcases List.mem_cons.1 hz with rfl | hz
      · exact hxy
      · exact Nat.lt_trans hxy (h1.1 z hz)
    · split
      · exact h
      · refine List.pairwise_cons.2 ⟨fun z hz => ?_, insU_sorted h1.2⟩
        rcases mem_insU.1 hz with rfl | hz
        · omega
        · exact h1.1 z hz
theorem insU_length (x : Nat) : ∀ l : List Nat, (insU x l).length ≤ l.length + 1
  | [] => by simp [insU]
  | y :: l => by
    unfold insU
    split
    · simp
    · split
      · simp
      · have := insU_length x l
        simp
        omega
theorem mem_ownersL {z : Nat} : ∀ {O : List Nat}, z ∈ ownersL O ↔ 0 < z ∧ z ∈ O
  | [] => by simp [ownersL]
  | x :: l => by
    unfold ownersL
    split
    · rename_i h
      subst h
      rw [mem_ownersL (O := l)]
      simp
      intro h e
      omega
    · rw [mem_insU, mem_ownersL (O := l)]
      simp
      constructor
      · rintro (h | ⟨h1, h2⟩)
        · exact ⟨by omega, .inl h⟩
        · exact ⟨h1, .inr h2⟩
      · rintro ⟨h1, h2 | h2⟩
        · exact .inl h2
        · exact .inr ⟨h1, h2⟩
theorem ownersL_sorted : ∀ O : List Nat, (ownersL O).Pairwise (· < ·)
  | [] => by simp [ownersL]
  | x :: l => by
    unfold ownersL
    split
    · exact ownersL_sorted l
    · exact insU_sorted (ownersL_sorted l)
theorem ownersL_length : ∀ O : List Nat, (ownersL O).length ≤ O.length
  | [] => by simp [ownersL]
  | x :: l => by
    have h1 := ownersL_length l
    unfold ownersL
    split
    · simp; omega
    · have := insU_length x (ownersL l)
      simp
      omega
/-- The least above the last, or 0. -/
def minAb (last : Nat) : List Nat → Nat → Nat
  | [], nx => nx
  | x :: l, nx => minAb last l (if last < x ∧ (nx = 0 ∨ x < nx) then x else nx)
theorem minAb_is (last : Nat) : ∀ (l : List Nat) (nx : Nat), (nx = 0 ∨ last < nx) →
    (minAb last l nx = 0 ∧ nx = 0 ∧ ∀ x ∈ l, x ≤ last) ∨ (last < minAb last l nx ∧ (minAb last l nx = nx ∨ minAb last l nx ∈ l) ∧ (nx = 0 ∨ minAb last l nx ≤ nx) ∧ ∀ x ∈ l, last < x → minAb last l nx ≤ x)
  | [], nx, h => by
    unfold minAb
    rcases h with h | h
    · exact .inl ⟨h, h, fun x hx => by cases hx⟩
    · exact .inr ⟨h, .inl rfl, .inr (Nat.le_refl _), fun x hx => by cases hx⟩
  | y :: l, nx, h => by
    unfold minAb
    by_cases hc : last < y ∧ (nx = 0 ∨ y < nx)
    · rw [if_pos hc]
      rcases minAb_is last l y (.inr hc.1) with ⟨_, h2, _⟩ | ⟨h1, h2, h3, h4⟩
      · omega
      · refine .inr ⟨h1, ?_, ?_, fun x hx hl => ?_⟩
        · rcases h2 with h2 | h2
          · rw [h2]; exact .inr (List.mem_cons_self ..)
          · exact .inr (List.mem_cons_of_mem _ h2)
        · rcases hc.2 with e | e
          · exact .inl e
          · right; omega
        · rcases List.mem_cons.1 hx with rfl | hx
          · omega
          · exact h4 x hx hl
    · rw [if_neg hc]
      rcases minAb_is last l nx h with ⟨h1, h2, h3⟩ | ⟨h1, h2, h3, h4⟩
      · refine .inl ⟨h1, h2, fun x hx => ?_⟩
        rcases List.mem_cons.1 hx with rfl | hx
        · exact Nat.not_lt.1 fun e => hc ⟨e, .inl h2⟩
        · exact h3 x hx
      · refine .inr ⟨h1, ?_, h3, fun x hx hl => ?_⟩
        · rcases h2 with h2 | h2
          · exact .inl h2
          · exact .inr (List.mem_cons_of_mem _ h2)
        · rcases List.mem_cons.1 hx with rfl | hx
          · rcases h3 with e | e
            · exact absurd ⟨hl, .inl e⟩ hc
            · have : ¬ x < nx := fun e2 => hc ⟨hl, .inr e2⟩
              omega
          · exact h4 x hx hl
/-- What the document's Owners keeps: those told, the last of them, those that are left. -/
def Told (O : List Nat) (out : List Nat) (last : Nat) (rest : List Nat) : Prop := ownersL O = out ++ rest ∧ (∀ x ∈ out, x ≤ last) ∧ ∀ x ∈ rest, last < x
theorem Told.start (O : List Nat) : Told O [] 0 (ownersL O) := ⟨rfl, fun x hx => (by cases hx), fun x hx => (mem_ownersL.1 hx).1⟩
theorem Told.none {O out : List Nat} {last : Nat} (h : Told O out last []) : minAb last O 0 = 0 := by
  rcases minAb_is last O 0 (.inl rfl) with ⟨h1, _, _⟩ | ⟨h1, h2, _, _⟩
  · exact h1
  · rcases h2 with h2 | h2
    · omega
    · have : minAb last O 0 ∈ ownersL O := mem_ownersL.2 ⟨by omega, h2⟩
      rw [h.1, List.append_nil] at this
      have := h.2.1 _ this
      omega
theorem Told.next {O out rest : List Nat} {last r : Nat} (h : Told O out last (r :: rest)) : minAb last O 0 = r ∧ 0 < r ∧ Told O (out ++ [r]) r rest := by
  have hr : last < r := h.2.2 r (List.mem_cons_self ..)
  have hrO : r ∈ ownersL O := by rw [h.1]; simp
  have hs := ownersL_sorted O
  rw [h.1] at hs
  have hs2 := List.pairwise_cons.1 (List.pairwise_append.1 hs).2.1
  refine ⟨?_, by omega, by rw [h.1]; simp, fun x hx => ?_, hs2.1⟩
  · rcases minAb_is last O 0 (.inl rfl) with ⟨_, _, h3⟩ | ⟨h1, h2, _, h4⟩
    · have := h3 r (mem_ownersL.1 hrO).2
      omega
    · have h5 := h4 r (mem_ownersL.1 hrO).2 hr
      rcases h2 with h2 | h2
      · omega
      · have h6 : minAb last O 0 ∈ ownersL O := mem_ownersL.2 ⟨by omega, h2⟩
        rw [h.1] at h6
        rcases List.mem_append.1 h6 with h6 | h6
        · have := h.2.1 _ h6; omega
        · rcases List.mem_cons.1 h6 with h6 | h6
          · exact h6
          · have := hs2.1 _ h6; omega
  · rcases List.mem_append.1 hx with hx | hx
    · have := h.2.1 x hx; omega
    · rw [List.mem_singleton.1 hx]; exact Nat.le_refl _

/-! ### what each call answers and leaves -/
def atI (l : List Nat) (i : Int) : Nat := l[i.toNat]?.getD 0
def isIn (n : Nat) (i : Int) : Bool := decide (0 ≤ i ∧ i < (n : Int))
def ownE (O : List Nat) (i x : Int) : Nat := if isIn O.length i = false ∨ x < 1 then 2 else if 0 < atI O i then 19 else 0
def ownV (O : List Nat) (i x : Int) : List Nat := if ownE O i x = 0 then O.set i.toNat x.toNat else O
def leaveE (O : List Nat) (i : Int) : Nat := if isIn O.length i = false then 2 else if atI O i = 0 then 20 else 0
def leaveV (O : List Nat) (i : Int) : List Nat := if leaveE O i = 0 then O.set i.toNat 0 else O
def raiseE (O G : List Nat) (i : Int) : Nat := if isIn O.length i = false then 2 else if 0 < atI O i then 19 else if 1048575 ≤ atI G i then 6 else 0
def raiseV (O G : List Nat) (i : Int) : List Nat := if raiseE O G i = 0 then G.set i.toNat (atI G i + 1) else G
def ownerV (O : List Nat) (i : Int) : Nat := if isIn O.length i = true then atI O i else 0
def genV (G : List Nat) (i : Int) : Int := if isIn G.length i = true then (atI G i : Int) else -1
def handE (O : List Nat) (fr to : Int) : Nat := if fr < 1 ∨ to < 1 ∨ fr = to then 0 else cntV O fr
def handV (O : List Nat) (fr to : Int) : List Nat := if fr < 1 ∨ to < 1 ∨ fr = to then O else setAll O to.toNat (ofV O fr)
theorem atI_nat (l : List Nat) (k : Nat) : atI l (k : Int) = l[k]?.getD 0 := by unfold atI; rw [Int.toNat_natCast]
theorem isIn_iff {n : Nat} {i : Int} : isIn n i = true ↔ 0 ≤ i ∧ i < (n : Int) := by unfold isIn; exact decide_eq_true_iff
theorem isIn_not {n : Nat} {i : Int} : isIn n i = false ↔ i < 0 ∨ (n : Int) ≤ i := by unfold isIn; rw [decide_eq_false_iff_not]; omega
theorem ownV_length (O : List Nat) (i x : Int) : (ownV O i x).length = O.length := by unfold ownV; split <;> simp
theorem leaveV_length (O : List Nat) (i : Int) : (leaveV O i).length = O.length := by unfold leaveV; split <;> simp
theorem raiseV_length (O G : List Nat) (i : Int) : (raiseV O G i).length = G.length := by unfold raiseV; split <;> simp
theorem handV_length (O : List Nat) (fr to : Int) : (handV O fr to).length = O.length := by
  unfold handV
  split
  · rfl
  · rw [setAll_length]
end Go.Proofs.Ytiidkfcblnkghaa
