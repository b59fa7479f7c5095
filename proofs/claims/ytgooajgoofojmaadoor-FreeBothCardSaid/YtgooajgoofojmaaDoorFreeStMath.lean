/- Layer 3 (stack): lists of numbers, each at most once: where one stands, and what is left when the top one comes to its place. Plain mathematics. -/
import Derived.Lib.Hide
namespace Go.Proofs.YtgooajgoofojmaaDoor

/-- How many stand below x; -1, if it is not there. -/
def placeV (l : List Nat) (x : Nat) : Int := if x ∈ l then (l.idxOf x : Int) else -1
theorem placeV_no {l : List Nat} {x : Nat} (h : x ∉ l) : placeV l x = -1 := if_neg h
theorem placeV_at {l : List Nat} {x i : Nat} (hn : l.Nodup) (h : l[i]? = some x) : placeV l x = i := by
  obtain ⟨hi, hx⟩ := List.getElem?_eq_some_iff.1 h
  have hm : x ∈ l := List.mem_of_getElem? h
  unfold placeV
  rw [if_pos hm]
  have : l.idxOf x = i := by rw [← hx]; exact hn.idxOf_getElem i hi
  rw [this]
theorem placeV_mem {l : List Nat} {x : Nat} (h : x ∈ l) : ∃ i, i < l.length ∧ l[i]? = some x ∧ placeV l x = i := by
  refine ⟨l.idxOf x, List.idxOf_lt_length_of_mem h, ?_, if_pos h⟩
  rw [List.getElem?_eq_getElem (List.idxOf_lt_length_of_mem h), List.getElem_idxOf]
theorem placeV_range (l : List Nat) (x : Nat) : -1 ≤ placeV l x ∧ placeV l x < l.length := by
  by_cases h : x ∈ l
  · obtain ⟨i, h1, _, h3⟩ := placeV_mem h
    omega
  · rw [placeV_no h]; omega
theorem placeV_nil (x : Nat) : placeV [] x = -1 := placeV_no (by simp)
theorem placeV_neg_iff {l : List Nat} {x : Nat} : placeV l x = -1 ↔ x ∉ l := by
  constructor
  · intro h hm
    obtain ⟨i, _, _, h3⟩ := placeV_mem hm
    omega
  · exact placeV_no
theorem placeV_eq {l : List Nat} {x i : Nat} (h : placeV l x = i) : l[i]? = some x := by
  by_cases hm : x ∈ l
  · obtain ⟨j, _, h2, h3⟩ := placeV_mem hm
    rw [h3] at h
    have : j = i := by omega
    rw [← this]; exact h2
  · rw [placeV_no hm] at h; omega
theorem placeV_push {l : List Nat} {x : Nat} (hn : l.Nodup) (hx : x ∉ l) (y : Nat) : placeV (l ++ [x]) y = if y = x then (l.length : Int) else placeV l y := by
  have hn' : (l ++ [x]).Nodup := by
    rw [List.nodup_append]
    refine ⟨hn, by simp, fun a ha b hb => ?_⟩
    rw [List.mem_singleton.1 hb]
    rintro rfl
    exact hx ha
  by_cases h : y = x
  · subst h
    rw [if_pos rfl]
    exact placeV_at hn' (by simp)
  · rw [if_neg h]
    by_cases hm : y ∈ l
    · obtain ⟨i, h1, h2, h3⟩ := placeV_mem hm
      rw [h3]
      exact placeV_at hn' (by rw [List.getElem?_append_left h1]; exact h2)
    · rw [placeV_no hm, placeV_no (by simp [hm, h])]
theorem nodup_push {l : List Nat} {x : Nat} (hn : l.Nodup) (hx : x ∉ l) : (l ++ [x]).Nodup := by
  rw [List.nodup_append]
  refine ⟨hn, by simp, fun a ha b hb => ?_⟩
  rw [List.mem_singleton.1 hb]
  rintro rfl
  exact hx ha

/-- The top one; 0 without one. -/
def topV (l : List Nat) : Nat := l.getLastD 0
theorem topV_snoc (l : List Nat) (x : Nat) : topV (l ++ [x]) = x := by unfold topV; simp
theorem topV_at {l : List Nat} (h : 0 < l.length) : l[l.length - 1]? = some (topV l) := by
  unfold topV
  rw [← List.getLast?_eq_getElem?, List.getLast?_eq_some_getLast (by intro e; subst e; simp at h)]
  congr 1
  rw [List.getLastD_eq_getLast?, List.getLast?_eq_some_getLast (by intro e; subst e; simp at h)]
  rfl
theorem topV_mem {l : List Nat} (h : 0 < l.length) : topV l ∈ l := List.mem_of_getElem? (topV_at h)

/-- x is there no more, and the top one is in its place. -/
def dropL (l : List Nat) (x : Nat) : List Nat := if x ∈ l then (l.set (l.idxOf x) (topV l)).dropLast else l
theorem dropL_length {l : List Nat} {x : Nat} (h : x ∈ l) : (dropL l x).length = l.length - 1 := by unfold dropL; rw [if_pos h]; simp
theorem dropL_no {l : List Nat} {x : Nat} (h : x ∉ l) : dropL l x = l := if_neg h
theorem dropL_at {l : List Nat} {x i : Nat} (hp : placeV l x = i) {j : Nat} (hj : j < l.length - 1) : (dropL l x)[j]? = if j = i then some (topV l) else l[j]? := by
  have hx : x ∈ l := by
    by_cases h : x ∈ l
    · exact h
    · rw [placeV_no h] at hp; omega
  have hi : l.idxOf x = i := by
    unfold placeV at hp
    rw [if_pos hx] at hp
    omega
  unfold dropL
  rw [if_pos hx, hi, List.getElem?_dropLast, if_pos (by rw [List.length_set]; exact hj), List.getElem?_set]
  by_cases e : i = j
  · subst e
    rw [if_pos rfl, if_pos rfl, if_pos (by omega)]
  · rw [if_neg e, if_neg (Ne.symm e)]
/-- Whether l's numbers stand at most once each, told by its places. -/
theorem nodup_of {l : List Nat} (h : ∀ i j x : Nat, l[i]? = some x → l[j]? = some x → i = j) : l.Nodup := by
  refine List.pairwise_iff_getElem.2 fun i j hi hj hij e => ?_
  have := h i j _ (List.getElem?_eq_getElem hi) (by rw [e]; exact List.getElem?_eq_getElem hj)
  omega
theorem nodup_inj {l : List Nat} (h : l.Nodup) {i j x : Nat} (hi : l[i]? = some x) (hj : l[j]? = some x) : i = j := by
  have h1 := placeV_at h hi
  have h2 := placeV_at h hj
  omega
theorem nodup_drop {l : List Nat} {x : Nat} (hn : l.Nodup) : (dropL l x).Nodup := by
  by_cases hx : x ∈ l
  · obtain ⟨p, hp1, hp2, hp3⟩ := placeV_mem hx
    have hlen := dropL_length hx
    refine nodup_of fun i j y hi hj => ?_
    have hi' := (List.getElem?_eq_some_iff.1 hi).1
    have hj' := (List.getElem?_eq_some_iff.1 hj).1
    rw [dropL_at hp3 (by omega)] at hi hj
    have ht := topV_at (l := l) (by omega)
    by_cases e1 : i = p <;> by_cases e2 : j = p
    · omega
    · rw [if_pos e1] at hi; rw [if_neg e2] at hj
      rw [hi] at ht
      have := nodup_inj hn ht hj
      omega
    · rw [if_neg e1] at hi; rw [if_pos e2] at hj
      rw [hj] at ht
      have := nodup_inj hn ht hi
      omega
    · rw [if_neg e1] at hi; rw [if_neg e2] at hj
      exact nodup_inj hn hi hj
  · rw [dropL_no hx]; exact hn
theorem mem_drop {l : List Nat} {x y : Nat} (h : y ∈ dropL l x) : y ∈ l := by
  by_cases hx : x ∈ l
  · obtain ⟨p, hp1, hp2, hp3⟩ := placeV_mem hx
    obtain ⟨i, hi⟩ := List.getElem?_of_mem h
    have hi' := (List.getElem?_eq_some_iff.1 hi).1
    rw [dropL_length hx] at hi'
    rw [dropL_at hp3 hi'] at hi
    by_cases e : i = p
    · rw [if_pos e] at hi
      injection hi with hi
      rw [← hi]; exact topV_mem (by omega)
    · rw [if_neg e] at hi; exact List.mem_of_getElem? hi
  · rwa [dropL_no hx] at h
theorem placeV_drop {l : List Nat} {x i : Nat} (hn : l.Nodup) (hp : placeV l x = i) (y : Nat) : placeV (dropL l x) y = if y = x then -1 else if y = topV l then (i : Int) else placeV l y := by
  have hx : x ∈ l := by
    by_cases h : x ∈ l
    · exact h
    · rw [placeV_no h] at hp; omega
  have hpx := placeV_eq hp
  have hil := (List.getElem?_eq_some_iff.1 hpx).1
  have ht := topV_at (l := l) (by omega)
  have hn' := nodup_drop (x := x) hn
  have hlen := dropL_length hx
  by_cases e : y = x
  · subst e
    rw [if_pos rfl]
    refine placeV_no fun hm => ?_
    obtain ⟨j, hj⟩ := List.getElem?_of_mem hm
    have hj' := (List.getElem?_eq_some_iff.1 hj).1
    rw [dropL_at hp (by omega)] at hj
    by_cases ej : j = i
    · rw [if_pos ej] at hj
      rw [hj] at ht
      have := nodup_inj hn ht hpx
      omega
    · rw [if_neg ej] at hj
      exact ej (nodup_inj hn hj hpx)
  · rw [if_neg e]
    by_cases et : y = topV l
    · rw [if_pos et]
      have hne : i ≠ l.length - 1 := by
        intro ei
        rw [← ei, hpx] at ht
        injection ht with ht
        exact e (by rw [et, ht])
      refine placeV_at hn' ?_
      rw [dropL_at hp (by omega), if_pos rfl, et]
    · rw [if_neg et]
      by_cases hm : y ∈ l
      · obtain ⟨j, h1, h2, h3⟩ := placeV_mem hm
        rw [h3]
        have hj1 : j ≠ l.length - 1 := by
          intro ej
          rw [← ej, h2] at ht
          injection ht with ht
          exact et ht
        have hj2 : j ≠ i := by
          intro ej
          rw [ej, hpx] at h2
          injection h2 with h2
          exact e h2.symm
        refine placeV_at hn' ?_
        rw [dropL_at hp (by omega), if_neg hj2]
        exact h2
      · rw [placeV_no hm, placeV_no fun h => hm (mem_drop h)]
theorem dropL_top {l : List Nat} (hn : l.Nodup) (h : 0 < l.length) : dropL l (topV l) = l.dropLast := by
  have hp := placeV_at hn (topV_at h)
  refine List.ext_getElem? fun j => ?_
  by_cases hj : j < l.length - 1
  · rw [dropL_at hp hj, if_neg (by omega), List.getElem?_dropLast, if_pos hj]
  · rw [List.getElem?_eq_none (by rw [dropL_length (topV_mem h)]; omega), List.getElem?_eq_none (by rw [List.length_dropLast]; omega)]
end Go.Proofs.YtgooajgoofojmaaDoor
