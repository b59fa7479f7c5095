/- Layer 6 (slots), plain mathematics: places that are open or not, their generations, those that were closed; what Open and Close make of them. -/
namespace Go.Proofs.Ytoocdngaimneoaa

/-- Slots: is a place open; its generation; those that were closed, the last one last; how many were ever open. -/
structure St where
  opn : Nat → Bool
  gen : Nat → Nat
  closed : List Nat
  fresh : Nat

def placesOf (n : Nat) (f : Nat → Bool) : List Nat := (List.range n).filter f
theorem mem_placesOf {n : Nat} {f : Nat → Bool} {p : Nat} : p ∈ placesOf n f ↔ p < n ∧ f p = true := by simp [placesOf]
theorem placesOf_nodup (n : Nat) (f : Nat → Bool) : (placesOf n f).Nodup := List.nodup_range.filter _
theorem placesOf_le (n : Nat) (f : Nat → Bool) : (placesOf n f).length ≤ n := by
  have := List.length_filter_le f (List.range n)
  rwa [List.length_range] at this
theorem placesOf_succ (n : Nat) (f : Nat → Bool) : placesOf (n + 1) f = placesOf n f ++ if f n = true then [n] else [] := by
  unfold placesOf
  rw [List.range_succ, List.filter_append, List.filter_cons, List.filter_nil]
theorem placesOf_cut {m n : Nat} {f : Nat → Bool} (h : ∀ p, f p = true → p < m) (hm : m ≤ n) : placesOf n f = placesOf m f := by
  induction n with
  | zero => have : m = 0 := by omega
            subst this; rfl
  | succ k ih =>
    by_cases e : m = k + 1
    · rw [e]
    · rw [placesOf_succ, ih (by omega)]
      cases hk : f k with
      | false => simp
      | true => have := h k hk; omega

/-- What holds of n slots at any time. -/
structure Ok (n : Nat) (s : St) : Prop where
  le : s.fresh ≤ n
  nodup : s.closed.Nodup
  shut : ∀ p ∈ s.closed, p < s.fresh ∧ s.opn p = false
  below : ∀ p, s.opn p = true → p < s.fresh
  each : ∀ p, p < s.fresh → s.opn p = false → p ∈ s.closed
  zero : ∀ p, s.fresh ≤ p → s.gen p = 0

theorem Ok.count {n : Nat} {s : St} (h : Ok n s) : (placesOf n s.opn).length + s.closed.length = s.fresh := by
  rw [placesOf_cut h.below h.le]
  have h1 : s.closed.Perm ((List.range s.fresh).filter fun p => !s.opn p) := by
    refine (List.perm_ext_iff_of_nodup h.nodup (List.nodup_range.filter _)).2 fun p => ?_
    rw [List.mem_filter, List.mem_range]
    constructor
    · intro hp
      have := h.shut p hp
      simp [this]
    · rintro ⟨h2, h3⟩
      exact h.each p h2 (by simpa using h3)
  rw [h1.length_eq]
  unfold placesOf
  have h2 := List.length_eq_countP_add_countP s.opn (l := List.range s.fresh)
  rw [List.length_range, List.countP_eq_length_filter, List.countP_eq_length_filter] at h2
  have h3 : ((List.range s.fresh).filter fun p => !s.opn p) = (List.range s.fresh).filter fun a => decide ¬s.opn a = true := by
    congr 1; funext p; cases s.opn p <;> rfl
  rw [h3]
  omega

def upd {α : Type} (f : Nat → α) (p : Nat) (x : α) : Nat → α := fun q => if q = p then x else f q
theorem upd_same {α : Type} (f : Nat → α) (p : Nat) (x : α) : upd f p x p = x := if_pos rfl
theorem upd_other {α : Type} {f : Nat → α} {p q : Nat} {x : α} (h : q ≠ p) : upd f p x q = f q := if_neg h

theorem placesOf_congr {n : Nat} {f h : Nat → Bool} (e : ∀ p, p < n → f p = h p) : placesOf n f = placesOf n h :=
  List.filter_congr fun p hp => e p (List.mem_range.1 hp)
theorem placesOf_put : ∀ {n p : Nat} {f : Nat → Bool}, f p = false → p < n → (placesOf n (upd f p true)).length = (placesOf n f).length + 1
  | 0, _, _, _, h => by omega
  | n + 1, p, f, hf, h => by
    rw [placesOf_succ, placesOf_succ, List.length_append, List.length_append]
    by_cases e : p = n
    · subst e
      rw [upd_same, hf, placesOf_congr (h := f) fun q hq => upd_other (by omega)]
      simp
    · rw [placesOf_put hf (by omega), upd_other (by omega)]
      omega
theorem upd_back {f : Nat → Bool} {p : Nat} (h : f p = true) : upd (upd f p false) p true = f := by
  funext q
  unfold upd
  by_cases e : q = p
  · rw [if_pos e, e, h]
  · rw [if_neg e, if_neg e]
theorem placesOf_del {n p : Nat} {f : Nat → Bool} (hf : f p = true) (h : p < n) : (placesOf n (upd f p false)).length + 1 = (placesOf n f).length := by
  have := placesOf_put (f := upd f p false) (upd_same _ _ _) h
  rw [upd_back hf] at this
  omega

def St.none : St := ⟨fun _ => false, fun _ => 0, [], 0⟩
theorem Ok.new (n : Nat) : Ok n St.none := ⟨Nat.zero_le _, List.nodup_nil, fun p h => (List.not_mem_nil h).elim, fun p h => (by cases h), fun p h => (by cases h), fun _ _ => rfl⟩

/-- The place that was closed last. -/
def lastOf (l : List Nat) : Nat := l.getD (l.length - 1) 0
theorem lastOf_at {l : List Nat} (h : 0 < l.length) : l[l.length - 1]? = some (lastOf l) := by
  unfold lastOf
  rw [List.getD_eq_getElem?_getD, List.getElem?_eq_getElem (by omega)]; rfl
theorem lastOf_mem {l : List Nat} (h : 0 < l.length) : lastOf l ∈ l := List.mem_of_getElem? (lastOf_at h)
theorem lastOf_cut {l : List Nat} (h : 0 < l.length) : l = l.dropLast ++ [lastOf l] := by
  have e : l ≠ [] := List.length_pos_iff.1 h
  have := (List.dropLast_concat_getLast e).symm
  have e2 : l.getLast e = lastOf l := by
    have h1 := lastOf_at h
    rw [← List.getLast?_eq_getElem?, List.getLast?_eq_some_getLast e] at h1
    injection h1
  rwa [e2] at this

/-- Behind Open of the one that was closed last. -/
def St.again (s : St) : St := { s with opn := upd s.opn (lastOf s.closed) true, closed := s.closed.dropLast }
/-- Behind Open of the least one that was never open. -/
def St.next (s : St) : St := { s with opn := upd s.opn s.fresh true, fresh := s.fresh + 1 }
/-- Behind Close of p. -/
def St.shutP (s : St) (p : Nat) : St := { s with opn := upd s.opn p false, gen := upd s.gen p (s.gen p + 1), closed := s.closed ++ [p] }

theorem Ok.again {n : Nat} {s : St} (h : Ok n s) (hc : 0 < s.closed.length) : Ok n s.again := by
  have hm := lastOf_mem hc
  have hcut := lastOf_cut hc
  have hnd := h.nodup
  rw [hcut] at hnd
  have hnl : lastOf s.closed ∉ s.closed.dropLast := fun hx => by
    have := (List.nodup_append.1 hnd).2.2 _ hx _ (List.mem_singleton.2 rfl)
    exact this rfl
  refine ⟨h.le, (List.nodup_append.1 hnd).1, fun p hp => ?_, fun p hp => ?_, fun p hp ho => ?_, h.zero⟩
  · have hp' : p ∈ s.closed := List.dropLast_subset _ hp
    have hne : p ≠ lastOf s.closed := fun e => hnl (e ▸ hp)
    exact ⟨(h.shut p hp').1, by show upd _ _ _ _ = _; rw [upd_other hne]; exact (h.shut p hp').2⟩
  · by_cases e : p = lastOf s.closed
    · rw [e]; exact (h.shut _ hm).1
    · have hp' : upd s.opn (lastOf s.closed) true p = true := hp
      rw [upd_other e] at hp'
      exact h.below p hp'
  · have ho' : upd s.opn (lastOf s.closed) true p = false := ho
    by_cases e : p = lastOf s.closed
    · rw [e, upd_same] at ho'; cases ho'
    · rw [upd_other e] at ho'
      have := h.each p hp ho'
      rw [hcut] at this
      rcases List.mem_append.1 this with h1 | h1
      · exact h1
      · exact (e (List.mem_singleton.1 h1)).elim
theorem Ok.next {n : Nat} {s : St} (h : Ok n s) (hf : s.fresh < n) : Ok n s.next := by
  refine ⟨hf, h.nodup, fun p hp => ?_, fun p hp => ?_, fun p hp ho => ?_, fun p hp => h.zero p (by have : s.fresh + 1 ≤ p := hp; omega)⟩
  · have h1 := h.shut p hp
    exact ⟨Nat.lt_succ_of_lt h1.1, by show upd _ _ _ _ = _; rw [upd_other (by omega)]; exact h1.2⟩
  · have hp' : upd s.opn s.fresh true p = true := hp
    show p < s.fresh + 1
    by_cases e : p = s.fresh
    · omega
    · rw [upd_other e] at hp'
      have := h.below p hp'
      omega
  · have ho' : upd s.opn s.fresh true p = false := ho
    have hp' : p < s.fresh + 1 := hp
    by_cases e : p = s.fresh
    · rw [e, upd_same] at ho'; cases ho'
    · rw [upd_other e] at ho'
      exact h.each p (by omega) ho'
theorem Ok.shutP {n p : Nat} {s : St} (h : Ok n s) (hp : s.opn p = true) : Ok n (s.shutP p) := by
  have hpf := h.below p hp
  have hnc : p ∉ s.closed := fun hx => by have := (h.shut p hx).2; rw [hp] at this; cases this
  refine ⟨h.le, List.nodup_append.2 ⟨h.nodup, by simp, fun a ha b hb => by rw [List.mem_singleton.1 hb]; exact fun e => hnc (e ▸ ha)⟩, fun q hq => ?_, fun q hq => ?_, fun q hq ho => ?_, fun q hq => ?_⟩
  · rcases List.mem_append.1 hq with h1 | h1
    · have h2 := h.shut q h1
      exact ⟨h2.1, by show upd _ _ _ _ = _; rw [upd_other (fun e => hnc (by rw [← e]; exact h1))]; exact h2.2⟩
    · rw [List.mem_singleton.1 h1]; exact ⟨hpf, upd_same _ _ _⟩
  · have hq' : upd s.opn p false q = true := hq
    by_cases e : q = p
    · rw [e]; exact hpf
    · rw [upd_other e] at hq'; exact h.below q hq'
  · have ho' : upd s.opn p false q = false := ho
    show q ∈ s.closed ++ [p]
    by_cases e : q = p
    · simp [e]
    · rw [upd_other e] at ho'
      have := h.each q hq ho'
      simp [this]
  · have hq' : s.fresh ≤ q := hq
    show upd _ _ _ _ = _
    rw [upd_other (by omega)]; exact h.zero q hq

theorem St.again_not {n : Nat} {s : St} (h : Ok n s) (hc : 0 < s.closed.length) : s.opn (lastOf s.closed) = false := (h.shut _ (lastOf_mem hc)).2
theorem St.next_not {n : Nat} {s : St} (h : Ok n s) : s.opn s.fresh = false := by
  cases e : s.opn s.fresh with
  | false => rfl
  | true => have := h.below _ e; omega

/-- Which place Open opens; are there any more. -/
def St.more (n : Nat) (s : St) : Bool := decide (0 < s.closed.length) || decide (s.fresh < n)
def St.placeO (n : Nat) (s : St) : Nat := if s.more n = true then (if 0 < s.closed.length then lastOf s.closed else s.fresh) else 0
def St.genO (n : Nat) (s : St) : Nat := if s.more n = true then s.gen (s.placeO n) else 0
def St.openO (n : Nat) (s : St) : St := if s.more n = true then (if 0 < s.closed.length then s.again else s.next) else s
theorem Ok.full {n : Nat} {s : St} (h : Ok n s) : (placesOf n s.opn).length = n ↔ s.more n = false := by
  have h1 := h.count
  have h2 := h.le
  unfold St.more
  rw [Bool.or_eq_false_iff, decide_eq_false_iff_not, decide_eq_false_iff_not]
  omega
theorem Ok.openO {n : Nat} {s : St} (h : Ok n s) : Ok n (s.openO n) := by
  unfold St.openO
  split
  · rename_i hm
    split
    · rename_i hc; exact h.again hc
    · rename_i hc
      refine h.next ?_
      unfold St.more at hm
      simpa [hc] using hm
  · exact h

theorem St.openO_gen (n : Nat) (s : St) : (s.openO n).gen = s.gen := by
  unfold St.openO
  split
  · split <;> rfl
  · rfl
theorem St.openO_opn {n : Nat} {s : St} (h : s.more n = true) : (s.openO n).opn = upd s.opn (s.placeO n) true := by
  unfold St.openO St.placeO
  rw [if_pos h, if_pos h]
  split <;> rfl
theorem St.openO_no {n : Nat} {s : St} (h : s.more n = false) : s.openO n = s := by unfold St.openO; rw [h]; rfl
theorem St.genO_at {n : Nat} {s : St} (h : s.more n = true) : s.genO n = s.gen (s.placeO n) := if_pos h
theorem Ok.place_not {n : Nat} {s : St} (h : Ok n s) (hm : s.more n = true) : s.opn (s.placeO n) = false ∧ s.placeO n < n := by
  unfold St.placeO
  rw [if_pos hm]
  split
  · rename_i hc
    have h1 := h.shut _ (lastOf_mem hc)
    exact ⟨h1.2, Nat.lt_of_lt_of_le h1.1 h.le⟩
  · rename_i hc
    unfold St.more at hm
    exact ⟨St.next_not h, by simpa [hc] using hm⟩

/-- Is the place open; is it, with that generation. -/
def openI (s : St) (x : Int) : Bool := decide (0 ≤ x) && s.opn x.toNat
def rightI (s : St) (x g : Int) : Bool := openI s x && decide ((s.gen x.toNat : Int) = g)
def genI (n : Nat) (s : St) (x : Int) : Int := if 0 ≤ x ∧ x < n then s.gen x.toNat else -1
def closeI (s : St) (x g : Int) : St := if rightI s x g = true then s.shutP x.toNat else s
theorem openI_nat (s : St) (p : Nat) : openI s (p : Int) = s.opn p := by unfold openI; simp
theorem rightI_true {s : St} {x g : Int} (h : rightI s x g = true) : ∃ p : Nat, x = (p : Int) ∧ s.opn p = true ∧ g = (s.gen p : Int) := by
  unfold rightI openI at h
  simp only [Bool.and_eq_true, decide_eq_true_eq] at h
  obtain ⟨p, rfl⟩ := Int.eq_ofNat_of_zero_le h.1.1
  exact ⟨p, rfl, by simpa using h.1.2, by simpa using h.2.symm⟩
theorem Ok.closeI {n : Nat} {s : St} (h : Ok n s) (x g : Int) : Ok n (closeI s x g) := by
  unfold Go.Proofs.Ytoocdngaimneoaa.closeI
  split
  · rename_i hr
    obtain ⟨p, rfl, hp, _⟩ := rightI_true hr
    exact h.shutP (by simpa using hp)
  · exact h

/-- What was opened of those was with a generation that is past, or with that which it is open with. -/
def Past (s : St) (ps gs : List Nat) : Prop := ∀ (j p g : Nat), ps[j]? = some p → gs[j]? = some g → g < s.gen p ∨ (g = s.gen p ∧ s.opn p = true)
theorem Past.openO {n : Nat} {s : St} {ps gs : List Nat} (h : Past s ps gs) (hm : s.more n = true) (hl : gs.length = ps.length) : Past (s.openO n) (ps ++ [s.placeO n]) (gs ++ [s.genO n]) := by
  intro j p g hp hg
  rw [St.openO_gen, St.openO_opn hm]
  by_cases hj : j < ps.length
  · rw [List.getElem?_append_left hj] at hp
    rw [List.getElem?_append_left (by omega)] at hg
    rcases h j p g hp hg with h1 | ⟨h1, h2⟩
    · exact .inl h1
    · refine .inr ⟨h1, ?_⟩
      by_cases e : p = s.placeO n
      · rw [e, upd_same]
      · rw [upd_other e, h2]
  · rw [List.getElem?_append_right (by omega)] at hp hg
    by_cases h0 : j - ps.length = 0
    · rw [h0] at hp
      rw [hl, h0] at hg
      injection hp with hp
      injection hg with hg
      subst hp hg
      exact .inr ⟨St.genO_at hm, upd_same _ _ _⟩
    · rw [List.getElem?_eq_none (by simp; omega)] at hp
      cases hp
theorem Past.fresh {n : Nat} {s : St} {ps gs : List Nat} (h : Past s ps gs) (hok : Ok n s) (hm : s.more n = true) {j g : Nat} (hp : ps[j]? = some (s.placeO n)) (hg : gs[j]? = some g) : g ≠ s.genO n := by
  rw [St.genO_at hm]
  rcases h j _ g hp hg with h1 | ⟨_, h2⟩
  · omega
  · rw [(hok.place_not hm).1] at h2; cases h2
theorem Past.closeI {s : St} {ps gs : List Nat} (h : Past s ps gs) (x y : Int) : Past (closeI s x y) ps gs := by
  intro j p g hp hg
  unfold Go.Proofs.Ytoocdngaimneoaa.closeI
  split
  · show g < upd s.gen x.toNat (s.gen x.toNat + 1) p ∨ (g = upd s.gen x.toNat (s.gen x.toNat + 1) p ∧ upd s.opn x.toNat false p = true)
    have h1 := h j p g hp hg
    by_cases e : p = x.toNat
    · rw [e] at h1 ⊢
      rw [upd_same]
      left
      omega
    · rw [upd_other e, upd_other e]
      exact h1
  · exact h j p g hp hg
theorem closeI_right (s : St) (x y : Int) : rightI (closeI s x y) x y = false := by
  cases hr : rightI s x y with
  | false => unfold closeI; rw [hr]; exact hr
  | true =>
    unfold closeI
    rw [hr, if_pos rfl]
    unfold rightI openI
    show (decide (0 ≤ x) && upd s.opn x.toNat false x.toNat && _) = false
    rw [upd_same]
    simp
/-- Those that were ever open, by their generations. -/
def gensOf (s : St) : List Nat := (List.range s.fresh).map s.gen
theorem gensOf_length (s : St) : (gensOf s).length = s.fresh := by unfold gensOf; simp
theorem gensOf_at {s : St} {p : Nat} (h : p < s.fresh) : (gensOf s)[p]? = some (s.gen p) := by unfold gensOf; rw [List.getElem?_map, List.getElem?_range h]; rfl
theorem gensOf_again (s : St) : gensOf s.again = gensOf s := rfl
theorem gensOf_next {n : Nat} {s : St} (h : Ok n s) : gensOf s.next = gensOf s ++ [0] := by
  unfold gensOf
  show (List.range (s.fresh + 1)).map s.gen = _
  rw [List.range_succ, List.map_append]
  simp [h.zero s.fresh (Nat.le_refl _)]
theorem gensOf_shut {s : St} {p : Nat} (q : Nat) (hq : q < s.fresh) : (gensOf (s.shutP p))[q]? = some (if q = p then s.gen p + 1 else s.gen q) := by
  rw [gensOf_at (show q < (s.shutP p).fresh from hq)]
  rfl
theorem gensOf_shutP {s : St} {p : Nat} (hp : p < s.fresh) : gensOf (s.shutP p) = (gensOf s).set p (s.gen p + 1) := by
  refine List.ext_getElem? fun q => ?_
  by_cases hq : q < s.fresh
  · rw [gensOf_shut q hq, List.getElem?_set, gensOf_length]
    by_cases e : p = q
    · subst e; rw [if_pos rfl, if_pos rfl, if_pos hp]
    · rw [if_neg (fun h => e h.symm), if_neg e, gensOf_at hq]
  · rw [List.getElem?_eq_none (by rw [gensOf_length]; show s.fresh ≤ q; omega), List.getElem?_eq_none (by rw [List.length_set, gensOf_length]; omega)]
/-- No generation is above this. -/
def Low (m : Nat) (s : St) : Prop := ∀ p, s.gen p ≤ m
theorem Low.new : Low 0 St.none := fun _ => Nat.le_refl _
theorem Low.mono {m k : Nat} {s : St} (h : Low m s) (hk : m ≤ k) : Low k s := fun p => Nat.le_trans (h p) hk
theorem Low.openO {m n : Nat} {s : St} (h : Low m s) : Low m (s.openO n) := by
  intro p
  unfold St.openO
  split
  · split
    · exact h p
    · exact h p
  · exact h p
theorem Low.closeI {m : Nat} {s : St} (h : Low m s) (x g : Int) : Low (m + 1) (closeI s x g) := by
  intro p
  unfold Go.Proofs.Ytoocdngaimneoaa.closeI
  split
  · show upd _ _ _ _ ≤ _
    by_cases e : p = x.toNat
    · rw [e, upd_same]; have := h x.toNat; omega
    · rw [upd_other e]; have := h p; omega
  · have := h p; omega
end Go.Proofs.Ytoocdngaimneoaa
