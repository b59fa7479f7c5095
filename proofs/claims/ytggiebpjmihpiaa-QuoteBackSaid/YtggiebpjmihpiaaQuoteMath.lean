/- Layer 12 (quote): plain mathematics: what stands for a byte in quotes; which byte may stand at a place, and that no other one may; texts in quotes, told and read. -/
import Derived.Test.YtggiebpjmihpiaaBaseText
import Derived.Lib.Bytealg
namespace Go.Proofs.Ytggiebpjmihpiaa

/-- The digits. -/
abbrev hexT : ByteArray := { data := #[48, 49, 50, 51, 52, 53, 54, 55, 56, 57, 97, 98, 99, 100, 101, 102] }
def hx (d : Nat) : UInt8 := byteAt hexT d
theorem hx_index : ∀ d, d < 16 → Lib.indexByte (txt hexT) (hx d) = (d : Int) := by decide
/-- What stands for a byte. -/
def part (c : UInt8) : List UInt8 :=
  if c.toNat = 34 ∨ c.toNat = 92 then [92, c] else if 32 ≤ c.toNat ∧ c.toNat ≤ 126 then [c] else [92, 120, hx (c.toNat / 16), hx (c.toNat % 16)]
theorem part_ne (c : UInt8) : 1 ≤ (part c).length ∧ (part c).length ≤ 4 := by
  unfold part
  split
  · exact ⟨by simp, by simp⟩
  · split
    · exact ⟨by simp, by simp⟩
    · exact ⟨by simp, by simp⟩
/-- The byte at a place of what is left; 0, if there is none. -/
def nth (r : List UInt8) (k : Nat) : UInt8 := r[k]?.getD 0
/-- The byte that two digits tell; some byte, if they are none. -/
def numI (a b : UInt8) : Int := Lib.indexByte (txt hexT) a * 16 + Lib.indexByte (txt hexT) b
def numB (a b : UInt8) : UInt8 := UInt8.ofNat (numI a b % 256).toNat
theorem numB_hx (c : UInt8) : numB (hx (c.toNat / 16)) (hx (c.toNat % 16)) = c := by
  have hc : c.toNat < 256 := c.toNat_lt
  have e : numI (hx (c.toNat / 16)) (hx (c.toNat % 16)) = (c.toNat : Int) := by
    unfold numI
    rw [hx_index _ (by omega), hx_index _ (by omega)]
    omega
  unfold numB
  rw [e, show ((c.toNat : Int) % 256).toNat = c.toNat by omega]
  exact UInt8.ofNat_toNat
/-- The one byte that may be told here. -/
def val (r : List UInt8) : UInt8 :=
  if nth r 0 = 92 then (if nth r 1 = 120 then numB (nth r 2) (nth r 3) else nth r 1) else nth r 0
theorem val_part {c : UInt8} {r : List UInt8} (h : part c <+: r) : val r = c := by
  obtain ⟨t, rfl⟩ := h
  unfold part
  split
  · rename_i h1
    show (if (92 : UInt8) = 92 then (if c = 120 then _ else c) else _) = c
    rw [if_pos rfl, if_neg]
    rintro rfl
    rcases h1 with h1 | h1 <;> exact absurd h1 (by decide)
  · rename_i h1
    split
    · show (if c = 92 then _ else c) = c
      rw [if_neg]
      rintro rfl
      exact h1 (.inr (by decide))
    · show (if (92 : UInt8) = 92 then (if (120 : UInt8) = 120 then numB (hx (c.toNat / 16)) (hx (c.toNat % 16)) else _) else _) = c
      rw [if_pos rfl, if_pos rfl, numB_hx]
theorem part_inj {a b : UInt8} {r : List UInt8} (ha : part a <+: r) (hb : part b <+: r) : a = b := (val_part ha).symm.trans (val_part hb)
theorem part_head {c : UInt8} {r : List UInt8} (h : part c <+: r) : nth r 0 ≠ 34 := by
  obtain ⟨t, rfl⟩ := h
  unfold part
  split
  · show (92 : UInt8) ≠ 34
    decide
  · rename_i h1
    split
    · show c ≠ 34
      rintro rfl
      exact h1 (.inl (by decide))
    · show (92 : UInt8) ≠ 34
      decide
/-- The byte that is told here, if it is one of three. -/
theorem part_three {c : UInt8} {r : List UInt8} (h : part c <+: r) : c = nth r 0 ∨ c = nth r 1 ∨ c = numB (nth r 2) (nth r 3) := by
  have e := val_part h
  unfold val at e
  split at e
  · split at e
    · exact .inr (.inr e.symm)
    · exact .inr (.inl e.symm)
  · exact .inl e.symm
theorem part_nil {c : UInt8} : ¬ part c <+: [] := fun h => by
  have h1 := h.length_le
  have h2 := (part_ne c).1
  rw [List.length_nil] at h1
  omega

/-- The text that is told from here on to a quote mark, and how many bytes tell it, with the quote mark. -/
def qread (r : List UInt8) : Option (List UInt8 × Nat) :=
  if nth r 0 = 34 then some ([], 1)
  else if _h : part (val r) <+: r then (qread (r.drop (part (val r)).length)).map fun p => (val r :: p.1, p.2 + (part (val r)).length) else none
termination_by r.length
decreasing_by
  have h1 := _h.length_le
  have h2 := (part_ne (val r)).1
  rw [List.length_drop]
  omega
theorem qread_mark {r : List UInt8} (h : nth r 0 = 34) : qread r = some ([], 1) := by rw [qread, if_pos h]
theorem qread_step {r : List UInt8} {c : UInt8} (h : part c <+: r) : qread r = (qread (r.drop (part c).length)).map fun p => (c :: p.1, p.2 + (part c).length) := by
  have e := val_part h
  rw [qread, if_neg (part_head h), dif_pos (by rw [e]; exact h), e]
theorem qread_none {r : List UInt8} (h : nth r 0 ≠ 34) (h' : ∀ c, ¬ part c <+: r) : qread r = none := by
  rw [qread, if_neg h, dif_neg (h' _)]
/-- What is told of it, with what was told ahead. -/
def fin (out : List UInt8) (i : Nat) : Option (List UInt8 × Nat) → List UInt8 × Nat × Bool
  | some p => (out ++ p.1, i + p.2, true)
  | none => ([], 0, false)
theorem fin_step (out : List UInt8) (i k : Nat) (c : UInt8) (o : Option (List UInt8 × Nat)) : fin out i (o.map fun p => (c :: p.1, p.2 + k)) = fin (out ++ [c]) (i + k) o := by
  cases o with
  | none => rfl
  | some p =>
    show (out ++ c :: p.1, i + (p.2 + k), true) = (out ++ [c] ++ p.1, i + k + p.2, true)
    rw [List.append_assoc, show i + (p.2 + k) = i + k + p.2 by omega]
    rfl
/-- What Read tells. -/
def readV (l : List UInt8) (at_ : Int) : List UInt8 × Nat × Bool :=
  if 0 ≤ at_ ∧ at_ < l.length ∧ nth l at_.toNat = 34 then fin [] (at_.toNat + 1) (qread (l.drop (at_.toNat + 1))) else ([], 0, false)
/-- What Whole tells. -/
def wholeV (l : List UInt8) : List UInt8 × Bool := if (readV l 0).2.2 = true ∧ (readV l 0).2.1 = l.length then ((readV l 0).1, true) else ([], false)
/-- The text in quotes. -/
def textL (l : List UInt8) : List UInt8 := 34 :: (l.flatMap part ++ [34])

theorem told (rest : List UInt8) : ∀ l : List UInt8, qread (l.flatMap part ++ 34 :: rest) = some (l, (l.flatMap part).length + 1)
  | [] => qread_mark rfl
  | c :: l => by
    have h : part c <+: (c :: l).flatMap part ++ 34 :: rest := ⟨l.flatMap part ++ 34 :: rest, by rw [List.flatMap_cons, List.append_assoc]⟩
    rw [qread_step h, List.flatMap_cons, List.append_assoc, List.drop_left, told rest l, List.length_append]
    show some (c :: l, _) = _
    rw [show (l.flatMap part).length + 1 + (part c).length = (part c).length + (l.flatMap part).length + 1 by omega]
theorem back_aux : ∀ (n : Nat) (r : List UInt8), r.length ≤ n → ∀ l m, qread r = some (l, m) → 1 ≤ m ∧ m ≤ r.length ∧ r.take m = l.flatMap part ++ [34] := by
  intro n
  induction n with
  | zero =>
    intro r hr l m h
    obtain rfl : r = [] := List.eq_nil_of_length_eq_zero (by omega)
    rw [qread_none (by decide) (fun c => part_nil)] at h
    cases h
  | succ n ih =>
    intro r hr l m h
    by_cases h0 : nth r 0 = 34
    · rw [qread_mark h0] at h
      injection h with h
      injection h with e1 e2
      subst e1 e2
      cases r with
      | nil => exact absurd h0 (by decide)
      | cons a r =>
        have ha : a = 34 := h0
        subst ha
        exact ⟨Nat.le_refl _, by simp, rfl⟩
    · by_cases hp : part (val r) <+: r
      · rw [qread_step hp] at h
        have h1 := (part_ne (val r)).1
        have h2 := hp.length_le
        cases hq : qread (r.drop (part (val r)).length) with
        | none => rw [hq] at h; cases h
        | some p =>
          obtain ⟨l', m'⟩ := p
          rw [hq] at h
          injection h with h
          injection h with e1 e2
          dsimp only at e1 e2
          subst e1 e2
          obtain ⟨i1, i2, i3⟩ := ih _ (by rw [List.length_drop]; omega) _ _ hq
          rw [List.length_drop] at i2
          refine ⟨by omega, by omega, ?_⟩
          obtain ⟨t, ht⟩ := hp
          obtain ⟨c, hc⟩ : ∃ c, val r = c := ⟨_, rfl⟩
          rw [hc] at ht i3 ⊢
          clear hc
          subst ht
          rw [List.drop_left] at i3
          rw [Nat.add_comm, List.take_length_add_append, i3, List.flatMap_cons, List.append_assoc]
      · rw [qread, if_neg h0, dif_neg hp] at h
        cases h
theorem back {r l : List UInt8} {m : Nat} (h : qread r = some (l, m)) : 1 ≤ m ∧ m ≤ r.length ∧ r.take m = l.flatMap part ++ [34] := back_aux _ r (Nat.le_refl _) l m h
theorem textL_length (l : List UInt8) : l.length + 2 ≤ (textL l).length ∧ (textL l).length ≤ 4 * l.length + 2 := by
  unfold textL
  rw [List.length_cons, List.length_append, List.length_singleton]
  have h : ∀ l : List UInt8, l.length ≤ (l.flatMap part).length ∧ (l.flatMap part).length ≤ 4 * l.length := by
    intro l
    induction l with
    | nil => exact ⟨Nat.le_refl _, Nat.le_refl _⟩
    | cons c l ih =>
      have := part_ne c
      rw [List.flatMap_cons, List.length_append, List.length_cons]
      omega
  have := h l
  omega
theorem nth_append {a b : List UInt8} (k : Nat) : nth (a ++ b) (a.length + k) = nth b k := by
  unfold nth
  rw [List.getElem?_append_right (by omega), show a.length + k - a.length = k by omega]
/-- What is told is read, whatever stands around it. -/
theorem read_told (a b l : List UInt8) : readV (a ++ textL l ++ b) a.length = (l, a.length + (textL l).length, true) := by
  have hL := textL_length l
  unfold readV
  rw [if_pos]
  · rw [Int.toNat_natCast, List.append_assoc, ← List.drop_drop, List.drop_left]
    show fin [] (a.length + 1) (qread ((34 :: (l.flatMap part ++ [34]) ++ b).drop 1)) = _
    rw [List.cons_append, List.drop_one, List.tail_cons, List.append_assoc]
    show fin [] (a.length + 1) (qread (l.flatMap part ++ 34 :: b)) = _
    rw [told]
    show (l, a.length + 1 + ((l.flatMap part).length + 1), true) = _
    unfold textL
    rw [List.length_cons, List.length_append, List.length_singleton, show a.length + 1 + ((l.flatMap part).length + 1) = a.length + ((l.flatMap part).length + 1 + 1) by omega]
  · refine ⟨by omega, ?_, ?_⟩
    · rw [List.length_append, List.length_append]
      omega
    · rw [Int.toNat_natCast, List.append_assoc]
      exact nth_append (b := textL l ++ b) 0
theorem read_told0 (l : List UInt8) : readV (textL l) 0 = (l, (textL l).length, true) := by
  have h := read_told [] [] l
  rw [List.nil_append, List.append_nil] at h
  rw [show (0 : Int) = (([] : List UInt8).length : Int) from rfl, h, List.length_nil, Nat.zero_add]
theorem whole_told (l : List UInt8) : wholeV (textL l) = (l, true) := by
  unfold wholeV
  rw [read_told0]
  exact if_pos ⟨rfl, rfl⟩
/-- What is read is told so. -/
theorem told_read {l t : List UInt8} {m : Nat} (h : readV l 0 = (t, m, true)) : 2 ≤ m ∧ m ≤ l.length ∧ textL t = l.take m := by
  unfold readV at h
  split at h
  · rename_i h0
    obtain ⟨-, h1, h2⟩ := h0
    cases hq : qread (l.drop 1) with
    | none =>
      rw [show (0 : Int).toNat + 1 = 1 from rfl, hq] at h
      injection h with _ h
      injection h with _ h
      cases h
    | some p =>
      obtain ⟨l', m'⟩ := p
      rw [show (0 : Int).toNat + 1 = 1 from rfl, hq] at h
      injection h with e1 h
      injection h with e2 _
      dsimp only [List.nil_append] at e1 e2
      subst e1 e2
      obtain ⟨i1, i2, i3⟩ := back hq
      cases l with
      | nil => exact absurd h1 (by decide)
      | cons a l =>
        have ha : a = 34 := h2
        subst ha
        rw [List.drop_one, List.tail_cons] at i2 i3
        refine ⟨by omega, by rw [List.length_cons]; omega, ?_⟩
        rw [Nat.add_comm 1 m', List.take_succ_cons, i3]
        rfl
  · injection h with _ h
    injection h with _ h
    cases h
theorem read_none {l t : List UInt8} {at_ : Int} {m : Nat} (h : readV l at_ = (t, m, false)) : t = [] ∧ m = 0 := by
  unfold readV at h
  split at h
  · cases hq : qread (l.drop (at_.toNat + 1)) with
    | none =>
      rw [hq] at h
      injection h with e1 h
      injection h with e2 _
      exact ⟨e1.symm, e2.symm⟩
    | some p =>
      rw [hq] at h
      injection h with _ h
      injection h with _ h
      cases h
  · injection h with e1 h
    injection h with e2 _
    exact ⟨e1.symm, e2.symm⟩
theorem read_most {l t : List UInt8} {at_ : Int} {m : Nat} {k : Bool} (h : readV l at_ = (t, m, k)) : m ≤ l.length := by
  unfold readV at h
  split at h
  · rename_i h0
    obtain ⟨h1, h2, _⟩ := h0
    cases hq : qread (l.drop (at_.toNat + 1)) with
    | none =>
      rw [hq] at h
      injection h with _ h
      injection h with e2 _
      subst e2
      omega
    | some p =>
      obtain ⟨l', m'⟩ := p
      rw [hq] at h
      injection h with _ h
      injection h with e2 _
      have := (back hq).2.1
      rw [List.length_drop] at this
      dsimp only at e2
      omega
  · injection h with _ h
    injection h with e2 _
    omega
end Go.Proofs.Ytggiebpjmihpiaa
