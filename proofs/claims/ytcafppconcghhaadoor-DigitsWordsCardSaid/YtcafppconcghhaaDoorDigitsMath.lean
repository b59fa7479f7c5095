/- Layer 11 (digits): plain mathematics: digits to the base 10 and 16 and the number that they come to, the number whose text a text is, words of a text, texts joined. -/
import Derived.Test.YtcafppconcghhaaDoorBaseText
import Derived.Lib.ItoaNum
namespace Go.Proofs.YtcafppconcghhaaDoor
open Go.Lib (decDigits itoa)

/-! ### digits and their number -/
/-- What a byte stands for to the base 16. -/
def dig (b : UInt8) : Option Nat :=
  if 48 ≤ b.toNat ∧ b.toNat ≤ 57 then some (b.toNat - 48) else if 97 ≤ b.toNat ∧ b.toNat ≤ 102 then some (b.toNat - 87) else none
theorem dig_lt {b : UInt8} {d : Nat} (h : dig b = some d) : d < 16 := by
  unfold dig at h
  split at h
  · injection h; omega
  · split at h
    · injection h; omega
    · cases h
/-- The number of digits, behind n; none, where there are others than the base's, or it is above the most. -/
def valL (base most : Nat) : Nat → List UInt8 → Option Nat
  | n, [] => some n
  | n, b :: r => match dig b with
    | some d => if d < base ∧ n * base + d ≤ most then valL base most (n * base + d) r else none
    | none => none
theorem valL_step (base most n : Nat) (b : UInt8) (r : List UInt8) : valL base most n (b :: r) = match dig b with
    | some d => if d < base ∧ n * base + d ≤ most then valL base most (n * base + d) r else none
    | none => none := rfl
theorem valL_cons {base most n d : Nat} {b : UInt8} {r : List UInt8} (h : dig b = some d) (h1 : d < base) (h2 : n * base + d ≤ most) : valL base most n (b :: r) = valL base most (n * base + d) r := by
  rw [valL_step, h]
  exact if_pos (And.intro h1 h2)
theorem valL_none {base most n : Nat} {b : UInt8} {r : List UInt8} (h : dig b = none) : valL base most n (b :: r) = none := by rw [valL_step, h]
theorem valL_over {base most n d : Nat} {b : UInt8} {r : List UInt8} (h : dig b = some d) (h1 : ¬ (d < base ∧ n * base + d ≤ most)) : valL base most n (b :: r) = none := by
  rw [valL_step, h]
  exact if_neg h1
theorem valL_append (base most : Nat) : ∀ (l r : List UInt8) (n : Nat), valL base most n (l ++ r) = (valL base most n l).bind fun m => valL base most m r
  | [], r, n => rfl
  | b :: l, r, n => by
    rw [List.cons_append]
    cases hd : dig b with
    | none => rw [valL_none hd, valL_none hd]; rfl
    | some d =>
      by_cases h : d < base ∧ n * base + d ≤ most
      · rw [valL_cons hd h.1 h.2, valL_cons hd h.1 h.2]
        exact valL_append base most l r _
      · rw [valL_over hd h, valL_over hd h]; rfl
/-- The number of digits, one at least, and true; else 0 and false. -/
def valE (base most : Nat) (l : List UInt8) : Nat × Bool := match valL base most 0 l with
  | some n => (n, decide (l ≠ []))
  | none => (0, false)

/-! ### the decimal digits -/
theorem byte_of {b : UInt8} {k : Nat} (h : b.toNat = k) : b = UInt8.ofNat k := by
  rw [← h]
  exact (UInt8.ofNat_toNat (x := b)).symm
theorem dig_dec {k : Nat} (h : k < 10) : dig (UInt8.ofNat (48 + k)) = some k := by
  have e : (UInt8.ofNat (48 + k)).toNat = 48 + k := by rw [UInt8.toNat_ofNat']; omega
  unfold dig
  rw [e, if_pos (by omega)]
  congr 1
  omega
theorem dec_small {u : Nat} (h : u < 10) : decDigits u = [UInt8.ofNat (48 + u)] := by rw [decDigits, dif_pos h]
theorem dec_big {u : Nat} (h : ¬ u < 10) : decDigits u = decDigits (u / 10) ++ [UInt8.ofNat (48 + u % 10)] := by rw [decDigits, dif_neg h]
theorem dec_head : ∀ (u : Nat), ∃ k r, decDigits u = UInt8.ofNat (48 + k) :: r ∧ k < 10 ∧ (1 ≤ u → 1 ≤ k) := by
  intro u
  induction u using Nat.strongRecOn with
  | _ u ih =>
    by_cases h : u < 10
    · exact ⟨u, [], dec_small h, h, fun h => h⟩
    · obtain ⟨k, r, h1, h2, h3⟩ := ih (u / 10) (by omega)
      exact ⟨k, r ++ [UInt8.ofNat (48 + u % 10)], by rw [dec_big h, h1]; rfl, h2, fun _ => h3 (by omega)⟩
theorem dec_val {most : Nat} : ∀ (u : Nat), u ≤ most → valL 10 most 0 (decDigits u) = some u := by
  intro u
  induction u using Nat.strongRecOn with
  | _ u ih =>
    intro hu
    by_cases h : u < 10
    · rw [dec_small h, valL_cons (dig_dec h) h (by omega)]
      show some (0 * 10 + u) = _
      congr 1
      omega
    · rw [dec_big h, valL_append, ih (u / 10) (by omega) (by omega)]
      show valL 10 most (u / 10) _ = _
      rw [valL_cons (dig_dec (by omega)) (by omega) (by omega)]
      show some (u / 10 * 10 + u % 10) = _
      congr 1
      omega
theorem dig_ten {b : UInt8} {d : Nat} (h : dig b = some d) (h1 : d < 10) : b = UInt8.ofNat (48 + d) := by
  apply byte_of
  unfold dig at h
  split at h
  · injection h; omega
  · split at h
    · injection h; omega
    · cases h
theorem val_dec {most : Nat} : ∀ (l : List UInt8) (n v : Nat), 1 ≤ n → valL 10 most n l = some v → decDigits v = decDigits n ++ l
  | [], n, v, _, h => by
    injection h with h
    subst h
    simp
  | b :: r, n, v, hn, h => by
    cases hd : dig b with
    | none => rw [valL_none hd] at h; cases h
    | some d =>
      by_cases h1 : d < 10 ∧ n * 10 + d ≤ most
      · rw [valL_cons hd h1.1 h1.2] at h
        rw [val_dec r _ v (by omega) h, dec_big (u := n * 10 + d) (by omega), show (n * 10 + d) / 10 = n by omega, show (n * 10 + d) % 10 = d by omega, dig_ten hd h1.1, List.append_assoc]
        rfl
      · rw [valL_over hd h1] at h; cases h
theorem dec_length : ∀ (k u : Nat), 1 ≤ k → u < 10 ^ k → (decDigits u).length ≤ k
  | 0, _, h, _ => absurd h (by omega)
  | k + 1, u, _, h => by
    by_cases h1 : u < 10
    · rw [dec_small h1]; simp
    · rw [dec_big h1, List.length_append, List.length_singleton]
      have h2 : u / 10 < 10 ^ k := by
        rw [Nat.pow_succ] at h
        omega
      by_cases hk : 1 ≤ k
      · have := dec_length k (u / 10) hk h2
        omega
      · obtain rfl : k = 0 := by omega
        rw [Nat.pow_zero] at h2
        omega

/-! ### the number whose text a text is -/
/-- The number whose text this is, and true; 0 and false, if it is none of an int's. -/
def readV (l : List UInt8) : Int × Bool := match l with
  | 45 :: d => if d.head? = some 48 then (0, false) else match valL 10 9223372036854775808 0 d with
    | some n => (-(n : Int), decide (d ≠ []))
    | none => (0, false)
  | d => if d.head? = some 48 ∧ d ≠ [48] then (0, false) else match valL 10 9223372036854775807 0 d with
    | some n => ((n : Int), decide (d ≠ []))
    | none => (0, false)
theorem dec_ne (u : Nat) (r : List UInt8) : decDigits u ≠ 45 :: r := by
  obtain ⟨k, q, h1, h2, _⟩ := dec_head u
  rw [h1]
  intro h
  injection h with h _
  have := congrArg UInt8.toNat h
  rw [UInt8.toNat_ofNat'] at this
  have h45 : (45 : UInt8).toNat = 45 := rfl
  omega
theorem dec_zero {u : Nat} (h : (decDigits u).head? = some 48) : u = 0 := by
  obtain ⟨k, q, h1, h2, h3⟩ := dec_head u
  rw [h1] at h
  injection h with h
  have := congrArg UInt8.toNat h
  rw [UInt8.toNat_ofNat'] at this
  have h48 : (48 : UInt8).toNat = 48 := rfl
  omega
theorem dec_nil (u : Nat) : decDigits u ≠ [] := by
  obtain ⟨k, q, h1, _⟩ := dec_head u
  rw [h1]
  exact List.cons_ne_nil _ _
theorem readV_pos {d : List UInt8} (h : ∀ r, d ≠ 45 :: r) : readV d = if d.head? = some 48 ∧ d ≠ [48] then (0, false) else match valL 10 9223372036854775807 0 d with
    | some n => ((n : Int), decide (d ≠ []))
    | none => (0, false) := by
  unfold readV
  split
  · rename_i r
    exact absurd rfl (h r)
  · rfl
/-- Of what is told the number is read. -/
theorem readV_itoa {n : Int} (h0 : -9223372036854775808 ≤ n) (h1 : n ≤ 9223372036854775807) : readV (itoa n) = (n, true) := by
  unfold itoa
  split
  · rename_i hn
    show (if _ then _ else _) = _
    rw [if_neg fun h => by have := dec_zero h; omega, dec_val n.natAbs (by omega)]
    show (-(n.natAbs : Int), decide (decDigits n.natAbs ≠ [])) = _
    rw [decide_eq_true (dec_nil _), show -(n.natAbs : Int) = n by omega]
  · rename_i hn
    rw [readV_pos fun r => dec_ne _ r, if_neg, dec_val n.toNat (by omega)]
    · show ((n.toNat : Int), decide (decDigits n.toNat ≠ [])) = _
      rw [decide_eq_true (dec_nil _), show (n.toNat : Int) = n by omega]
    · rintro ⟨ha, hb⟩
      rw [dec_zero ha] at hb
      exact hb (dec_small (by omega))
theorem val_first {most v : Nat} {d : List UInt8} (h0 : d.head? ≠ some 48) (hd : d ≠ []) (h : valL 10 most 0 d = some v) : decDigits v = d ∧ 1 ≤ v := by
  cases d with
  | nil => exact absurd rfl hd
  | cons b r =>
    cases hb : dig b with
    | none => rw [valL_none hb] at h; cases h
    | some k =>
      by_cases h1 : k < 10 ∧ 0 * 10 + k ≤ most
      · rw [valL_cons hb h1.1 h1.2] at h
        have hk : 1 ≤ k := by
          rcases Nat.eq_zero_or_pos k with e | e
          · subst e
            rw [dig_ten hb (by omega)] at h0
            exact absurd rfl h0
          · exact e
        have e := val_dec r (0 * 10 + k) v (by omega) h
        rw [show 0 * 10 + k = k by omega, dec_small h1.1, ← dig_ten hb h1.1] at e
        refine ⟨e, ?_⟩
        rcases Nat.eq_zero_or_pos v with e0 | e0
        · subst e0
          rw [dec_small (by omega)] at e
          injection e with e _
          rw [dig_ten hb h1.1] at e
          have := congrArg UInt8.toNat e
          rw [UInt8.toNat_ofNat', UInt8.toNat_ofNat'] at this
          omega
        · exact e0
      · rw [valL_over hb h1] at h; cases h
theorem valL_le {base most : Nat} : ∀ {l : List UInt8} {n v : Nat}, n ≤ most → valL base most n l = some v → v ≤ most
  | [], n, v, hn, h => by injection h with h; omega
  | b :: r, n, v, hn, h => by
    cases hb : dig b with
    | none => rw [valL_none hb] at h; cases h
    | some k =>
      by_cases h1 : k < base ∧ n * base + k ≤ most
      · rw [valL_cons hb h1.1 h1.2] at h
        exact valL_le h1.2 h
      · rw [valL_over hb h1] at h; cases h
/-- What is read is told so; else 0 is told. -/
theorem readV_told (l : List UInt8) : ((readV l).2 = true ∧ -9223372036854775808 ≤ (readV l).1 ∧ (readV l).1 ≤ 9223372036854775807 ∧ itoa (readV l).1 = l) ∨ readV l = (0, false) := by
  unfold readV
  split
  · rename_i d
    split
    · exact .inr rfl
    · rename_i h0
      split
      · rename_i n hv
        by_cases hd : d = []
        · subst hd
          injection hv with hv
          subst hv
          exact .inr rfl
        · obtain ⟨e, h1⟩ := val_first h0 hd hv
          have h2 := valL_le (by omega) hv
          refine .inl ⟨decide_eq_true hd, ?_, ?_, ?_⟩
          · show -9223372036854775808 ≤ -(n : Int); omega
          · show -(n : Int) ≤ _; omega
          · show itoa (-(n : Int)) = _
            unfold itoa
            rw [if_pos (by omega), show (-(n : Int)).natAbs = n by omega, e]
      · exact .inr rfl
  · rename_i hl
    split
    · exact .inr rfl
    · rename_i h0
      split
      · rename_i n hv
        have h2 := valL_le (by omega) hv
        by_cases hd : l = []
        · subst hd
          injection hv with hv
          subst hv
          exact .inr rfl
        · have e : decDigits n = l := by
            by_cases hz : l = [48]
            · subst hz
              have : valL 10 9223372036854775807 0 [48] = some 0 := rfl
              rw [this] at hv
              injection hv with hv
              subst hv
              exact dec_small (by omega)
            · exact (val_first (fun h => h0 ⟨h, hz⟩) hd hv).1
          refine .inl ⟨decide_eq_true hd, ?_, ?_, ?_⟩
          · show -9223372036854775808 ≤ (n : Int); omega
          · show (n : Int) ≤ _; omega
          · show itoa (n : Int) = _
            unfold itoa
            rw [if_neg (by omega), show (n : Int).toNat = n by omega, e]
      · exact .inr rfl
theorem itoa_length {n : Int} (h0 : -9223372036854775808 ≤ n) (h1 : n ≤ 9223372036854775807) : 1 ≤ (itoa n).length ∧ (itoa n).length ≤ 20 := by
  have hd : ∀ u, u ≤ 9223372036854775808 → 1 ≤ (decDigits u).length ∧ (decDigits u).length ≤ 19 := fun u hu => by
    refine ⟨?_, dec_length 19 u (by omega) (by omega)⟩
    obtain ⟨k, q, h1, _⟩ := dec_head u
    rw [h1]
    simp
  unfold itoa
  split
  · have := hd n.natAbs (by omega)
    rw [List.length_cons]
    omega
  · have := hd n.toNat (by omega)
    omega
/-- A text longer or shorter than those of ints is no int's. -/
theorem readV_long {l : List UInt8} (h : ¬ (1 ≤ l.length ∧ l.length ≤ 20)) : readV l = (0, false) := by
  rcases readV_told l with ⟨_, h1, h2, h3⟩ | h1
  · have := itoa_length h1 h2
    rw [h3] at this
    exact absurd this h
  · exact h1
theorem readV_eq {l : List UInt8} {n : Int} (h0 : -9223372036854775808 ≤ n) (h1 : n ≤ 9223372036854775807) (h : itoa n = l) : readV l = (n, true) := by rw [← h, readV_itoa h0 h1]

/-! ### as the document reads: what the digits come to, whatever int that is -/
def refL (below : Bool) : Int → List UInt8 → Option Int
  | n, [] => some n
  | n, b :: r => if 48 ≤ b.toNat ∧ b.toNat ≤ 57 then refL below (IntKind.i64.wrap (IntKind.i64.wrap (10 * n) + if below = true then -((b.toNat : Int) - 48) else (b.toNat : Int) - 48)) r else none
theorem refL_step (s : Bool) (n : Int) (b : UInt8) (r : List UInt8) : refL s n (b :: r) = if 48 ≤ b.toNat ∧ b.toNat ≤ 57 then refL s (IntKind.i64.wrap (IntKind.i64.wrap (10 * n) + if s = true then -((b.toNat : Int) - 48) else (b.toNat : Int) - 48)) r else none := rfl
theorem refL_append (s : Bool) : ∀ (l r : List UInt8) (n : Int), refL s n (l ++ r) = (refL s n l).bind fun m => refL s m r
  | [], r, n => rfl
  | b :: l, r, n => by
    rw [List.cons_append, refL_step, refL_step s n b l]
    by_cases h : 48 ≤ b.toNat ∧ b.toNat ≤ 57
    · rw [if_pos h, if_pos h]
      exact refL_append s l r _
    · rw [if_neg h, if_neg h]; rfl
theorem refL_digit {s : Bool} {n : Int} {k : Nat} {r : List UInt8} (h : k < 10) : refL s n (UInt8.ofNat (48 + k) :: r) = refL s (IntKind.i64.wrap (IntKind.i64.wrap (10 * n) + if s = true then -(k : Int) else (k : Int))) r := by
  have e : (UInt8.ofNat (48 + k)).toNat = 48 + k := by rw [UInt8.toNat_ofNat']; omega
  show (if _ then _ else _) = _
  rw [e, if_pos (by omega), show (((48 + k : Nat) : Int) - 48) = (k : Int) by omega]
theorem refL_dec {s : Bool} : ∀ (u : Nat), u ≤ (if s = true then 9223372036854775808 else 9223372036854775807) → refL s 0 (decDigits u) = some (if s = true then -(u : Int) else (u : Int)) := by
  intro u
  induction u using Nat.strongRecOn with
  | _ u ih =>
    intro hu
    by_cases h : u < 10
    · rw [dec_small h, refL_digit h]
      show some _ = _
      congr 1
      rw [IntKind.wrap_i64, IntKind.wrap_i64]
      cases s <;> simp <;> omega
    · rw [dec_big h, refL_append, ih (u / 10) (by omega) (by revert hu; cases s <;> simp <;> omega)]
      show refL s _ _ = _
      rw [refL_digit (by omega)]
      show some _ = _
      congr 1
      rw [IntKind.wrap_i64, IntKind.wrap_i64]
      revert hu
      cases s <;> simp <;> omega
/-- What the document's sum comes to, behind a - or not. -/
def refSum (l : List UInt8) : Option Int := match l with
  | 45 :: d => refL true 0 d
  | d => refL false 0 d
theorem refSum_itoa {n : Int} (h0 : -9223372036854775808 ≤ n) (h1 : n ≤ 9223372036854775807) : refSum (itoa n) = some n := by
  unfold itoa
  split
  · rename_i hn
    show refL true 0 (decDigits n.natAbs) = _
    rw [refL_dec _ (by simp; omega)]
    simp
    omega
  · rename_i hn
    have : refSum (decDigits n.toNat) = refL false 0 (decDigits n.toNat) := by
      unfold refSum
      split
      · rename_i r heq
        exact absurd heq (dec_ne _ _)
      · rfl
    rw [this, refL_dec _ (by simp; omega)]
    simp
    omega
theorem refL_int {s : Bool} : ∀ {l : List UInt8} {n v : Int}, -9223372036854775808 ≤ n → n ≤ 9223372036854775807 → refL s n l = some v → -9223372036854775808 ≤ v ∧ v ≤ 9223372036854775807
  | [], n, v, h0, h1, h => by injection h with h; omega
  | b :: r, n, v, h0, h1, h => by
    unfold refL at h
    split at h
    · have hw : ∀ x : Int, -9223372036854775808 ≤ IntKind.i64.wrap x ∧ IntKind.i64.wrap x ≤ 9223372036854775807 := fun x => by rw [IntKind.wrap_i64]; omega
      exact refL_int (hw _).1 (hw _).2 h
    · cases h
theorem refSum_int {l : List UInt8} {v : Int} (h : refSum l = some v) : -9223372036854775808 ≤ v ∧ v ≤ 9223372036854775807 := by
  unfold refSum at h
  split at h
  · exact refL_int (by omega) (by omega) h
  · exact refL_int (by omega) (by omega) h
/-- The document's answer is the same. -/
theorem ref_read (l : List UInt8) : readV l = match refSum l with
    | some v => if itoa v = l then (v, true) else (0, false)
    | none => (0, false) := by
  rcases readV_told l with ⟨h0, h1, h2, h3⟩ | h
  · have e := refSum_itoa h1 h2
    rw [h3] at e
    rw [e]
    show _ = if _ then _ else _
    rw [if_pos h3, ← h0]
  · rw [h]
    split
    · rename_i v hv
      split
      · rename_i he
        obtain ⟨h1, h2⟩ := refSum_int hv
        rw [readV_eq h1 h2 he] at h
        injection h with _ h
        cases h
      · rfl
    · rfl

/-! ### as the document tells: digit by digit, of the lowest end on -/
/-- No digits for 0. -/
def decN (u : Nat) : List UInt8 := if u = 0 then [] else decDigits u
theorem decN_step {u : Nat} (h : u ≠ 0) : decN u = decN (u / 10) ++ [UInt8.ofNat (48 + u % 10)] := by
  unfold decN
  rw [if_neg h]
  by_cases h1 : u < 10
  · rw [if_pos (by omega), dec_small h1, show u % 10 = u by omega]
    rfl
  · rw [if_neg (by omega), dec_big h1]
theorem itoa_of (n : Int) : itoa n = (if n < 0 then [45] else []) ++ (if decN n.natAbs = [] then [48] else decN n.natAbs) := by
  have hd : decDigits n.natAbs = if decN n.natAbs = [] then [48] else decN n.natAbs := by
    unfold decN
    by_cases h : n.natAbs = 0
    · rw [if_pos h, if_pos rfl, h]
      exact dec_small (by omega)
    · rw [if_neg h, if_neg (dec_nil _)]
  rw [← hd]
  unfold itoa
  split
  · rfl
  · rw [show n.toNat = n.natAbs by omega]
    rfl
end Go.Proofs.YtcafppconcghhaaDoor
