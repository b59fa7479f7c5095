/- Plain mathematics of layer 2 (bits): a set of numbers as a function, its words of 64 bits, the least number above another one, runs, counts. Nothing of the program. -/
import Derived.Lib.TrailingZeros
import Derived.Lib.ItoaNum
import Derived.Laws.BitsAllLaws
namespace Go.Proofs.YtgooajgoofojmaaDoor
/-! ### the word whose j-th bit is f j, of n bits -/
def wsum (f : Nat → Bool) : Nat → Nat
  | 0 => 0
  | j + 1 => wsum f j ||| (if f j then 2 ^ j else 0)
theorem testBit_wsum (f : Nat → Bool) (n j : Nat) : (wsum f n).testBit j = (decide (j < n) && f j) := by
  induction n with
  | zero => simp [wsum]
  | succ n ih =>
    simp only [wsum, Nat.testBit_or, ih]
    by_cases hj : j = n
    · subst hj; by_cases hf : f j = true <;> simp [hf]
    · have e : (j < n + 1) ↔ (j < n) := by omega
      by_cases hf : f n = true <;> simp [hf, e, Ne.symm hj]
theorem wsum_lt (f : Nat → Bool) (n : Nat) : wsum f n < 2 ^ n := by
  induction n with
  | zero => simp [wsum]
  | succ n ih =>
    refine Nat.or_lt_two_pow (by rw [Nat.pow_succ]; omega) ?_
    split
    · rw [Nat.pow_succ]; have := Nat.two_pow_pos n; omega
    · exact Nat.two_pow_pos _
theorem or64 {a b : Nat} (ha : a < 18446744073709551616) (hb : b < 18446744073709551616) : a ||| b < 18446744073709551616 := Nat.or_lt_two_pow (n := 64) ha hb
theorem and64 {a b : Nat} (hb : b < 18446744073709551616) : a &&& b < 18446744073709551616 := Nat.and_lt_two_pow (n := 64) a hb
theorem xor64 {a b : Nat} (ha : a < 18446744073709551616) (hb : b < 18446744073709551616) : a ^^^ b < 18446744073709551616 := Nat.xor_lt_two_pow (n := 64) ha hb
theorem testBit_big {a j : Nat} (h : a < 2 ^ 64) (hj : 64 ≤ j) : a.testBit j = false :=
  Nat.testBit_lt_two_pow (Nat.lt_of_lt_of_le h (Nat.pow_le_pow_right (by omega) hj))

/-- The k-th word of the set f. -/
def word (f : Nat → Bool) (k : Nat) : Nat := wsum (fun j => f (64 * k + j)) 64
theorem word_lt (f : Nat → Bool) (k : Nat) : word f k < 18446744073709551616 := wsum_lt _ 64
theorem testBit_word (f : Nat → Bool) (k j : Nat) : (word f k).testBit j = (decide (j < 64) && f (64 * k + j)) := testBit_wsum _ _ _
theorem word_ext {f : Nat → Bool} {k a : Nat} (ha : a < 18446744073709551616) (h : ∀ j, j < 64 → a.testBit j = f (64 * k + j)) : a = word f k := by
  refine Nat.eq_of_testBit_eq fun j => ?_
  rw [testBit_word]
  by_cases hj : j < 64
  · simp [hj, h j hj]
  · simp [hj, testBit_big (show a < 2 ^ 64 from ha) (Nat.le_of_not_lt hj)]
theorem word_congr {f g : Nat → Bool} {k : Nat} (h : ∀ j, j < 64 → f (64 * k + j) = g (64 * k + j)) : word f k = word g k :=
  word_ext (word_lt _ _) fun j hj => by rw [testBit_word]; simp [hj, h j hj]
theorem word_zero_iff {f : Nat → Bool} {k : Nat} : word f k = 0 ↔ ∀ j, j < 64 → f (64 * k + j) = false := by
  constructor
  · intro h j hj
    have := testBit_word f k j
    rw [h] at this
    simpa [hj] using this.symm
  · intro h
    exact (word_ext (f := f) (k := k) (a := 0) (by decide) fun j hj => by rw [h j hj]; simp).symm

/-! ### sets -/
def none_ : Nat → Bool := fun _ => false
theorem word_none (k : Nat) : word none_ k = 0 := word_zero_iff.2 fun _ _ => rfl
def upd (f : Nat → Bool) (i : Nat) (b : Bool) : Nat → Bool := fun j => if j = i then b else f j
def orF (f g : Nat → Bool) : Nat → Bool := fun i => f i || g i
def andF (f g : Nat → Bool) : Nat → Bool := fun i => f i && g i
def lessF (f g : Nat → Bool) : Nat → Bool := fun i => f i && !g i
def notF (f : Nat → Bool) : Nat → Bool := fun i => !f i
/-- f from p on. -/
def fromF (f : Nat → Bool) (p : Nat) : Nat → Bool := fun i => f i && decide (p ≤ i)

theorem word_put (f : Nat → Bool) (i : Nat) : word f (i / 64) ||| 2 ^ (i % 64) = word (upd f i true) (i / 64) := by
  refine word_ext (or64 (word_lt _ _) (Nat.pow_lt_pow_right (m := i % 64) (n := 64) (by omega) (Nat.mod_lt _ (by omega)))) fun j hj => ?_
  rw [Nat.testBit_or, testBit_word, Nat.testBit_two_pow]
  unfold upd
  by_cases e : i % 64 = j
  · rw [if_pos (by omega)]; simp [e]
  · rw [if_neg (by omega)]; simp [e, hj]
theorem word_upd_other (f : Nat → Bool) {i k : Nat} (b : Bool) (h : k ≠ i / 64) : word (upd f i b) k = word f k :=
  word_congr fun j hj => by unfold upd; rw [if_neg (by omega)]
theorem word_drop (f : Nat → Bool) (i : Nat) : word f (i / 64) &&& (18446744073709551615 - 2 ^ (i % 64)) = word (upd f i false) (i / 64) := by
  have hp : 2 ^ (i % 64) < 2 ^ 64 := Nat.pow_lt_pow_right (by omega) (Nat.mod_lt _ (by omega))
  have e : 18446744073709551615 - 2 ^ (i % 64) = 2 ^ 64 - (2 ^ (i % 64) + 1) := by omega
  rw [e]
  refine word_ext (and64 (show 2 ^ 64 - (2 ^ (i % 64) + 1) < 2 ^ 64 from Nat.sub_lt (by decide) (Nat.succ_pos _))) fun j hj => ?_
  rw [Nat.testBit_and, testBit_word, Nat.testBit_two_pow_sub_succ hp, Nat.testBit_two_pow]
  unfold upd
  by_cases e : i % 64 = j
  · rw [if_pos (by omega)]; simp [e]
  · rw [if_neg (by omega)]; simp [e, hj]
theorem word_has (f : Nat → Bool) (i : Nat) : (word f (i / 64) &&& 2 ^ (i % 64) ≠ 0) ↔ f i = true := by
  rw [nat_bit, ← Nat.toNat_testBit, testBit_word]
  have hm : i % 64 < 64 := Nat.mod_lt _ (by omega)
  have e : 64 * (i / 64) + i % 64 = i := by omega
  have hp := Nat.two_pow_pos (i % 64)
  rw [e]
  by_cases h : f i = true
  · simp [h, hm]
  · simp [h, hm]
theorem word_or (f g : Nat → Bool) (k : Nat) : word f k ||| word g k = word (orF f g) k :=
  word_ext (or64 (word_lt _ _) (word_lt _ _)) fun j hj => by simp [Nat.testBit_or, testBit_word, hj, orF]
theorem word_and (f g : Nat → Bool) (k : Nat) : word f k &&& word g k = word (andF f g) k :=
  word_ext (and64 (word_lt _ _)) fun j hj => by simp [Nat.testBit_and, testBit_word, hj, andF]
theorem word_less (f g : Nat → Bool) (k : Nat) : word f k &&& (18446744073709551615 - word g k) = word (lessF f g) k := by
  have hg := word_lt g k
  have e : 18446744073709551615 - word g k = 2 ^ 64 - (word g k + 1) := by omega
  rw [e]
  refine word_ext (and64 (show 2 ^ 64 - (word g k + 1) < 2 ^ 64 by omega)) fun j hj => ?_
  rw [Nat.testBit_and, testBit_word, Nat.testBit_two_pow_sub_succ hg, testBit_word]
  simp [hj, lessF]
theorem word_not (f : Nat → Bool) (k : Nat) : word f k ^^^ 18446744073709551615 = word (notF f) k := by
  refine word_ext (xor64 (word_lt _ _) (by decide)) fun j hj => ?_
  rw [Nat.testBit_xor, testBit_word, show (18446744073709551615 : Nat) = 2 ^ 64 - 1 from rfl, Nat.testBit_two_pow_sub_one]
  simp [hj, notF]
theorem word_xor0 (f : Nat → Bool) (k : Nat) : word f k ^^^ 0 = word f k := Nat.xor_zero _
/-- Bits below p are shifted out, and back. -/
theorem word_skip (f : Nat → Bool) (p : Nat) : word f (p / 64) / 2 ^ (p % 64) * 2 ^ (p % 64) = word (fromF f p) (p / 64) := by
  have hw := word_lt f (p / 64)
  refine word_ext (Nat.lt_of_le_of_lt (Nat.div_mul_le_self _ _) hw) fun j hj => ?_
  rw [Nat.mul_comm, Nat.testBit_two_pow_mul, Nat.testBit_div_two_pow, testBit_word]
  unfold fromF
  by_cases h : p % 64 ≤ j
  · have e : p % 64 + (j - p % 64) = j := by omega
    have e' : j - p % 64 + p % 64 = j := by omega
    have hle : p ≤ 64 * (p / 64) + j := by omega
    simp [h, e', hle, hj]
  · have hle : ¬ p ≤ 64 * (p / 64) + j := by omega
    simp [h, hle]
theorem word_from (f : Nat → Bool) {p k : Nat} (h : p / 64 < k) : word (fromF f p) k = word f k :=
  word_congr fun j hj => by unfold fromF; rw [decide_eq_true (by omega)]; simp

/-! ### the lowest bit of a word -/
theorem ctz_spec {x : Nat} (h0 : x ≠ 0) (h : x < 18446744073709551616) : Lib.ctz 64 x < 64 ∧ x.testBit (Lib.ctz 64 x) = true ∧ ∀ j, j < Lib.ctz 64 x → x.testBit j = false := by
  have hc : Lib.ctz 64 x = Lib.ctzFrom 64 x := by unfold Lib.ctz; rw [if_neg h0]
  rw [hc]
  obtain ⟨m, hm, hlt⟩ := Lib.ctzFrom_spec 64 x (by omega) h
  generalize Lib.ctzFrom 64 x = c at hm hlt
  subst hm
  refine ⟨hlt, ?_, fun j hj => ?_⟩
  · rw [Nat.testBit_two_pow_mul]; simp
  · rw [Nat.testBit_two_pow_mul]; simp; omega
/-- x & (x - 1) drops the lowest bit. -/
theorem and_pred_testBit {x : Nat} (h0 : x ≠ 0) (h : x < 18446744073709551616) (j : Nat) : (x &&& (x - 1)).testBit j = (x.testBit j && decide (j ≠ Lib.ctz 64 x)) := by
  have hc : Lib.ctz 64 x = Lib.ctzFrom 64 x := by unfold Lib.ctz; rw [if_neg h0]
  rw [hc]
  obtain ⟨m, hm, hlt⟩ := Lib.ctzFrom_spec 64 x (by omega) h
  generalize Lib.ctzFrom 64 x = c at hm hlt
  have hp := Nat.two_pow_pos c
  have e1 : x - 1 = 2 ^ c * (2 * m) + (2 ^ c - 1) := by rw [hm, Nat.mul_add]; omega
  have e2 : x = 2 ^ c * (2 * m + 1) + 0 := by rw [hm]; rfl
  rw [Nat.testBit_and]
  rcases Nat.lt_trichotomy j c with hj | hj | hj
  · have : x.testBit j = false := by rw [hm, Nat.testBit_two_pow_mul]; simp; omega
    simp [this]
  · subst hj
    have : (x - 1).testBit j = false := by
      rw [e1, Nat.testBit_two_pow_mul_add _ (by omega)]; simp [Nat.testBit_zero]
    simp [this]
  · have : (x - 1).testBit j = x.testBit j := by
      rw [e1, Nat.testBit_two_pow_mul_add _ (by omega), e2, Nat.testBit_two_pow_mul_add _ hp]
      simp only [if_neg (show ¬ j < c by omega)]
      obtain ⟨d, hd⟩ : ∃ d, j - c = d + 1 := ⟨j - c - 1, by omega⟩
      rw [hd, Nat.testBit_succ, Nat.testBit_succ]
      congr 1; omega
    rw [this]
    have : j ≠ c := by omega
    simp [this]
/-- The first number from p on in the word that has p .. -/
theorem low_spec {f : Nat → Bool} {k : Nat} (h0 : word f k ≠ 0) : f (64 * k + Lib.ctz 64 (word f k)) = true ∧ Lib.ctz 64 (word f k) < 64 ∧ ∀ j, 64 * k ≤ j → j < 64 * k + Lib.ctz 64 (word f k) → f j = false := by
  obtain ⟨h1, h2, h3⟩ := ctz_spec h0 (word_lt f k)
  rw [testBit_word] at h2
  refine ⟨by simpa [h1] using h2, h1, fun j hj hj' => ?_⟩
  have := h3 (j - 64 * k) (by omega)
  rw [testBit_word] at this
  have e : 64 * k + (j - 64 * k) = j := by omega
  rw [e] at this
  simpa [show j - 64 * k < 64 by omega] using this
theorem word_next {f : Nat → Bool} {k : Nat} (h0 : word f k ≠ 0) : word f k &&& (word f k - 1) = word (fromF f (64 * k + Lib.ctz 64 (word f k) + 1)) k := by
  obtain ⟨h1, h2, h3⟩ := ctz_spec h0 (word_lt f k)
  refine word_ext (and64 (by have := word_lt f k; omega)) fun j hj => ?_
  rw [and_pred_testBit h0 (word_lt f k), testBit_word]
  unfold fromF
  rcases Nat.lt_trichotomy j (Lib.ctz 64 (word f k)) with h | h | h
  · have := h3 j h
    rw [testBit_word] at this
    have hz : f (64 * k + j) = false := by simpa [hj] using this
    simp [hz]
  · have e : ¬ 64 * k + Lib.ctz 64 (word f k) + 1 ≤ 64 * k + j := by omega
    simp [h]
  · have e : 64 * k + Lib.ctz 64 (word f k) + 1 ≤ 64 * k + j := by omega
    have e' : j ≠ Lib.ctz 64 (word f k) := by omega
    simp [e, e', hj]
theorem bitLen_spec {x : Nat} (h0 : x ≠ 0) (h : x < 18446744073709551616) : 1 ≤ Lib.bitLen x ∧ Lib.bitLen x ≤ 64 ∧ x.testBit (Lib.bitLen x - 1) = true ∧ ∀ j, Lib.bitLen x ≤ j → x.testBit j = false := by
  obtain ⟨h1, h2, h3⟩ := Lib.bitLenAux_bounds 64 x h h0
  change 1 ≤ Lib.bitLen x at h1
  change 2 ^ (Lib.bitLen x - 1) ≤ x at h2
  change x < 2 ^ Lib.bitLen x at h3
  refine ⟨h1, ?_, ?_, fun j hj => ?_⟩
  · rcases Nat.lt_or_ge 64 (Lib.bitLen x) with hh | hh
    · have := Nat.pow_le_pow_right (n := 2) (by omega) (show 64 ≤ Lib.bitLen x - 1 by omega); omega
    · exact hh
  · have e : x / 2 ^ (Lib.bitLen x - 1) = 1 := by
      have hq : 2 ^ Lib.bitLen x = 2 ^ (Lib.bitLen x - 1) * 2 := by rw [← Nat.pow_succ]; congr 1; omega
      rw [Nat.div_eq_iff (Nat.two_pow_pos _)]
      omega
    rw [Nat.testBit_eq_decide_div_mod_eq, e]; simp
  · exact Nat.testBit_lt_two_pow (Nat.lt_of_lt_of_le h3 (Nat.pow_le_pow_right (by omega) hj))
theorem high_spec {f : Nat → Bool} {k : Nat} (h0 : word f k ≠ 0) : 1 ≤ Lib.bitLen (word f k) ∧ Lib.bitLen (word f k) ≤ 64 ∧ f (64 * k + Lib.bitLen (word f k) - 1) = true ∧ ∀ j, 64 * k + Lib.bitLen (word f k) ≤ j → j < 64 * k + 64 → f j = false := by
  obtain ⟨h1, h2, h3, h4⟩ := bitLen_spec h0 (word_lt f k)
  rw [testBit_word] at h3
  have e : 64 * k + (Lib.bitLen (word f k) - 1) = 64 * k + Lib.bitLen (word f k) - 1 := by omega
  refine ⟨h1, h2, by rw [← e]; simpa [show Lib.bitLen (word f k) - 1 < 64 by omega] using h3, fun j hj hj' => ?_⟩
  have := h4 (j - 64 * k) (by omega)
  rw [testBit_word] at this
  have e : 64 * k + (j - 64 * k) = j := by omega
  rw [e] at this
  simpa [show j - 64 * k < 64 by omega] using this

/-! ### first from p on -/
/-- The least number from p on, below n, in f; -1 without one. -/
def seekV (f : Nat → Bool) (n p : Nat) : Int :=
  match (List.range n).find? (fun i => decide (p ≤ i) && f i) with
  | some i => (i : Int)
  | none => -1
theorem seekV_some {f : Nat → Bool} {n p i : Nat} (hi : i < n) (hp : p ≤ i) (hf : f i = true) (hl : ∀ j, p ≤ j → j < i → f j = false) : seekV f n p = (i : Int) := by
  have : (List.range n).find? (fun i => decide (p ≤ i) && f i) = some i := by
    rw [List.find?_range_eq_some]
    refine ⟨by simp [hp, hf], by simpa using hi, fun j hj => ?_⟩
    by_cases h : p ≤ j
    · simp [hl j h hj]
    · simp [h]
  unfold seekV; rw [this]
theorem seekV_none {f : Nat → Bool} {n p : Nat} (h : ∀ j, p ≤ j → j < n → f j = false) : seekV f n p = -1 := by
  have : (List.range n).find? (fun i => decide (p ≤ i) && f i) = none := by
    rw [List.find?_eq_none]
    intro j hj
    have hj' : j < n := by simpa using hj
    by_cases hp : p ≤ j
    · simp [h j hp hj']
    · simp [hp]
  unfold seekV; rw [this]
theorem seekV_cases (f : Nat → Bool) (n p : Nat) : (∃ i : Nat, seekV f n p = (i : Int) ∧ i < n ∧ p ≤ i ∧ f i = true ∧ ∀ j, p ≤ j → j < i → f j = false) ∨ (seekV f n p = -1 ∧ ∀ j, p ≤ j → j < n → f j = false) := by
  cases e : (List.range n).find? (fun i => decide (p ≤ i) && f i) with
  | none =>
    refine .inr ⟨by unfold seekV; rw [e], fun j hp hj => ?_⟩
    have := List.find?_eq_none.1 e j (by simpa using hj)
    simpa [hp] using this
  | some i =>
    have e' := e
    rw [List.find?_range_eq_some] at e
    obtain ⟨h1, h2, h3⟩ := e
    simp only [Bool.and_eq_true, decide_eq_true_eq] at h1
    refine .inl ⟨i, by unfold seekV; rw [e'], by simpa using h2, h1.1, h1.2, fun j hp hj => ?_⟩
    have := h3 j hj
    simpa [hp] using this
theorem seekV_range (f : Nat → Bool) (n p : Nat) : -1 ≤ seekV f n p ∧ seekV f n p < n := by
  rcases seekV_cases f n p with ⟨i, e, h, _⟩ | ⟨e, _⟩ <;> rw [e] <;> omega
theorem seekV_congr {f g : Nat → Bool} {n p : Nat} (h : ∀ j, p ≤ j → j < n → f j = g j) : seekV f n p = seekV g n p := by
  rcases seekV_cases g n p with ⟨i, e, h1, h2, h3, h4⟩ | ⟨e, h1⟩
  · rw [e]; exact seekV_some h1 h2 (by rw [h i h2 h1]; exact h3) fun j hp hj => by rw [h j hp (by omega)]; exact h4 j hp hj
  · rw [e]; exact seekV_none fun j hp hj => by rw [h j hp hj]; exact h1 j hp hj
/-- Beyond the size none is: how far one looks does not matter. -/
theorem seekV_more {f : Nat → Bool} {n m p : Nat} (hf : ∀ j, n ≤ j → f j = false) (hm : n ≤ m) : seekV f m p = seekV f n p := by
  rcases seekV_cases f n p with ⟨i, e, h1, h2, h3, h4⟩ | ⟨e, h1⟩
  · rw [e]; exact seekV_some (by omega) h2 h3 h4
  · rw [e]; exact seekV_none fun j hp hj => by
      by_cases h : j < n
      · exact h1 j hp h
      · exact hf j (by omega)
/-- The least number above i. -/
def nextV (f : Nat → Bool) (n : Nat) (i : Int) : Int := seekV f n (i + 1).toNat
/-- The greatest number below n. -/
def lastV (f : Nat → Bool) : Nat → Int
  | 0 => -1
  | n + 1 => if f n then (n : Int) else lastV f n
theorem lastV_some {f : Nat → Bool} {n i : Nat} (hi : i < n) (hf : f i = true) (h : ∀ j, i < j → j < n → f j = false) : lastV f n = (i : Int) := by
  induction n with
  | zero => omega
  | succ n ih =>
    unfold lastV
    by_cases e : i = n
    · subst e; rw [if_pos hf]
    · rw [if_neg (by rw [h n (by omega) (by omega)]; simp)]
      exact ih (by omega) fun j h1 h2 => h j h1 (by omega)
theorem lastV_none {f : Nat → Bool} {n : Nat} (h : ∀ j, j < n → f j = false) : lastV f n = -1 := by
  induction n with
  | zero => rfl
  | succ n ih =>
    unfold lastV
    rw [if_neg (by rw [h n (by omega)]; simp)]
    exact ih fun j hj => h j (by omega)
theorem lastV_more {f : Nat → Bool} {n m : Nat} (hf : ∀ j, n ≤ j → f j = false) (hm : n ≤ m) : lastV f m = lastV f n := by
  induction m with
  | zero => have : n = 0 := by omega
            subst this; rfl
  | succ m ih =>
    by_cases e : n = m + 1
    · rw [e]
    · rw [show lastV f (m + 1) = if f m then (m : Int) else lastV f m from rfl, if_neg (by rw [hf m (by omega)]; simp)]
      exact ih (by omega)
theorem lastV_range (f : Nat → Bool) (n : Nat) : -1 ≤ lastV f n ∧ lastV f n < n := by
  induction n with
  | zero => simp [lastV]
  | succ n ih => unfold lastV; split <;> omega

/-! ### runs -/
def allF (f : Nat → Bool) (i n : Nat) : Bool := (List.range n).all fun j => f (i + j)
theorem allF_iff {f : Nat → Bool} {i n : Nat} : allF f i n = true ↔ ∀ j, i ≤ j → j < i + n → f j = true := by
  unfold allF
  rw [List.all_eq_true]
  constructor
  · intro h j h1 h2
    have := h (j - i) (by simp; omega)
    rwa [show i + (j - i) = j by omega] at this
  · intro h j hj
    exact h _ (by omega) (by simp at hj; omega)
theorem allF_no {f : Nat → Bool} {i n j : Nat} (h1 : i ≤ j) (h2 : j < i + n) (h : f j = false) : allF f i n = false := by
  cases e : allF f i n with
  | false => rfl
  | true => rw [allF_iff.1 e j h1 h2] at h; cases h
/-- The least i with i to i + n - 1 in f: -1 if n < 1 or there is none (f has none from size on). -/
def runV (f : Nat → Bool) (size : Nat) (n : Int) : Int := if n < 1 then -1 else seekV (fun i => allF f i n.toNat) size 0

/-- The least number from p on that is not in f. -/
def gapV (f : Nat → Bool) (size p : Nat) : Nat := (seekV (notF f) (size + 1) p).toNat
theorem gapV_spec {f : Nat → Bool} {size p : Nat} (hf : ∀ j, size ≤ j → f j = false) (hp : p ≤ size) : p ≤ gapV f size p ∧ gapV f size p ≤ size ∧ f (gapV f size p) = false ∧ ∀ j, p ≤ j → j < gapV f size p → f j = true := by
  unfold gapV
  rcases seekV_cases (notF f) (size + 1) p with ⟨i, e, h1, h2, h3, h4⟩ | ⟨e, h1⟩
  · rw [e]
    refine ⟨by omega, by omega, by simpa [notF] using h3, fun j h5 h6 => ?_⟩
    have := h4 j h5 (by omega)
    simpa [notF] using this
  · have := h1 size hp (by omega)
    simp [notF, hf size (Nat.le_refl _)] at this
theorem gapV_eq {f : Nat → Bool} {size p n : Nat} (hf : ∀ j, size ≤ j → f j = false) (hp : p ≤ size) (hn : size ≤ n) : (if seekV (notF f) n p < 0 then (size : Int) else seekV (notF f) n p) = (gapV f size p : Int) := by
  obtain ⟨h1, h2, h3, h4⟩ := gapV_spec hf hp
  by_cases h : gapV f size p < n
  · rw [seekV_some (f := notF f) h h1 (by simp [notF, h3]) fun j h5 h6 => by simp [notF, h4 j h5 h6], if_neg (by omega)]
  · rw [seekV_none (f := notF f) fun j h5 h6 => by simp [notF, h4 j h5 (by omega)]]
    simp; omega

/-! ### counts and lists -/
def cnt (f : Nat → Bool) : Nat → Nat
  | 0 => 0
  | n + 1 => cnt f n + (if f n then 1 else 0)
theorem cnt_succ (f : Nat → Bool) (n : Nat) : cnt f (n + 1) = cnt f n + (if f n then 1 else 0) := rfl
theorem cnt_le (f : Nat → Bool) (n : Nat) : cnt f n ≤ n := by
  induction n with
  | zero => simp [cnt]
  | succ n ih => rw [cnt_succ]; split <;> omega
theorem cnt_mono (f : Nat → Bool) {a b : Nat} (h : a ≤ b) : cnt f a ≤ cnt f b := by
  induction b with
  | zero => have : a = 0 := by omega
            subst this; exact Nat.le_refl _
  | succ b ih =>
    by_cases e : a = b + 1
    · subst e; exact Nat.le_refl _
    · have := ih (by omega); rw [cnt_succ]; omega
theorem cnt_more {f : Nat → Bool} {n m : Nat} (hf : ∀ j, n ≤ j → f j = false) (hm : n ≤ m) : cnt f m = cnt f n := by
  induction m with
  | zero => have : n = 0 := by omega
            subst this; rfl
  | succ m ih =>
    by_cases e : n = m + 1
    · rw [e]
    · rw [cnt_succ, ih (by omega), if_neg (by rw [hf m (by omega)]; simp)]; rfl
theorem cnt_congr {f g : Nat → Bool} {n : Nat} (h : ∀ j, j < n → f j = g j) : cnt f n = cnt g n := by
  induction n with
  | zero => rfl
  | succ n ih => rw [cnt_succ, cnt_succ, ih fun j hj => h j (by omega), h n (by omega)]
/-- What is in f below n, rising. -/
def listV (f : Nat → Bool) (n : Nat) : List Nat := (List.range n).filter f
theorem listV_succ (f : Nat → Bool) (n : Nat) : listV f (n + 1) = listV f n ++ if f n then [n] else [] := by
  unfold listV
  rw [List.range_succ, List.filter_append]
  by_cases h : f n = true <;> simp [h]
theorem listV_length (f : Nat → Bool) (n : Nat) : (listV f n).length = cnt f n := by
  induction n with
  | zero => rfl
  | succ n ih => rw [listV_succ, List.length_append, ih, cnt_succ]; split <;> rfl
theorem listV_more {f : Nat → Bool} {n m : Nat} (hf : ∀ j, n ≤ j → j < m → f j = false) (hm : n ≤ m) : listV f m = listV f n := by
  induction m with
  | zero => have : n = 0 := by omega
            subst this; rfl
  | succ m ih =>
    by_cases e : n = m + 1
    · rw [e]
    · rw [listV_succ, ih (fun j h1 h2 => hf j h1 (by omega)) (by omega), if_neg (by rw [hf m (by omega) (by omega)]; simp), List.append_nil]
theorem listV_congr {f g : Nat → Bool} {n : Nat} (h : ∀ j, j < n → f j = g j) : listV f n = listV g n := by
  induction n with
  | zero => rfl
  | succ n ih => rw [listV_succ, listV_succ, ih fun j hj => h j (by omega), h n (by omega)]

/-! ### how many bits a byte has -/
def pop : Nat → Nat → Nat
  | 0, _ => 0
  | d + 1, b => pop d (b / 2) + b % 2
theorem pop_half : ∀ b, b < 256 → pop 8 b = pop 8 (b / 2) + b % 2 := by decide +kernel
theorem pop_le (d b : Nat) : pop d b ≤ d := by
  induction d generalizing b with
  | zero => simp [pop]
  | succ d ih => have := ih (b / 2); simp only [pop]; omega
def cntBits (x : Nat) : Nat → Nat
  | 0 => 0
  | n + 1 => cntBits x n + (if x.testBit n then 1 else 0)
theorem pop_bits : ∀ b, b < 256 → pop 8 b = cntBits b 8 := by decide +kernel
theorem cnt_byte (f : Nat → Bool) (k b : Nat) (hb : b < 8) : cnt f (64 * k + 8 * (b + 1)) = cnt f (64 * k + 8 * b) + pop 8 (word f k / 2 ^ (8 * b) % 256) := by
  rw [pop_bits _ (Nat.mod_lt _ (by omega))]
  have ht : ∀ i, i < 8 → (word f k / 2 ^ (8 * b) % 256).testBit i = f (64 * k + 8 * b + i) := by
    intro i hi
    rw [show (256 : Nat) = 2 ^ 8 from rfl, Nat.testBit_mod_two_pow, Nat.testBit_div_two_pow, testBit_word]
    have e : 64 * k + (i + 8 * b) = 64 * k + 8 * b + i := by omega
    simp [hi, e, show i + 8 * b < 64 by omega]
  have hc : ∀ n, n ≤ 8 → cnt f (64 * k + 8 * b + n) = cnt f (64 * k + 8 * b) + cntBits (word f k / 2 ^ (8 * b) % 256) n := by
    intro n
    induction n with
    | zero => intro _; rfl
    | succ n ih =>
      intro hn
      show cnt f (64 * k + 8 * b + n) + (if f (64 * k + 8 * b + n) then 1 else 0) = _ + (cntBits _ n + (if (word f k / 2 ^ (8 * b) % 256).testBit n then 1 else 0))
      rw [ih (by omega), ht n (by omega)]
      omega
  have := hc 8 (Nat.le_refl _)
  rw [← this]
  congr 1
end Go.Proofs.YtgooajgoofojmaaDoor
