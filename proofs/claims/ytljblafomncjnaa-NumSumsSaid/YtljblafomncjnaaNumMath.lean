/- Plain mathematics of layer 1 (num): what fits an int, rounding up, powers of two, logarithms, aligning; and what the model's bit operations are on ints. No program is named here. -/
import Derived.WalkKit
import Derived.IntWalk
import Derived.Lib.ItoaNum
import Derived.Lib.Hide
namespace Go.Proofs.Ytljblafomncjnaa
open Go.RowKit

/-! ### what fits -/
def fitB (x : Int) : Bool := decide (-9223372036854775808 ≤ x ∧ x ≤ 9223372036854775807)
def fitV (x : Int) : Int := if fitB x = true then x else 0
theorem fitB_yes {x : Int} (h : -9223372036854775808 ≤ x) (h' : x ≤ 9223372036854775807) : fitB x = true := by
  unfold fitB; exact decide_eq_true ⟨h, h'⟩
theorem fitB_no {x : Int} (h : x < -9223372036854775808 ∨ 9223372036854775807 < x) : fitB x = false := by
  unfold fitB; exact decide_eq_false (by omega)
theorem fitB_iff {x : Int} : fitB x = true ↔ -9223372036854775808 ≤ x ∧ x ≤ 9223372036854775807 := by
  unfold fitB; simp
theorem fitV_yes {x : Int} (h : fitB x = true) : fitV x = x := by unfold fitV; rw [if_pos h]
theorem fitV_no {x : Int} (h : fitB x = false) : fitV x = 0 := by unfold fitV; rw [if_neg (by rw [h]; decide)]
theorem fitV_range (x : Int) : -9223372036854775808 ≤ fitV x ∧ fitV x ≤ 9223372036854775807 := by
  by_cases h : fitB x = true
  · rw [fitV_yes h]; exact fitB_iff.1 h
  · rw [fitV_no (by simpa using h)]; omega

/-! ### rounding up -/
def ceilB (a b : Int) : Bool := decide (0 ≤ a ∧ 1 ≤ b)
def ceilV (a b : Int) : Int := if 0 ≤ a ∧ 1 ≤ b then (if a % b = 0 then a / b else a / b + 1) else 0
theorem ceilB_yes {a b : Int} (h : 0 ≤ a) (h' : 1 ≤ b) : ceilB a b = true := decide_eq_true ⟨h, h'⟩
theorem ceilB_no {a b : Int} (h : a < 0 ∨ b < 1) : ceilB a b = false := decide_eq_false (by omega)
theorem ceilV_no {a b : Int} (h : a < 0 ∨ b < 1) : ceilV a b = 0 := by unfold ceilV; rw [if_neg (by omega)]
theorem ceilV_yes {a b : Int} (h : 0 ≤ a) (h' : 1 ≤ b) : ceilV a b = if a % b = 0 then a / b else a / b + 1 := by
  unfold ceilV; rw [if_pos ⟨h, h'⟩]
theorem ceilV_ref {a b : Int} (h : 1 ≤ a) (h' : 1 ≤ b) : (a - 1) / b + 1 = ceilV a b := by
  rw [ceilV_yes (by omega) h']
  have hd := Int.mul_ediv_add_emod a b
  have h0 := Int.emod_nonneg a (b := b) (by omega)
  have h1 := Int.emod_lt_of_pos a (b := b) (by omega)
  by_cases e : a % b = 0
  · rw [if_pos e]
    have : (a - 1) / b = a / b - 1 := by
      rw [Int.ediv_eq_iff_of_pos (by omega)]
      rw [e] at hd
      have k : (a / b - 1) * b = b * (a / b) - b := by rw [Int.sub_mul, Int.one_mul, Int.mul_comm]
      rw [k]; omega
    omega
  · rw [if_neg e]
    have : (a - 1) / b = a / b := by
      rw [Int.ediv_eq_iff_of_pos (by omega)]
      have k : a / b * b = b * (a / b) := Int.mul_comm _ _
      rw [k]; omega
    omega
theorem ceilV_zero {b : Int} (h' : 1 ≤ b) : ceilV 0 b = 0 := by
  rw [ceilV_yes (by omega) h']; simp
/-- the ceiling is the least number that, times b, is a or more; and it is no more than a. -/
theorem ceilV_law {a b : Int} (h : 0 ≤ a) (h' : 1 ≤ b) : 0 ≤ ceilV a b ∧ ceilV a b ≤ a ∧ a ≤ ceilV a b * b ∧ (ceilV a b - 1) * b < a := by
  by_cases e0 : a = 0
  · subst e0; rw [ceilV_zero h']; refine ⟨by omega, by omega, by omega, by omega⟩
  · have e := ceilV_ref (a := a) (b := b) (by omega) h'
    have hd := Int.mul_ediv_add_emod (a - 1) b
    have h0 := Int.emod_nonneg (a - 1) (b := b) (by omega)
    have h1 := Int.emod_lt_of_pos (a - 1) (b := b) (by omega)
    have hq := Int.ediv_nonneg (a := a - 1) (b := b) (by omega) (by omega)
    have hle := Int.ediv_le_self (a := a - 1) b (by omega)
    rw [← e]
    have k : ((a - 1) / b + 1) * b = b * ((a - 1) / b) + b := by rw [Int.add_mul, Int.one_mul, Int.mul_comm]
    have k2 : ((a - 1) / b + 1 - 1) * b = b * ((a - 1) / b) := by rw [Int.add_sub_cancel, Int.mul_comm]
    refine ⟨by omega, by omega, ?_, ?_⟩
    · rw [k]; omega
    · rw [k2]; omega
/-- what a law asks of a quotient that is rounded up: either it is none; or it is 0, of 0; or it is 1 or more: then the product with b, if it fits, is a or more, and one less of it is below a, and fits. -/
theorem back_facts (a b : Int) (ha' : a ≤ 9223372036854775807) : ∃ (v : Int) (c : Bool), Hid (ceilV a b = v) ∧ Hid (ceilB a b = c) ∧
    (c = false ∨ (c = true ∧ v = 0 ∧ a = 0 ∧ Hid (fitV (0 * b) = 0 ∧ fitB (0 * b) = true)) ∨
      (c = true ∧ 1 ≤ v ∧ v ≤ 9223372036854775807 ∧ 1 ≤ b ∧ ∃ (M L : Int) (r : Bool), Hid (fitV (v * b) = M ∧ fitB (v * b) = r) ∧ Hid (fitV ((v - 1) * b) = L ∧ fitB ((v - 1) * b) = true) ∧ (r = true → a ≤ M) ∧ L < a)) := by
  refine ⟨ceilV a b, ceilB a b, Lib.hid rfl, Lib.hid rfl, ?_⟩
  by_cases h : 0 ≤ a ∧ 1 ≤ b
  · right
    obtain ⟨h0, h1⟩ := h
    rw [ceilB_yes h0 h1]
    obtain ⟨q0, q1, q2, q3⟩ := ceilV_law h0 h1
    generalize ceilV a b = q at *
    by_cases hq : q = 0
    · left
      subst hq
      refine ⟨rfl, rfl, by omega, Lib.hid ?_⟩
      rw [Int.zero_mul]; exact ⟨by decide, by decide⟩
    · right
      have l0 : 0 ≤ (q - 1) * b := Int.mul_nonneg (by omega) (by omega)
      have lf : fitB ((q - 1) * b) = true := fitB_yes (by omega) (by omega)
      refine ⟨rfl, by omega, by omega, h1, fitV (q * b), (q - 1) * b, fitB (q * b), Lib.hid ⟨rfl, rfl⟩, Lib.hid ⟨fitV_yes lf, lf⟩, fun hr => by rw [fitV_yes hr]; exact q2, q3⟩
  · left
    exact ceilB_no (by omega)

/-! ### powers of two and logarithms -/
def powB (n : Int) : Bool := decide (0 < n ∧ n.toNat = 2 ^ n.toNat.log2)
def logV (n : Int) : Int := if n < 1 then -1 else (n.toNat.log2 : Int)
theorem powB_no {n : Int} (h : n < 1) : powB n = false := decide_eq_false (by omega)
theorem powB_iff {n : Int} : powB n = true ↔ 0 < n ∧ ∃ k : Nat, n.toNat = 2 ^ k := by
  unfold powB
  rw [decide_eq_true_iff]
  constructor
  · rintro ⟨h, e⟩; exact ⟨h, _, e⟩
  · rintro ⟨h, k, e⟩; exact ⟨h, by rw [e, Nat.log2_two_pow]⟩
theorem powB_one : powB 1 = true := powB_iff.2 ⟨by decide, 0, rfl⟩
theorem powB_odd {n : Int} (h : 1 < n) (ho : n % 2 = 1) : powB n = false := by
  rw [Bool.eq_false_iff]
  intro hp
  obtain ⟨_, k, e⟩ := powB_iff.1 hp
  cases k with
  | zero => simp at e; omega
  | succ k => rw [Nat.pow_succ] at e; omega
theorem powB_half {n : Int} (h : 1 < n) (he : n % 2 = 0) : powB (n / 2) = powB n := by
  rw [Bool.eq_iff_iff, powB_iff, powB_iff]
  constructor
  · rintro ⟨_, k, e⟩; exact ⟨by omega, k + 1, by rw [Nat.pow_succ]; omega⟩
  · rintro ⟨_, k, e⟩
    cases k with
    | zero => simp at e; omega
    | succ k => exact ⟨by omega, k, by rw [Nat.pow_succ] at e; omega⟩
theorem powB_and {n : Int} (h : 0 < n) : powB n = ((n.toNat &&& (n.toNat - 1)) == 0) := by
  rw [Bool.eq_iff_iff, powB_iff, beq_iff_eq, Nat.and_sub_one_eq_zero_iff_isPowerOfTwo (by omega)]
  constructor
  · rintro ⟨_, k, e⟩; exact ⟨k, e⟩
  · rintro ⟨k, e⟩; exact ⟨h, k, e⟩
theorem logV_low {n : Int} (h : n < 1) : logV n = -1 := by unfold logV; rw [if_pos h]
theorem logV_one : logV 1 = 0 := by unfold logV; rw [if_neg (by omega)]; decide
theorem logV_half {n : Int} (h : 1 ≤ n) : logV n = 1 + logV (n / 2) := by
  unfold logV
  rw [if_neg (by omega)]
  by_cases h2 : n < 2
  · obtain rfl : n = 1 := by omega
    decide
  · rw [if_neg (by omega)]
    have e : n.toNat.log2 = (n.toNat / 2).log2 + 1 := by rw [Nat.log2_def, if_pos (by omega)]
    have t : (n / 2).toNat = n.toNat / 2 := by omega
    rw [e, t]; omega
theorem logV_range {n : Int} (h : n ≤ 9223372036854775807) : -1 ≤ logV n ∧ logV n ≤ 63 := by
  unfold logV
  by_cases h1 : n < 1
  · rw [if_pos h1]; omega
  · rw [if_neg h1]
    have : n.toNat.log2 < 64 := (Nat.log2_lt (by omega)).2 (by omega)
    omega
theorem bitLen_log {n : Int} (h : 1 ≤ n) (h' : n ≤ 9223372036854775807) : (Lib.bitLen n.toNat : Int) - 1 = logV n ∧ 1 ≤ (Lib.bitLen n.toNat : Int) ∧ (Lib.bitLen n.toNat : Int) ≤ 64 := by
  obtain ⟨h1, h2, h3⟩ := Lib.bitLenAux_bounds 64 n.toNat (by omega) (by omega)
  have hb : Lib.bitLen n.toNat = Lib.bitLenAux 64 n.toNat := rfl
  have hl := Lib.bitLen_le n.toNat 64 (by omega) (by omega)
  unfold logV
  rw [if_neg (by omega)]
  have e : n.toNat.log2 = Lib.bitLenAux 64 n.toNat - 1 := (Nat.log2_eq_iff (by omega)).2 ⟨h2, by rw [Nat.sub_add_cancel h1]; exact h3⟩
  rw [e, hb] at *
  omega

/-! ### aligning -/
def upTo (n b : Int) : Int := (n + b - 1) / b * b
def alignB (n b : Int) : Bool := decide (0 ≤ n) && powB b && fitB (upTo n b)
def alignV (n b : Int) : Int := if alignB n b = true then upTo n b else 0
theorem alignV_no {n b : Int} (h : alignB n b = false) : alignV n b = 0 := by unfold alignV; rw [h]; rfl
theorem alignV_yes {n b : Int} (h : alignB n b = true) : alignV n b = upTo n b := by unfold alignV; rw [if_pos h]
theorem upTo_law {n b : Int} (hb : 0 < b) : upTo n b % b = 0 ∧ n ≤ upTo n b ∧ upTo n b < n + b := by
  unfold upTo
  have hd := Int.mul_ediv_add_emod (n + b - 1) b
  have h0 := Int.emod_nonneg (n + b - 1) (b := b) (by omega)
  have h1 := Int.emod_lt_of_pos (n + b - 1) (b := b) hb
  refine ⟨Int.mul_emod_left _ _, ?_, ?_⟩
  · rw [Int.mul_comm]; omega
  · rw [Int.mul_comm]; omega
theorem upTo_same {n b : Int} (hb : 0 < b) (h : n % b = 0) : upTo n b = n := by
  unfold upTo
  have hd := Int.mul_ediv_add_emod n b
  have e : (n + b - 1) / b = n / b := by
    rw [Int.ediv_eq_iff_of_pos hb]
    have k : n / b * b = b * (n / b) := Int.mul_comm _ _
    rw [k]; omega
  rw [e, Int.mul_comm]; omega
theorem upTo_more {n b : Int} (hb : 0 < b) (h : n % b ≠ 0) : upTo n b = n + (b - n % b) := by
  unfold upTo
  have hd := Int.mul_ediv_add_emod n b
  have h0 := Int.emod_nonneg n (b := b) (by omega)
  have h1 := Int.emod_lt_of_pos n (b := b) hb
  have e : (n + b - 1) / b = n / b + 1 := by
    rw [Int.ediv_eq_iff_of_pos hb]
    have k : (n / b + 1) * b = b * (n / b) + b := by rw [Int.add_mul, Int.one_mul, Int.mul_comm]
    rw [k]; omega
  rw [e, Int.add_mul, Int.one_mul, Int.mul_comm]; omega
theorem pow_bound {b : Int} (h : powB b = true) (h' : b ≤ 9223372036854775807) : ∃ c : Int, 9223372036854775808 = c * b := by
  obtain ⟨h0, k, e⟩ := powB_iff.1 h
  have hk : k < 63 := by
    rcases Nat.lt_or_ge k 63 with h | h
    · exact h
    · have : 2 ^ 63 ≤ 2 ^ k := Nat.pow_le_pow_right (by omega) h
      omega
  refine ⟨((2 ^ (63 - k) : Nat) : Int), ?_⟩
  have eb : b = ((2 ^ k : Nat) : Int) := by omega
  rw [eb, ← Int.natCast_mul, ← Nat.pow_add, Nat.sub_add_cancel (by omega)]
  decide
/-- where the sum of n and b - 1 does not fit, neither does the multiple. -/
theorem upTo_big {n b : Int} (hb : powB b = true) (h' : b ≤ 9223372036854775807) (h : 9223372036854775807 < n + (b - 1)) : fitB (upTo n b) = false := by
  obtain ⟨c, hc⟩ := pow_bound hb h'
  have h0 := (powB_iff.1 hb).1
  apply fitB_no
  right
  unfold upTo
  have : c ≤ (n + b - 1) / b := (Int.le_ediv_iff_mul_le h0).2 (by omega)
  have := Int.mul_le_mul_of_nonneg_right this (Int.le_of_lt h0)
  omega
theorem upTo_fits {n b : Int} (hn : 0 ≤ n) (hb : 0 < b) (h : n + (b - 1) ≤ 9223372036854775807) : fitB (upTo n b) = true := by
  have := upTo_law (n := n) hb
  exact fitB_yes (by omega) (by omega)
/-- what an answer of Align is: a multiple, no less than n, less than by beyond, and aligned already. -/
theorem align_facts {n b : Int} (hb' : b ≤ 9223372036854775807) (h : alignB n b = true) :
    ∃ v : Int, alignV n b = v ∧ 0 ≤ v ∧ v ≤ 9223372036854775807 ∧ (v % b == 0) = true ∧ 0 ≤ v - n ∧ v - n < b ∧ 0 < b ∧ alignB v b = true ∧ alignV v b = v := by
  have hv := alignV_yes h
  unfold alignB at h
  simp only [Bool.and_eq_true, decide_eq_true_iff] at h
  obtain ⟨⟨h0, hp⟩, hf⟩ := h
  have hb0 := (powB_iff.1 hp).1
  obtain ⟨l1, l2, l3⟩ := upTo_law (n := n) hb0
  obtain ⟨f1, f2⟩ := fitB_iff.1 hf
  have hs : upTo (upTo n b) b = upTo n b := upTo_same hb0 l1
  have hB : alignB (upTo n b) b = true := by unfold alignB; rw [decide_eq_true (by omega), hp, hs, hf]; rfl
  refine ⟨upTo n b, hv, by omega, f2, by rw [l1]; rfl, by omega, by omega, hb0, hB, ?_⟩
  rw [alignV_yes hB, hs]

/-! ### the model's bit operations on ints -/
theorem bv64 {s : Int} (h0 : 0 ≤ s) (h : s ≤ 9223372036854775807) : (BitVec.ofInt 64 s).toNat = s.toNat := by
  simp only [BitVec.toNat_ofInt]; omega
theorem xor_i64 {s : Int} (h0 : -9223372036854775808 ≤ s) (h : s ≤ 9223372036854775807) : bits .xor .i64 (-1) s = -1 - s := by
  unfold bits
  rw [IntKind.wrap_i64]
  have e : ((BitVec.ofInt IntKind.i64.bits (-1)) ^^^ (BitVec.ofInt IntKind.i64.bits s)).toNat = 18446744073709551615 - (s % 18446744073709551616).toNat := by
    show ((BitVec.ofInt 64 (-1)) ^^^ (BitVec.ofInt 64 s)).toNat = _
    have : BitVec.ofInt 64 (-1) = BitVec.allOnes 64 := by decide
    rw [this, BitVec.allOnes_xor, BitVec.toNat_not, BitVec.toNat_ofInt]
    omega
  simp only [e]
  omega
theorem and_i64 {a b : Int} (h0 : 0 ≤ a) (h : a ≤ 9223372036854775807) (h0' : 0 ≤ b) (h' : b ≤ 9223372036854775807) : bits .and .i64 a b = ((a.toNat &&& b.toNat : Nat) : Int) := by
  unfold bits
  have e : ((BitVec.ofInt IntKind.i64.bits a) &&& (BitVec.ofInt IntKind.i64.bits b)).toNat = a.toNat &&& b.toNat := by
    show ((BitVec.ofInt 64 a) &&& (BitVec.ofInt 64 b)).toNat = _
    rw [BitVec.toNat_and, bv64 h0 h, bv64 h0' h']
  rw [IntKind.wrap_i64]
  simp only [e]
  have : a.toNat &&& b.toNat ≤ a.toNat := Nat.and_le_left
  omega
theorem pow_i64 {n : Int} (h0 : 0 < n) (h : n ≤ 9223372036854775807) : (bits .and .i64 n (n - 1) == 0) = powB n := by
  rw [and_i64 (by omega) h (by omega) (by omega), powB_and h0, show (n - 1).toNat = n.toNat - 1 by omega, Bool.eq_iff_iff]
  simp only [beq_iff_eq]
  omega
theorem nat_andNot (x k : Nat) : x - x % 2 ^ k = x / 2 ^ k * 2 ^ k := by
  have := Nat.div_add_mod x (2 ^ k); rw [Nat.mul_comm]; omega
theorem andNot_i64 {a b : Int} (h0 : 0 ≤ a) (h : a ≤ 9223372036854775807) (hb : powB b = true) (h' : b ≤ 9223372036854775807) : bits .andNot .i64 a (b - 1) = a / b * b := by
  obtain ⟨hb0, k, e⟩ := powB_iff.1 hb
  have hk : k < 63 := by
    rcases Nat.lt_or_ge k 63 with h | h
    · exact h
    · have : 2 ^ 63 ≤ 2 ^ k := Nat.pow_le_pow_right (by omega) h
      omega
  have eb : b = ((2 ^ k : Nat) : Int) := by omega
  have ea : a = ((a.toNat : Nat) : Int) := by omega
  generalize a.toNat = x at ea
  subst ea
  have e1 : ((BitVec.ofInt IntKind.i64.bits (x : Int)) &&& ~~~(BitVec.ofInt IntKind.i64.bits (b - 1))).toNat = x / 2 ^ k * 2 ^ k := by
    show ((BitVec.ofInt 64 (x : Int)) &&& ~~~(BitVec.ofInt 64 (b - 1))).toNat = _
    have hm : (BitVec.ofInt 64 (b - 1)).toNat = 2 ^ k - 1 := by rw [bv64 (by omega) (by omega)]; omega
    have hx : (BitVec.ofInt 64 (x : Int)).toNat = x := by rw [bv64 (by omega) (by omega)]; omega
    have hx63 : x < 2 ^ 64 := by omega
    apply Nat.eq_of_testBit_eq
    intro i
    rw [BitVec.toNat_and, Nat.testBit_and, hx, BitVec.testBit_toNat, BitVec.getLsbD_not, ← BitVec.testBit_toNat, hm, Nat.testBit_two_pow_sub_one, Nat.testBit_mul_two_pow, Nat.testBit_div_two_pow]
    by_cases hi : i < k
    · simp [hi]; omega
    · have hki : k ≤ i := by omega
      simp only [hi, decide_false, Bool.not_false, Bool.and_true, hki, decide_true, Bool.true_and, Nat.sub_add_cancel hki]
      by_cases hi64 : i < 64
      · simp [hi64]
      · simp [hi64]
        exact Nat.testBit_lt_two_pow (Nat.lt_of_lt_of_le hx63 (Nat.pow_le_pow_right (by omega) (by omega)))
  unfold bits
  rw [IntKind.wrap_i64]
  simp only [e1]
  have hle := Nat.div_mul_le_self x (2 ^ k)
  have e2 : (x : Int) / b * b = ((x / 2 ^ k * 2 ^ k : Nat) : Int) := by rw [eb, ← Int.natCast_ediv, ← Int.natCast_mul]
  rw [e2]
  omega
end Go.Proofs.Ytljblafomncjnaa
