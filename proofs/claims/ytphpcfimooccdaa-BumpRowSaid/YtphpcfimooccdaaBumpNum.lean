/- Layer 9 (bump): what num.Add, Power and Align, and the document's own answers to them (copyholdref01), return: contracts. (Out of layer 1's texts.) -/
import Derived.Test.YtphpcfimooccdaaBase
import Derived.IntWalk
namespace Go.Proofs.Ytphpcfimooccdaa
open Go.RowKit

def fitB (x : Int) : Bool := decide (-9223372036854775808 ≤ x ∧ x ≤ 9223372036854775807)
def fitV (x : Int) : Int := if fitB x = true then x else 0
theorem fitB_yes {x : Int} (h : -9223372036854775808 ≤ x) (h' : x ≤ 9223372036854775807) : fitB x = true := by
  unfold fitB; exact decide_eq_true ⟨h, h'⟩
theorem fitB_no {x : Int} (h : x < -9223372036854775808 ∨ 9223372036854775807 < x) : fitB x = false := by
  unfold fitB; exact decide_eq_false (by omega)
theorem fitB_iff {x : Int} : fitB x = true ↔ -9223372036854775808 ≤ x ∧ x ≤ 9223372036854775807 := by
  unfold fitB; simp
theorem fitV_yes {x : Int} (h : fitB x = true) : fitV x = x := by unfold fitV; rw [if_pos h]
theorem fitV_no {x : Int} (h : fitB x = false) : fitV x = 0 := by unfold fitV; rw [if_neg (by rw [h]; decide)]
/-! ### powers of two -/
def powB (n : Int) : Bool := decide (0 < n ∧ n.toNat = 2 ^ n.toNat.log2)
theorem powB_no {n : Int} (h : n < 1) : powB n = false := decide_eq_false (by omega)
theorem powB_iff {n : Int} : powB n = true ↔ 0 < n ∧ ∃ k : Nat, n.toNat = 2 ^ k := by
  unfold powB
  rw [decide_eq_true_iff]
  constructor
  · rintro ⟨h, e⟩; exact ⟨h, _, e⟩
  · rintro ⟨h, k, e⟩; exact ⟨h, by rw [e, Nat.log2_two_pow]⟩
theorem powB_one : powB 1 = true := powB_iff.2 ⟨by decide, 0, rfl⟩
theorem powB_odd {n : Int} (h : 1 < n) (ho : n % 2 = 1) : powB n = false := by
  rw [Bool.eq_false_iff]
  intro hp
  obtain ⟨_, k, e⟩ := powB_iff.1 hp
  cases k with
  | zero => simp at e; omega
  | succ k => rw [Nat.pow_succ] at e; omega
theorem powB_half {n : Int} (h : 1 < n) (he : n % 2 = 0) : powB (n / 2) = powB n := by
  rw [Bool.eq_iff_iff, powB_iff, powB_iff]
  constructor
  · rintro ⟨_, k, e⟩; exact ⟨by omega, k + 1, by rw [Nat.pow_succ]; omega⟩
  · rintro ⟨_, k, e⟩
    cases k with
    | zero => simp at e; omega
    | succ k => exact ⟨by omega, k, by rw [Nat.pow_succ] at e; omega⟩
theorem powB_and {n : Int} (h : 0 < n) : powB n = ((n.toNat &&& (n.toNat - 1)) == 0) := by
  rw [Bool.eq_iff_iff, powB_iff, beq_iff_eq, Nat.and_sub_one_eq_zero_iff_isPowerOfTwo (by omega)]
  constructor
  · rintro ⟨_, k, e⟩; exact ⟨k, e⟩
  · rintro ⟨k, e⟩; exact ⟨h, k, e⟩
/-! ### aligning -/
def upTo (n b : Int) : Int := (n + b - 1) / b * b
def alignB (n b : Int) : Bool := decide (0 ≤ n) && powB b && fitB (upTo n b)
def alignV (n b : Int) : Int := if alignB n b = true then upTo n b else 0
theorem alignV_no {n b : Int} (h : alignB n b = false) : alignV n b = 0 := by unfold alignV; rw [h]; rfl
theorem alignV_yes {n b : Int} (h : alignB n b = true) : alignV n b = upTo n b := by unfold alignV; rw [if_pos h]
theorem upTo_law {n b : Int} (hb : 0 < b) : upTo n b % b = 0 ∧ n ≤ upTo n b ∧ upTo n b < n + b := by
  unfold upTo
  have hd := Int.mul_ediv_add_emod (n + b - 1) b
  have h0 := Int.emod_nonneg (n + b - 1) (b := b) (by omega)
  have h1 := Int.emod_lt_of_pos (n + b - 1) (b := b) hb
  refine ⟨Int.mul_emod_left _ _, ?_, ?_⟩
  · rw [Int.mul_comm]; omega
  · rw [Int.mul_comm]; omega
theorem upTo_same {n b : Int} (hb : 0 < b) (h : n % b = 0) : upTo n b = n := by
  unfold upTo
  have hd := Int.mul_ediv_add_emod n b
  have e : (n + b - 1) / b = n / b := by
    rw [Int.ediv_eq_iff_of_pos hb]
    have k : n / b * b = b * (n / b) := Int.mul_comm _ _
    rw [k]; omega
  rw [e, Int.mul_comm]; omega
theorem upTo_more {n b : Int} (hb : 0 < b) (h : n % b ≠ 0) : upTo n b = n + (b - n % b) := by
  unfold upTo
  have hd := Int.mul_ediv_add_emod n b
  have h0 := Int.emod_nonneg n (b := b) (by omega)
  have h1 := Int.emod_lt_of_pos n (b := b) hb
  have e : (n + b - 1) / b = n / b + 1 := by
    rw [Int.ediv_eq_iff_of_pos hb]
    have k : (n / b + 1) * b = b * (n / b) + b := by rw [Int.add_mul, Int.one_mul, Int.mul_comm]
    rw [k]; omega
  rw [e, Int.add_mul, Int.one_mul, Int.mul_comm]; omega
theorem pow_bound {b : Int} (h : powB b = true) (h' : b ≤ 9223372036854775807) : ∃ c : Int, 9223372036854775808 = c * b := by
  obtain ⟨h0, k, e⟩ := powB_iff.1 h
  have hk : k < 63 := by
    rcases Nat.lt_or_ge k 63 with h | h
    · exact h
    · have : 2 ^ 63 ≤ 2 ^ k := Nat.pow_le_pow_right (by omega) h
      omega
  refine ⟨((2 ^ (63 - k) : Nat) : Int), ?_⟩
  have eb : b = ((2 ^ k : Nat) : Int) := by omega
  rw [eb, ← Int.natCast_mul, ← Nat.pow_add, Nat.sub_add_cancel (by omega)]
  decide
/-- where the sum of n and b - 1 does not fit, neither does the multiple. -/
theorem upTo_big {n b : Int} (hb : powB b = true) (h' : b ≤ 9223372036854775807) (h : 9223372036854775807 < n + (b - 1)) : fitB (upTo n b) = false := by
  obtain ⟨c, hc⟩ := pow_bound hb h'
  have h0 := (powB_iff.1 hb).1
  apply fitB_no
  right
  unfold upTo
  have : c ≤ (n + b - 1) / b := (Int.le_ediv_iff_mul_le h0).2 (by omega)
  have := Int.mul_le_mul_of_nonneg_right this (Int.le_of_lt h0)
  omega
theorem upTo_fits {n b : Int} (hn : 0 ≤ n) (hb : 0 < b) (h : n + (b - 1) ≤ 9223372036854775807) : fitB (upTo n b) = true := by
  have := upTo_law (n := n) hb
  exact fitB_yes (by omega) (by omega)
/-- what an answer of Align is: a multiple, no less than n, less than by beyond, and aligned already. -/
theorem align_facts {n b : Int} (hb' : b ≤ 9223372036854775807) (h : alignB n b = true) :
    ∃ v : Int, alignV n b = v ∧ 0 ≤ v ∧ v ≤ 9223372036854775807 ∧ (v % b == 0) = true ∧ 0 ≤ v - n ∧ v - n < b ∧ 0 < b ∧ alignB v b = true ∧ alignV v b = v := by
  have hv := alignV_yes h
  unfold alignB at h
  simp only [Bool.and_eq_true, decide_eq_true_iff] at h
  obtain ⟨⟨h0, hp⟩, hf⟩ := h
  have hb0 := (powB_iff.1 hp).1
  obtain ⟨l1, l2, l3⟩ := upTo_law (n := n) hb0
  obtain ⟨f1, f2⟩ := fitB_iff.1 hf
  have hs : upTo (upTo n b) b = upTo n b := upTo_same hb0 l1
  have hB : alignB (upTo n b) b = true := by unfold alignB; rw [decide_eq_true (by omega), hp, hs, hf]; rfl
  refine ⟨upTo n b, hv, by omega, f2, by rw [l1]; rfl, by omega, by omega, hb0, hB, ?_⟩
  rw [alignV_yes hB, hs]

/-! ### the model's bit operations on ints -/
theorem bv64 {s : Int} (h0 : 0 ≤ s) (h : s ≤ 9223372036854775807) : (BitVec.ofInt 64 s).toNat = s.toNat := by
  simp only [BitVec.toNat_ofInt]; omega
theorem xor_i64 {s : Int} (h0 : -9223372036854775808 ≤ s) (h : s ≤ 9223372036854775807) : bits .xor .i64 (-1) s = -1 - s := by
  unfold bits
  rw [IntKind.wrap_i64]
  have e : ((BitVec.ofInt IntKind.i64.bits (-1)) ^^^ (BitVec.ofInt IntKind.i64.bits s)).toNat = 18446744073709551615 - (s % 18446744073709551616).toNat := by
    show ((BitVec.ofInt 64 (-1)) ^^^ (BitVec.ofInt 64 s)).toNat = _
    have : BitVec.ofInt 64 (-1) = BitVec.allOnes 64 := by decide
    rw [this, BitVec.allOnes_xor, BitVec.toNat_not, BitVec.toNat_ofInt]
    omega
  simp only [e]
  omega
theorem and_i64 {a b : Int} (h0 : 0 ≤ a) (h : a ≤ 9223372036854775807) (h0' : 0 ≤ b) (h' : b ≤ 9223372036854775807) : bits .and .i64 a b = ((a.toNat &&& b.toNat : Nat) : Int) := by
  unfold bits
  have e : ((BitVec.ofInt IntKind.i64.bits a) &&& (BitVec.ofInt IntKind.i64.bits b)).toNat = a.toNat &&& b.toNat := by
    show ((BitVec.ofInt 64 a) &&& (BitVec.ofInt 64 b)).toNat = _
    rw [BitVec.toNat_and, bv64 h0 h, bv64 h0' h']
  rw [IntKind.wrap_i64]
  simp only [e]
  have : a.toNat &&& b.toNat ≤ a.toNat := Nat.and_le_left
  omega
theorem pow_i64 {n : Int} (h0 : 0 < n) (h : n ≤ 9223372036854775807) : (bits .and .i64 n (n - 1) == 0) = powB n := by
  rw [and_i64 (by omega) h (by omega) (by omega), powB_and h0, show (n - 1).toNat = n.toNat - 1 by omega, Bool.eq_iff_iff]
  simp only [beq_iff_eq]
  omega
theorem nat_andNot (x k : Nat) : x - x % 2 ^ k = x / 2 ^ k * 2 ^ k := by
  have := Nat.div_add_mod x (2 ^ k); rw [Nat.mul_comm]; omega
theorem andNot_i64 {a b : Int} (h0 : 0 ≤ a) (h : a ≤ 9223372036854775807) (hb : powB b = true) (h' : b ≤ 9223372036854775807) : bits .andNot .i64 a (b - 1) = a / b * b := by
  obtain ⟨hb0, k, e⟩ := powB_iff.1 hb
  have hk : k < 63 := by
    rcases Nat.lt_or_ge k 63 with h | h
    · exact h
    · have : 2 ^ 63 ≤ 2 ^ k := Nat.pow_le_pow_right (by omega) h
      omega
  have eb : b = ((2 ^ k : Nat) : Int) := by omega
  have ea : a = ((a.toNat : Nat) : Int) := by omega
  generalize a.toNat = x at ea
  subst ea
  have e1 : ((BitVec.ofInt IntKind.i64.bits (x : Int)) &&& ~~~(BitVec.ofInt IntKind.i64.bits (b - 1))).toNat = x / 2 ^ k * 2 ^ k := by
    show ((BitVec.ofInt 64 (x : Int)) &&& ~~~(BitVec.ofInt 64 (b - 1))).toNat = _
    have hm : (BitVec.ofInt 64 (b - 1)).toNat = 2 ^ k - 1 := by rw [bv64 (by omega) (by omega)]; omega
    have hx : (BitVec.ofInt 64 (x : Int)).toNat = x := by rw [bv64 (by omega) (by omega)]; omega
    have hx63 : x < 2 ^ 64 := by omega
    apply Nat.eq_of_testBit_eq
    intro i
    rw [BitVec.toNat_and, Nat.testBit_and, hx, BitVec.testBit_toNat, BitVec.getLsbD_not, ← BitVec.testBit_toNat, hm, Nat.testBit_two_pow_sub_one, Nat.testBit_mul_two_pow, Nat.testBit_div_two_pow]
    by_cases hi : i < k
    · simp [hi]; omega
    · have hki : k ≤ i := by omega
      simp only [hi, decide_false, Bool.not_false, Bool.and_true, hki, decide_true, Bool.true_and, Nat.sub_add_cancel hki]
      by_cases hi64 : i < 64
      · simp [hi64]
      · simp [hi64]
        exact Nat.testBit_lt_two_pow (Nat.lt_of_lt_of_le hx63 (Nat.pow_le_pow_right (by omega) (by omega)))
  unfold bits
  rw [IntKind.wrap_i64]
  simp only [e1]
  have hle := Nat.div_mul_le_self x (2 ^ k)
  have e2 : (x : Int) / b * b = ((x / 2 ^ k * 2 ^ k : Nat) : Int) := by rw [eb, ← Int.natCast_ediv, ← Int.natCast_mul]
  rw [e2]
  omega

theorem ret_pair {a b : Int} {p q : Bool} (h : a = b) (g : p = q) : Ending.returned (.tuple #[.int .i64 a, .bool p]) = .returned (.tuple #[.int .i64 b, .bool q]) := by rw [h, g]

/-! ### package num -/
def carriedV (a b s : Int) : Bool := if a < 0 ∧ b < 0 then decide (0 ≤ s) else if 0 ≤ a ∧ 0 ≤ b then decide (s < 0) else false
theorem carried_any (a b s : Int) (w : World) (h0 : -9223372036854775808 ≤ s) (h1 : s ≤ 9223372036854775807) :
    Calls Try.prog 16 #[.int .i64 a, .int .i64 b, .int .i64 s] w fun e w' => e = .returned (.bool (carriedV a b s)) ∧ w = w' := by
  by_cases ha : a < 0 <;> by_cases hb : b < 0
  all_goals
    go_enter Try.func16, Try.ntmps16
    go_wp2
    go_ret
    refine ⟨ret_bool ?_, rfl⟩
    unfold carriedV
  · rw [if_pos ⟨ha, hb⟩, xor_i64 h0 h1, Bool.eq_iff_iff]; simp only [decide_eq_true_iff]; omega
  · rw [if_neg (by omega), if_neg (by omega)]
  · rw [if_neg (by omega), if_neg (by omega)]
    try (simp; omega)
  · rw [if_neg (by omega), if_pos (by omega)]

theorem carried_is {a b s : Int} {r : Bool} (w : World) (h0 : -9223372036854775808 ≤ s) (h1 : s ≤ 9223372036854775807) (h : carriedV a b s = r) :
    Calls Try.prog 16 #[.int .i64 a, .int .i64 b, .int .i64 s] w fun e w' => e = .returned (.bool r) ∧ w = w' := by
  rw [← h]; exact carried_any a b s w h0 h1
theorem wrap_range (x : Int) : -9223372036854775808 ≤ wrap64 x ∧ wrap64 x ≤ 9223372036854775807 := by unfold wrap64; omega

theorem add_any (a b : Int) (w : World) (ha : -9223372036854775808 ≤ a) (ha' : a ≤ 9223372036854775807) (hb : -9223372036854775808 ≤ b) (hb' : b ≤ 9223372036854775807) :
    Calls Try.prog 11 #[.int .i64 a, .int .i64 b] w fun e w' => e = .returned (.tuple #[.int .i64 (fitV (a + b)), .bool (fitB (a + b))]) ∧ w = w' := by
  by_cases hf : fitB (a + b) = true
  · have hv := fitV_yes hf
    rw [hv, hf]
    clear hv
    obtain ⟨h0, h1⟩ := fitB_iff.1 hf
    clear hf
    go_enter Try.func11, Try.ntmps11
    go_wp2_with (go_at_call 16; refine (carried_is (r := false) _ (by omega) (by omega) (by unfold carriedV; split <;> (try split) <;> simp <;> omega)).mono ?_; rintro e w' ⟨rfl, rfl⟩)
    go_ret2
    exact ⟨rfl, rfl⟩
  · have hf' : fitB (a + b) = false := by simpa using hf
    have hv := fitV_no hf'
    rw [hv, hf']
    have hn : ¬ (-9223372036854775808 ≤ a + b ∧ a + b ≤ 9223372036854775807) := fun h => hf (fitB_iff.2 h)
    clear hv hf hf'
    go_enter Try.func11, Try.ntmps11
    go_wp2_with (go_at_call 16; refine (carried_is (r := true) _ (wrap_range _).1 (wrap_range _).2 (by unfold carriedV wrap64; split <;> (try split) <;> simp <;> omega)).mono ?_; rintro e w' ⟨rfl, rfl⟩)
    go_ret2
    exact ⟨rfl, rfl⟩
theorem radd_any (a b : Int) (w : World) (ha : -9223372036854775808 ≤ a) (ha' : a ≤ 9223372036854775807) (hb : -9223372036854775808 ≤ b) (hb' : b ≤ 9223372036854775807) :
    Calls Try.prog 15 #[.int .i64 a, .int .i64 b] w fun e w' => e = .returned (.tuple #[.int .i64 (fitV (a + b)), .bool (fitB (a + b))]) ∧ w = w' := by
  by_cases hf : fitB (a + b) = true
  · have hv := fitV_yes hf
    rw [hv, hf]
    clear hv
    obtain ⟨h0, h1⟩ := fitB_iff.1 hf
    clear hf
    have h3 : b < 0 ∨ (0 ≤ b ∧ b ≤ 0) ∨ 0 < b := by omega
    rcases h3 with hb1 | ⟨hb1, hb2⟩ | hb1
    all_goals
      go_enter Try.func15, Try.ntmps15
      go_wp2
      go_ret2
      exact ⟨rfl, rfl⟩
  · have hf' : fitB (a + b) = false := by simpa using hf
    have hv := fitV_no hf'
    rw [hv, hf']
    have hn : ¬ (-9223372036854775808 ≤ a + b ∧ a + b ≤ 9223372036854775807) := fun h => hf (fitB_iff.2 h)
    clear hv hf hf'
    have h3 : (b < 0 ∧ a < -9223372036854775808 - b) ∨ (0 < b ∧ 9223372036854775807 - b < a) := by omega
    clear hn
    rcases h3 with ⟨hb1, hb2⟩ | ⟨hb1, hb2⟩
    all_goals
      go_enter Try.func15, Try.ntmps15
      go_wp2
      go_ret2
      exact ⟨rfl, rfl⟩
theorem power_any (n : Int) (w : World) (h' : n ≤ 9223372036854775807) :
    Calls Try.prog 12 #[.int .i64 n] w fun e w' => e = .returned (.bool (powB n)) ∧ w = w' := by
  by_cases h : 0 < n
  · have hp := pow_i64 h h'
    go_enter Try.func12, Try.ntmps12
    go_wp2
    go_ret
    exact ⟨rfl, rfl⟩
  · rw [powB_no (by omega)]
    go_enter Try.func12, Try.ntmps12
    go_wp2
    go_ret
    exact ⟨rfl, rfl⟩
theorem rpower_any (n : Int) (w : World) (h' : n ≤ 9223372036854775807) :
    Calls Try.prog 13 #[.int .i64 n] w fun e w' => e = .returned (.bool (powB n)) ∧ w = w' := by
  by_cases h1 : n < 1
  · rw [powB_no h1]
    go_enter Try.func13, Try.ntmps13
    go_wp2
    go_ret
    exact ⟨rfl, rfl⟩
  · have h2 : 1 ≤ n := by omega
    clear h1
    go_enter Try.func13, Try.ntmps13
    go_wp2
    go_loop [0] (fun x => ∃ m : Int, 1 ≤ m ∧ m ≤ 9223372036854775807 ∧ Hid (powB m = powB n) ∧ x = .int .i64 m) (fun x => (intOf x).toNat)
    case atStart => exact ⟨n, h2, h', Lib.hid rfl, rfl⟩
    case round =>
      obtain ⟨m, hm0, hm, hr, rfl⟩ := hrel
      by_cases hp : 1 < m
      · by_cases ho : m % 2 = 1
        · have hh : false = powB n := by rw [← hr.out]; exact (powB_odd hp ho).symm
          have ho' : (m % 2 == 1) = true := beq_iff_eq.2 ho
          have HH := Lib.hid hh
          clear ho hh hr
          go_wp2
          go_ret
          exact ⟨ret_bool HH.out, rfl⟩
        · have ho' : (m % 2 == 1) = false := beq_eq_false_iff_ne.2 ho
          have hh : Hid (powB (m / 2) = powB n) := Lib.hid (by rw [powB_half hp (by omega)]; exact hr.out)
          clear ho hr
          go_wp2
          go_round
          case rel => exact ⟨m / 2, by omega, by omega, hh, rfl⟩
          case measure => simp [intOf]; omega
      · have hh : true = powB n := by
          have e : m = 1 := by omega
          rw [← hr.out, e]; exact powB_one.symm
        have HH := Lib.hid hh
        clear hh hr
        go_wp2
        go_ret
        exact ⟨ret_bool HH.out, rfl⟩
theorem power_is {n : Int} {r : Bool} (w : World) (h' : n ≤ 9223372036854775807) (h : powB n = r) :
    Calls Try.prog 12 #[.int .i64 n] w fun e w' => e = .returned (.bool r) ∧ w = w' := by
  rw [← h]; exact power_any n w h'
theorem rpower_is {n : Int} {r : Bool} (w : World) (h' : n ≤ 9223372036854775807) (h : powB n = r) :
    Calls Try.prog 13 #[.int .i64 n] w fun e w' => e = .returned (.bool r) ∧ w = w' := by
  rw [← h]; exact rpower_any n w h'
theorem add_is {a b v : Int} {r : Bool} (w : World) (ha : -9223372036854775808 ≤ a) (ha' : a ≤ 9223372036854775807) (hb : -9223372036854775808 ≤ b) (hb' : b ≤ 9223372036854775807)
    (h1 : fitV (a + b) = v) (h2 : fitB (a + b) = r) :
    Calls Try.prog 11 #[.int .i64 a, .int .i64 b] w fun e w' => e = .returned (.tuple #[.int .i64 v, .bool r]) ∧ w = w' := by
  rw [← h1, ← h2]; exact add_any a b w ha ha' hb hb'
theorem radd_is {a b v : Int} {r : Bool} (w : World) (ha : -9223372036854775808 ≤ a) (ha' : a ≤ 9223372036854775807) (hb : -9223372036854775808 ≤ b) (hb' : b ≤ 9223372036854775807)
    (h1 : fitV (a + b) = v) (h2 : fitB (a + b) = r) :
    Calls Try.prog 15 #[.int .i64 a, .int .i64 b] w fun e w' => e = .returned (.tuple #[.int .i64 v, .bool r]) ∧ w = w' := by
  rw [← h1, ← h2]; exact radd_any a b w ha ha' hb hb'
theorem align_any (n b : Int) (w : World) (hn' : n ≤ 9223372036854775807) (hb' : b ≤ 9223372036854775807) :
    Calls Try.prog 10 #[.int .i64 n, .int .i64 b] w fun e w' => e = .returned (.tuple #[.int .i64 (alignV n b), .bool (alignB n b)]) ∧ w = w' := by
  by_cases hn : n < 0
  · have e : alignB n b = false := by unfold alignB; rw [decide_eq_false (by omega)]; rfl
    rw [alignV_no e, e]
    clear e
    go_enter Try.func10, Try.ntmps10
    go_wp2_with fail
    go_ret2
    exact ⟨rfl, rfl⟩
  · have hn0 : 0 ≤ n := by omega
    clear hn
    by_cases hp : powB b = true
    · have hb0 : 0 < b := (powB_iff.1 hp).1
      by_cases hs : n + (b - 1) ≤ 9223372036854775807
      · have hf := upTo_fits hn0 hb0 hs
        have e : alignB n b = true := by unfold alignB; rw [decide_eq_true hn0, hp, hf]; rfl
        rw [alignV_yes e, e]
        have ha := andNot_i64 (a := n + (b - 1)) (by omega) hs hp hb'
        have eu : (n + (b - 1)) / b * b = upTo n b := by unfold upTo; rw [show n + (b - 1) = n + b - 1 by omega]
        rw [eu] at ha
        have f1 : fitB (n + (b - 1)) = true := fitB_yes (by omega) hs
        have f2 := fitV_yes f1
        have HP := Lib.hid hp
        have F1 := Lib.hid f1
        have F2 := Lib.hid f2
        clear hf e eu f1 f2 hp
        go_enter Try.func10, Try.ntmps10
        go_wp2_with (first
          | (go_at_call 12; refine (power_is _ (by omega) HP.out).mono ?_; rintro e w' ⟨rfl, rfl⟩)
          | (go_at_call 11; refine (add_is _ (by omega) (by omega) (by omega) (by omega) F2.out F1.out).mono ?_; rintro e w' ⟨rfl, rfl⟩))
        go_ret2
        exact ⟨rfl, rfl⟩
      · have hf := upTo_big (n := n) hp hb' (by omega)
        have e : alignB n b = false := by unfold alignB; rw [hf]; simp
        rw [alignV_no e, e]
        have f1 : fitB (n + (b - 1)) = false := fitB_no (by omega)
        have f2 := fitV_no f1
        have HP := Lib.hid hp
        have F1 := Lib.hid f1
        have F2 := Lib.hid f2
        clear hf e f1 f2 hp
        go_enter Try.func10, Try.ntmps10
        go_wp2_with (first
          | (go_at_call 12; refine (power_is _ (by omega) HP.out).mono ?_; rintro e w' ⟨rfl, rfl⟩)
          | (go_at_call 11; refine (add_is _ (by omega) (by omega) (by omega) (by omega) F2.out F1.out).mono ?_; rintro e w' ⟨rfl, rfl⟩))
        go_ret2
        exact ⟨rfl, rfl⟩
    · have hp' : powB b = false := by simpa using hp
      have e : alignB n b = false := by unfold alignB; rw [hp']; simp
      rw [alignV_no e, e]
      have HP := Lib.hid hp'
      clear e hp hp'
      go_enter Try.func10, Try.ntmps10
      go_wp2_with (go_at_call 12; refine (power_is _ (by omega) HP.out).mono ?_; rintro e w' ⟨rfl, rfl⟩)
      go_ret2
      exact ⟨rfl, rfl⟩
theorem ralign_any (n b : Int) (w : World) (hn' : n ≤ 9223372036854775807) (hb' : b ≤ 9223372036854775807) :
    Calls Try.prog 14 #[.int .i64 n, .int .i64 b] w fun e w' => e = .returned (.tuple #[.int .i64 (alignV n b), .bool (alignB n b)]) ∧ w = w' := by
  by_cases hn : n < 0
  · have e : alignB n b = false := by unfold alignB; rw [decide_eq_false (by omega)]; rfl
    rw [alignV_no e, e]
    clear e
    go_enter Try.func14, Try.ntmps14
    go_wp2_with fail
    go_ret2
    exact ⟨rfl, rfl⟩
  · have hn0 : 0 ≤ n := by omega
    clear hn
    by_cases hp : powB b = true
    · have hb0 : 0 < b := (powB_iff.1 hp).1
      have h0 := Int.emod_nonneg n (b := b) (by omega)
      have h1 := Int.emod_lt_of_pos n (b := b) hb0
      by_cases hz : n % b = 0
      · have eu := upTo_same hb0 hz
        have e : alignB n b = true := by unfold alignB; rw [decide_eq_true hn0, hp, eu, fitB_yes (by omega) hn']; rfl
        rw [alignV_yes e, e, eu]
        have HP := Lib.hid hp
        clear e eu hp h0 h1
        go_enter Try.func14, Try.ntmps14
        go_wp2_with (go_at_call 13; refine (rpower_is _ (by omega) HP.out).mono ?_; rintro e w' ⟨rfl, rfl⟩)
        go_ret2
        exact ⟨rfl, rfl⟩
      · have eu := upTo_more hb0 hz
        have f1 : fitB (n + (b - n % b)) = alignB n b := by unfold alignB; rw [decide_eq_true hn0, hp, eu]; rfl
        have f2 : fitV (n + (b - n % b)) = alignV n b := by unfold fitV alignV; rw [f1, eu]
        have hz' : (n % b == 0) = false := beq_eq_false_iff_ne.2 hz
        have HP := Lib.hid hp
        have F1 := Lib.hid f1
        have F2 := Lib.hid f2
        clear eu f1 f2 hp hz
        go_enter Try.func14, Try.ntmps14
        go_wp2_with (first
          | (go_at_call 13; refine (rpower_is _ (by omega) HP.out).mono ?_; rintro e w' ⟨rfl, rfl⟩)
          | (go_at_call 15; refine (radd_is _ (by omega) (by omega) (by omega) (by omega) F2.out F1.out).mono ?_; rintro e w' ⟨rfl, rfl⟩))
        go_ret2
        exact ⟨rfl, rfl⟩
    · have hp' : powB b = false := by simpa using hp
      have e : alignB n b = false := by unfold alignB; rw [hp']; simp
      rw [alignV_no e, e]
      have HP := Lib.hid hp'
      clear e hp hp'
      go_enter Try.func14, Try.ntmps14
      go_wp2_with (go_at_call 13; refine (rpower_is _ (by omega) HP.out).mono ?_; rintro e w' ⟨rfl, rfl⟩)
      go_ret2
      exact ⟨rfl, rfl⟩
theorem align_is {a b v : Int} {r : Bool} (w : World) (ha' : a ≤ 9223372036854775807) (hb' : b ≤ 9223372036854775807) (h1 : alignV a b = v) (h2 : alignB a b = r) :
    Calls Try.prog 10 #[.int .i64 a, .int .i64 b] w fun e w' => e = .returned (.tuple #[.int .i64 v, .bool r]) ∧ w = w' := by
  rw [← h1, ← h2]; exact align_any a b w ha' hb'
theorem ralign_is {a b v : Int} {r : Bool} (w : World) (ha' : a ≤ 9223372036854775807) (hb' : b ≤ 9223372036854775807) (h1 : alignV a b = v) (h2 : alignB a b = r) :
    Calls Try.prog 14 #[.int .i64 a, .int .i64 b] w fun e w' => e = .returned (.tuple #[.int .i64 v, .bool r]) ∧ w = w' := by
  rw [← h1, ← h2]; exact ralign_any a b w ha' hb'
end Go.Proofs.Ytphpcfimooccdaa
