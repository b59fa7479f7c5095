/- What the document's own Mul (copyholdref01) returns: the product, if it fits. -/
import Derived.Test.YtljblafomncjnaaNumCalls
namespace Go.Proofs.Ytljblafomncjnaa
open Go.RowKit
/-- the test 'is it undone by dividing?', asked of the product that wraps. -/
theorem rmul_test (a b : Int) (ha : -9223372036854775808 ≤ a) (ha' : a ≤ 9223372036854775807) (hb : -9223372036854775808 ≤ b) (hb' : b ≤ 9223372036854775807)
    (hb0 : b ≠ 0) (h1 : ¬ (a = -9223372036854775808 ∧ b = -1)) : (wrap64 ((wrap64 (a * b)).tdiv b) != a) = !fitB (a * b) := by
  by_cases hf : fitB (a * b) = true
  · rw [hf, IntWalk.wrap64_in _ (fitB_iff.1 hf), Int.mul_tdiv_cancel _ hb0, IntWalk.wrap64_in _ ⟨ha, ha'⟩]
    simp
  · have hn : ¬ (-9223372036854775808 ≤ a * b ∧ a * b ≤ 9223372036854775807) := fun h => hf (fitB_iff.2 h)
    have hf' : fitB (a * b) = false := by simpa using hf
    rw [hf', Bool.not_false, bne_iff_ne]
    clear hf hf'
    intro he
    obtain ⟨p0, p1⟩ := wrap_range (a * b)
    have hk : ∃ k : Int, wrap64 (a * b) = a * b - 18446744073709551616 * k := by
      unfold wrap64; exact ⟨(a * b + 9223372036854775808) / 18446744073709551616, by omega⟩
    generalize wrap64 (a * b) = p at *
    obtain ⟨k, hk⟩ := hk
    have hd := Int.mul_tdiv_add_tmod p b
    have hr : (p.tmod b).natAbs < b.natAbs := by rw [Int.natAbs_tmod]; exact Nat.mod_lt _ (by omega)
    have hq : (p.tdiv b).natAbs ≤ p.natAbs := Int.natAbs_tdiv_le_natAbs p b
    generalize hqq : p.tdiv b = q at *
    generalize p.tmod b = r at *
    by_cases hbig : q = 9223372036854775808
    · have hw : wrap64 q = -9223372036854775808 := by rw [hbig]; unfold wrap64; decide
      have ea : a = -9223372036854775808 := by rw [← he, hw]
      rw [hbig] at hd
      have : b = -1 := by omega
      exact h1 ⟨ea, this⟩
    · have hw : wrap64 q = q := IntWalk.wrap64_in _ (by omega)
      have ea : q = a := by rw [← he, hw]
      rw [ea, Int.mul_comm] at hd
      generalize a * b = m at *
      omega
theorem rmul_zero (a b : Int) (w : World) (h : a = 0 ∨ b = 0) :
    Calls Try.prog 12 #[.int .i64 a, .int .i64 b] w fun e w' => e = .returned (.tuple #[.int .i64 (fitV (a * b)), .bool (fitB (a * b))]) ∧ w = w' := by
  have e : a * b = 0 := by rcases h with rfl | rfl <;> simp
  have hv : fitV 0 = 0 := by decide
  have hf : fitB 0 = true := by decide
  rw [e, hv, hf]
  clear hv hf e
  rcases h with rfl | rfl
  · go_enter Try.func12, Try.ntmps12
    go_wp2
    go_ret2
    exact ⟨rfl, rfl⟩
  · by_cases ha : a = 0
    · subst ha
      go_enter Try.func12, Try.ntmps12
      go_wp2
      go_ret2
      exact ⟨rfl, rfl⟩
    · have ha0 : (a == 0) = false := beq_eq_false_iff_ne.2 ha
      clear ha
      go_enter Try.func12, Try.ntmps12
      go_wp2
      go_ret2
      exact ⟨rfl, rfl⟩
theorem rmul_mid (a b : Int) (w : World) (ha : -9223372036854775808 ≤ a) (ha' : a ≤ 9223372036854775807) (hb : -9223372036854775808 ≤ b) (hb' : b ≤ 9223372036854775807)
    (hza : a ≠ 0) (hzb : b ≠ 0) (h1 : ¬ (a = -9223372036854775808 ∧ b = -1)) (h2 : ¬ (b = -9223372036854775808 ∧ a = -1)) :
    Calls Try.prog 12 #[.int .i64 a, .int .i64 b] w fun e w' => e = .returned (.tuple #[.int .i64 (fitV (a * b)), .bool (fitB (a * b))]) ∧ w = w' := by
  have ht := rmul_test a b ha ha' hb hb' hzb h1
  have ha0 : (a == 0) = false := beq_eq_false_iff_ne.2 hza
  have hb0 : (b == 0) = false := beq_eq_false_iff_ne.2 hzb
  have m1 : (a == -1 && b == -9223372036854775808) = false := by simp; omega
  have m2 : (b == -1 && a == -9223372036854775808) = false := by simp; omega
  have hv : (if fitB (a * b) = true then wrap64 (a * b) else 0) = fitV (a * b) := by
    unfold fitV
    split
    · rename_i h; exact IntWalk.wrap64_in _ (fitB_iff.1 h)
    · rfl
  generalize fitB (a * b) = f at *
  have HV := Lib.hid hv
  clear hv hza h1 h2
  cases f
  all_goals
    have i1 : (a == -1) = false ∨ ((a == -1) = true ∧ (b == -9223372036854775808) = false) := by
      cases ea : (a == -1)
      · exact .inl rfl
      · rw [ea] at m1; exact .inr ⟨rfl, by simpa using m1⟩
    have i2 : (b == -1) = false ∨ ((b == -1) = true ∧ (a == -9223372036854775808) = false) := by
      cases eb : (b == -1)
      · exact .inl rfl
      · rw [eb] at m2; exact .inr ⟨rfl, by simpa using m2⟩
    clear m1 m2
    rcases i1 with i1 | ⟨i1, j1⟩ <;> rcases i2 with i2 | ⟨i2, j2⟩
    all_goals
      go_enter Try.func12, Try.ntmps12
      go_wp2
      go_ret2
      exact ⟨ret_pair (by exact HV.out) rfl, rfl⟩
theorem rmul_least (a b : Int) (w : World) (h : (a = -9223372036854775808 ∧ b = -1) ∨ (b = -9223372036854775808 ∧ a = -1)) :
    Calls Try.prog 12 #[.int .i64 a, .int .i64 b] w fun e w' => e = .returned (.tuple #[.int .i64 (fitV (a * b)), .bool (fitB (a * b))]) ∧ w = w' := by
  have e : a * b = 9223372036854775808 := by rcases h with ⟨rfl, rfl⟩ | ⟨rfl, rfl⟩ <;> decide
  have hf : fitB 9223372036854775808 = false := fitB_no (by omega)
  have hv : fitV 9223372036854775808 = 0 := fitV_no hf
  rw [e, hv, hf]
  clear hv hf e
  rcases h with ⟨rfl, rfl⟩ | ⟨rfl, rfl⟩
  all_goals
    go_enter Try.func12, Try.ntmps12
    go_wp2
    go_ret2
    exact ⟨rfl, rfl⟩
theorem rmul_any (a b : Int) (w : World) (ha : -9223372036854775808 ≤ a) (ha' : a ≤ 9223372036854775807) (hb : -9223372036854775808 ≤ b) (hb' : b ≤ 9223372036854775807) :
    Calls Try.prog 12 #[.int .i64 a, .int .i64 b] w fun e w' => e = .returned (.tuple #[.int .i64 (fitV (a * b)), .bool (fitB (a * b))]) ∧ w = w' := by
  by_cases h0 : a = 0 ∨ b = 0
  · exact rmul_zero a b w h0
  · by_cases hm : (a = -9223372036854775808 ∧ b = -1) ∨ (b = -9223372036854775808 ∧ a = -1)
    · exact rmul_least a b w hm
    · exact rmul_mid a b w ha ha' hb hb' (by omega) (by omega) (by omega) (by omega)
end Go.Proofs.Ytljblafomncjnaa
