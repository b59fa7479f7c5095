/- What num.Mul and the document's own Mul return: the product, if it fits. -/
import Derived.Test.YtljblafomncjnaaNumCalls
namespace Go.Proofs.Ytljblafomncjnaa
open Go.RowKit
def hiV (x y : Nat) : Int := ((x * y / 18446744073709551616 : Nat) : Int)
def loV (x y : Nat) : Int := ((x * y % 18446744073709551616 : Nat) : Int)
theorem mul64_of (x y : Nat) (w : World) (hx : x < 18446744073709551616) (hy : y < 18446744073709551616) :
    Calls Try.prog 23 #[.int .u64 x, .int .u64 y] w fun e w' => e = .returned (.tuple #[.int .u64 (hiV x y), .int .u64 (loV x y)]) ∧ w = w' :=
  (Try.bits_Mul64 x y hx hy w).mono fun _ _ ⟨h, h'⟩ => ⟨h, h'.symm⟩
/-- the sign of a product, and its size. -/
theorem mul_abs (a b : Int) : ((a < 0 ∧ b < 0 ∨ 0 ≤ a ∧ 0 ≤ b) → a * b = ((a.natAbs * b.natAbs : Nat) : Int)) ∧ ((a < 0 ∧ 0 ≤ b ∨ 0 ≤ a ∧ b < 0) → a * b = -((a.natAbs * b.natAbs : Nat) : Int)) := by
  have h := Int.natAbs_mul a b
  constructor
  · rintro (⟨h1, h2⟩ | ⟨h1, h2⟩)
    · have : 0 ≤ a * b := Int.mul_nonneg_of_nonpos_of_nonpos (by omega) (by omega)
      omega
    · have : 0 ≤ a * b := Int.mul_nonneg h1 h2
      omega
  · rintro (⟨h1, h2⟩ | ⟨h1, h2⟩)
    · have : a * b ≤ 0 := Int.mul_nonpos_of_nonpos_of_nonneg (by omega) h2
      omega
    · have : a * b ≤ 0 := Int.mul_nonpos_of_nonneg_of_nonpos h1 (by omega)
      omega
theorem hilo (x y : Nat) : 0 ≤ hiV x y ∧ 0 ≤ loV x y ∧ loV x y < 18446744073709551616 ∧ hiV x y * 18446744073709551616 + loV x y = ((x * y : Nat) : Int) := by
  unfold hiV loV; omega
theorem mul_any (a b : Int) (w : World) (ha : -9223372036854775808 ≤ a) (ha' : a ≤ 9223372036854775807) (hb : -9223372036854775808 ≤ b) (hb' : b ≤ 9223372036854775807) :
    Calls Try.prog 9 #[.int .i64 a, .int .i64 b] w fun e w' => e = .returned (.tuple #[.int .i64 (fitV (a * b)), .bool (fitB (a * b))]) ∧ w = w' := by
  obtain ⟨hp, hm⟩ := mul_abs a b
  obtain ⟨k0, k1, k2, k3⟩ := hilo a.natAbs b.natAbs
  by_cases hf : fitB (a * b) = true
  · have hv := fitV_yes hf
    rw [hv, hf]
    clear hv
    obtain ⟨h0, h1⟩ := fitB_iff.1 hf
    clear hf
    have hhi : hiV a.natAbs b.natAbs ≤ 0 := by
      by_cases s : (a < 0 ∧ b < 0 ∨ 0 ≤ a ∧ 0 ≤ b)
      · have := hp s; omega
      · have := hm (by omega); omega
    by_cases hna : a < 0 <;> by_cases hnb : b < 0
    all_goals
      have hlo : loV a.natAbs b.natAbs ≤ 9223372036854775808 ∧ ((a < 0 ∧ b < 0 ∨ 0 ≤ a ∧ 0 ≤ b) → loV a.natAbs b.natAbs ≤ 9223372036854775807) := by
        constructor
        · by_cases s : (a < 0 ∧ b < 0 ∨ 0 ≤ a ∧ 0 ≤ b)
          · have := hp s; omega
          · have := hm (by omega); omega
        · intro s; have := hp s; omega
      have hlo2 := hlo.1
      first | (have hlo3 := hlo.2 (by omega)) | skip
      clear hp hm k3 hlo k2
      go_enter Try.func9, Try.ntmps9
      go_wp2_with (first
        | (go_at_call 24; refine (mag_any _ _ (by omega) (by omega)).mono ?_; rintro e w' ⟨rfl, rfl⟩)
        | (go_at_call 23; refine (mul64_of _ _ _ (by omega) (by omega)).mono ?_; rintro e w' ⟨rfl, rfl⟩))
      go_ret2
      exact ⟨rfl, rfl⟩
  · have hf' : fitB (a * b) = false := by simpa using hf
    have hv := fitV_no hf'
    rw [hv, hf']
    have hn : ¬ (-9223372036854775808 ≤ a * b ∧ a * b ≤ 9223372036854775807) := fun h => hf (fitB_iff.2 h)
    clear hv hf hf'
    by_cases hna : a < 0 <;> by_cases hnb : b < 0
    all_goals
      have hlo : 0 < hiV a.natAbs b.natAbs ∨ hiV a.natAbs b.natAbs ≤ 0 ∧ 9223372036854775807 < loV a.natAbs b.natAbs ∧ ((a < 0 ∧ 0 ≤ b ∨ 0 ≤ a ∧ b < 0) → 9223372036854775808 < loV a.natAbs b.natAbs) := by
        by_cases s : 0 < hiV a.natAbs b.natAbs
        · exact .inl s
        · right
          refine ⟨by omega, ?_, ?_⟩
          · by_cases s : (a < 0 ∧ b < 0 ∨ 0 ≤ a ∧ 0 ≤ b)
            · have := hp s; omega
            · have := hm (by omega); omega
          · intro s; have := hm s; omega
      clear hp hm k3 hn k2
      rcases hlo with hlo | ⟨hlo1, hlo2, hlo3⟩
      all_goals
        first | (have hlo4 := hlo3 (by omega)) | skip
        try clear hlo3
        go_enter Try.func9, Try.ntmps9
        go_wp2_with (first
          | (go_at_call 24; refine (mag_any _ _ (by omega) (by omega)).mono ?_; rintro e w' ⟨rfl, rfl⟩)
          | (go_at_call 23; refine (mul64_of _ _ _ (by omega) (by omega)).mono ?_; rintro e w' ⟨rfl, rfl⟩))
        go_ret2
        exact ⟨rfl, rfl⟩
end Go.Proofs.Ytljblafomncjnaa
