/- Layer 13 (mark): plain mathematics: the mark of numbers, byte by byte; of numbers part by part; the document's xor out of an or, an and, a difference. -/
import Derived.Test.YtfclnahpgbpjbaaBase
import Derived.Laws.BitsAllLaws
namespace Go.Proofs.Ytfclnahpgbpjbaa

/-- A byte more. -/
def stepM (h b : Nat) : Nat := (h ^^^ b) * 1099511628211 % 18446744073709551616
/-- So many bytes more, of the number n, the lowest first. -/
def bytesM : Nat → Nat → Nat → Nat
  | 0, h, _ => h
  | k + 1, h, n => bytesM k (stepM h (n % 256)) (n / 256)
/-- A number modulo 2^64. -/
def u64M (x : Int) : Nat := (x % 18446744073709551616).toNat
/-- A number more. -/
def numM (h : Nat) (x : Int) : Nat := bytesM 8 h (u64M x)
/-- Numbers more. -/
def marksM : Nat → List Int → Nat
  | h, [] => h
  | h, x :: r => marksM (numM h x) r
/-- The mark of numbers, ahead of what is left of it. -/
abbrev firstM : Nat := 14695981039346656037
/-- What is told. -/
def toldM (h : Nat) : Nat := h % 9223372036854775808
theorem marks_append (h : Nat) (l m : List Int) : marksM h (l ++ m) = marksM (marksM h l) m := by
  induction l generalizing h with
  | nil => rfl
  | cons x r ih => exact ih _
theorem marks_one (h : Nat) (x : Int) : marksM h [x] = numM h x := rfl
theorem step_lt (h b : Nat) : stepM h b < 18446744073709551616 := Nat.mod_lt _ (by omega)
theorem bytes_lt (k : Nat) {h : Nat} (n : Nat) (hh : h < 18446744073709551616) : bytesM k h n < 18446744073709551616 := by
  induction k generalizing h n with
  | zero => exact hh
  | succ k ih => exact ih _ (step_lt _ _)
theorem num_lt {h : Nat} (x : Int) (hh : h < 18446744073709551616) : numM h x < 18446744073709551616 := bytes_lt _ _ hh
theorem marks_lt {h : Nat} (l : List Int) (hh : h < 18446744073709551616) : marksM h l < 18446744073709551616 := by
  induction l generalizing h with
  | nil => exact hh
  | cons x r ih => exact ih (num_lt x hh)
theorem u64_lt (x : Int) : u64M x < 18446744073709551616 := by unfold u64M; omega
theorem u64_wrap (x : Int) : IntKind.u64.wrap x = (u64M x : Int) := by
  have : IntKind.u64.wrap x = x % 18446744073709551616 := by simp [IntKind.wrap, IntKind.bits, IntKind.signed]
  rw [this]
  unfold u64M
  omega
theorem told_lt (h : Nat) : toldM h < 9223372036854775808 := Nat.mod_lt _ (by omega)
theorem told_wrap (h : Nat) : IntKind.i64.wrap ((h : Int) % 9223372036854775808) = (toldM h : Int) := by
  have := told_lt h
  rw [show ((h : Int) % 9223372036854775808) = (toldM h : Int) by unfold toldM; omega]
  exact IntWalk.i64_in _ (by omega)
/-- An or less an and: an xor. -/
theorem or_and_xor (a b : Nat) : (a ^^^ b) + (a &&& b) = a ||| b := by
  induction a using Nat.strongRecOn generalizing b with
  | ind a ih =>
    by_cases h0 : a = 0
    · subst h0; simp
    · have e := ih (a / 2) (by omega) (b / 2)
      have e1 := Nat.div_add_mod (a ^^^ b) 2
      have e2 := Nat.div_add_mod (a &&& b) 2
      have e3 := Nat.div_add_mod (a ||| b) 2
      rw [Nat.xor_div_two] at e1
      rw [Nat.and_div_two] at e2
      rw [Nat.or_div_two] at e3
      have m1 := Nat.xor_mod_two_pow (a := a) (b := b) (n := 1)
      have m2 := Nat.and_mod_two_pow (a := a) (b := b) (n := 1)
      have m3 := Nat.or_mod_two_pow (a := a) (b := b) (n := 1)
      simp only [Nat.pow_one] at m1 m2 m3
      have key : ((a % 2) ^^^ (b % 2)) + ((a % 2) &&& (b % 2)) = ((a % 2) ||| (b % 2)) := by
        rcases Nat.mod_two_eq_zero_or_one a with x | x <;> rcases Nat.mod_two_eq_zero_or_one b with y | y <;> rw [x, y] <;> rfl
      omega
theorem xor_of (h b : Nat) (hh : h < 18446744073709551616) (hb : b < 18446744073709551616) : IntKind.u64.wrap (bits .or .u64 (h : Int) (b : Int) - bits .and .u64 (h : Int) (b : Int)) = ((h ^^^ b : Nat) : Int) := by
  rw [u64_or_nat h b hh hb, u64_and_nat h b hh hb, u64_wrap]
  have e := or_and_xor h b
  have e2 : h ||| b < 18446744073709551616 := Nat.or_lt_two_pow (n := 64) hh hb
  unfold u64M
  omega
theorem mul_wrap (x : Nat) : IntKind.u64.wrap ((x : Int) * 1099511628211) = ((x * 1099511628211 % 18446744073709551616 : Nat) : Int) := by
  have e : (x : Int) * 1099511628211 = ((x * 1099511628211 : Nat) : Int) := (Int.natCast_mul x 1099511628211).symm
  rw [e, u64_wrap]
  generalize x * 1099511628211 = y
  unfold u64M
  omega
theorem step_wrap (h b : Nat) : IntKind.u64.wrap (((h ^^^ b : Nat) : Int) * 1099511628211) = (stepM h b : Int) := mul_wrap _
end Go.Proofs.Ytfclnahpgbpjbaa
