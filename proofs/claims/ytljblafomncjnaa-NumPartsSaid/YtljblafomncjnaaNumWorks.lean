/- The chapter's examples (copyholdlaw01.works) are met: it returns true, and leaves the world as it was. -/
import Derived.Test.YtljblafomncjnaaNumLoops
import Derived.Test.YtljblafomncjnaaNumMul
import Derived.Test.YtljblafomncjnaaNumRmul
namespace Go.Proofs.Ytljblafomncjnaa
open Go.RowKit
theorem ceil_is {a b v : Int} {r : Bool} (w : World) (ha' : a ≤ 9223372036854775807) (h1 : ceilV a b = v) (h2 : ceilB a b = r) :
    Calls Try.prog 14 #[.int .i64 a, .int .i64 b] w fun e w' => e = .returned (.tuple #[.int .i64 v, .bool r]) ∧ w = w' := by
  rw [← h1, ← h2]; exact ceil_any a b w ha'
theorem align_is {a b v : Int} {r : Bool} (w : World) (ha' : a ≤ 9223372036854775807) (hb' : b ≤ 9223372036854775807) (h1 : alignV a b = v) (h2 : alignB a b = r) :
    Calls Try.prog 20 #[.int .i64 a, .int .i64 b] w fun e w' => e = .returned (.tuple #[.int .i64 v, .bool r]) ∧ w = w' := by
  rw [← h1, ← h2]; exact align_any a b w ha' hb'
theorem ralign_is {a b v : Int} {r : Bool} (w : World) (ha' : a ≤ 9223372036854775807) (hb' : b ≤ 9223372036854775807) (h1 : alignV a b = v) (h2 : alignB a b = r) :
    Calls Try.prog 21 #[.int .i64 a, .int .i64 b] w fun e w' => e = .returned (.tuple #[.int .i64 v, .bool r]) ∧ w = w' := by
  rw [← h1, ← h2]; exact ralign_any a b w ha' hb'
theorem mul_is {a b v : Int} {r : Bool} (w : World) (ha : -9223372036854775808 ≤ a) (ha' : a ≤ 9223372036854775807) (hb : -9223372036854775808 ≤ b) (hb' : b ≤ 9223372036854775807)
    (h1 : fitV (a * b) = v) (h2 : fitB (a * b) = r) :
    Calls Try.prog 9 #[.int .i64 a, .int .i64 b] w fun e w' => e = .returned (.tuple #[.int .i64 v, .bool r]) ∧ w = w' := by
  rw [← h1, ← h2]; exact mul_any a b w ha ha' hb hb'
theorem sub_is {a b v : Int} {r : Bool} (w : World) (ha : -9223372036854775808 ≤ a) (ha' : a ≤ 9223372036854775807) (hb : -9223372036854775808 ≤ b) (hb' : b ≤ 9223372036854775807)
    (h1 : fitV (a - b) = v) (h2 : fitB (a - b) = r) :
    Calls Try.prog 8 #[.int .i64 a, .int .i64 b] w fun e w' => e = .returned (.tuple #[.int .i64 v, .bool r]) ∧ w = w' := by
  rw [← h1, ← h2]; exact sub_any a b w ha ha' hb hb'
theorem log_is {n v : Int} (w : World) (h' : n ≤ 9223372036854775807) (h : logV n = v) :
    Calls Try.prog 18 #[.int .i64 n] w fun e w' => e = .returned (.int .i64 v) ∧ w = w' := by
  rw [← h]; exact log_any n w h'
theorem pow8 : powB 8 = true := by decide
theorem pow6 : powB 6 = false := by decide
theorem log9 : logV 9 = 3 := by decide
theorem mulBig : fitV (4611686018427387904 * 2) = 0 ∧ fitB (4611686018427387904 * 2) = false := by decide
theorem add5 : fitV (2 + 3) = 5 ∧ fitB (2 + 3) = true := by decide
theorem align16 : alignV 9 8 = 16 ∧ alignB 9 8 = true := by decide
theorem ceil4 : ceilV 7 2 = 4 ∧ ceilB 7 2 = true := by decide
set_option maxRecDepth 100000 in
theorem works_any (w : World) : Calls Try.prog 13 #[] w fun e w' => e = .returned (.bool true) ∧ w = w' := by
  go_enter Try.func13, Try.ntmps13
  go_wp2_with fail
  refine (ceil_is _ (by omega) ceil4.1 ceil4.2).mono ?_
  rintro e w' ⟨rfl, rfl⟩
  go_wp2_with fail
  refine (align_is _ (by omega) (by omega) align16.1 align16.2).mono ?_
  rintro e w' ⟨rfl, rfl⟩
  go_wp2_with fail
  refine (add_is _ (by omega) (by omega) (by omega) (by omega) add5.1 add5.2).mono ?_
  rintro e w' ⟨rfl, rfl⟩
  go_wp2_with fail
  refine (mul_is _ (by omega) (by omega) (by omega) (by omega) mulBig.1 mulBig.2).mono ?_
  rintro e w' ⟨rfl, rfl⟩
  go_wp2_with fail
  refine (log_is _ (by omega) log9).mono ?_
  rintro e w' ⟨rfl, rfl⟩
  go_wp2_with fail
  refine (power_is _ (by omega) pow8).mono ?_
  rintro e w' ⟨rfl, rfl⟩
  go_wp2_with fail
  refine (power_is _ (by omega) pow6).mono ?_
  rintro e w' ⟨rfl, rfl⟩
  go_wp2_with fail
  go_ret
  exact ⟨rfl, rfl⟩
/-- an int of Go is from -2^63 to 2^63 - 1. -/
theorem int_range {a : Int} (h : (Lit.int .i64 a).wf = true) : -9223372036854775808 ≤ a ∧ a ≤ 9223372036854775807 := by
  simp [Lit.wf, IntKind.min, IntKind.max, IntKind.signed, IntKind.bits] at h
  omega
end Go.Proofs.Ytljblafomncjnaa
