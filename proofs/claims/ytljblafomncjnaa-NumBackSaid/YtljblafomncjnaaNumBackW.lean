/- The walks of the law NumBack, one for each way. -/
import Derived.Test.YtljblafomncjnaaNumWorks
namespace Go.Proofs.Ytljblafomncjnaa
open Go.RowKit
theorem back_add (a b : Int) : (∃ _ : -9223372036854775808 ≤ a + b ∧ a + b ≤ 9223372036854775807, Hid (fitV (a + b) = a + b ∧ fitB (a + b) = true)) ∨ Hid (fitV (a + b) = 0 ∧ fitB (a + b) = false) := by
  by_cases h : fitB (a + b) = true
  · exact .inl ⟨fitB_iff.1 h, Lib.hid ⟨fitV_yes h, h⟩⟩
  · have h' : fitB (a + b) = false := by simpa using h
    exact .inr (Lib.hid ⟨fitV_no h', h'⟩)
theorem back_sub (a b : Int) (l0 : -9223372036854775808 ≤ a) (u0 : a ≤ 9223372036854775807) : Hid (fitV (a + b - b) = a ∧ fitB (a + b - b) = true) :=
  Lib.hid (by rw [show a + b - b = a by omega]; exact ⟨fitV_yes (fitB_yes l0 u0), fitB_yes l0 u0⟩)
set_option maxHeartbeats 400000 in
theorem back_none (a b : Int) (w : World) (l0 : -9223372036854775808 ≤ a) (u0 : a ≤ 9223372036854775807) (l1 : -9223372036854775808 ≤ b) (u1 : b ≤ 9223372036854775807)
    (v : Int) (CV : Hid (ceilV a b = v)) (CB : Hid (ceilB a b = false)) :
    Calls Try.prog 6 #[.int .i64 a, .int .i64 b] w fun e w' => e = .returned (.bool true) ∧ w = w' := by
  have SV := back_sub a b l0 u0
  rcases back_add a b with ⟨⟨hr, hr'⟩, AD⟩ | AD
  · go_enter Try.func6, Try.ntmps6
    go_wp2_with fail
    refine (add_is _ l0 u0 l1 u1 AD.out.1 AD.out.2).mono ?_
    rintro e w' ⟨rfl, rfl⟩
    go_wp2_with fail
    refine (sub_is _ hr hr' l1 u1 SV.out.1 SV.out.2).mono ?_
    rintro e w' ⟨rfl, rfl⟩
    go_wp2_with fail
    refine (ceil_is _ u0 CV.out CB.out).mono ?_
    rintro e w' ⟨rfl, rfl⟩
    go_wp2_with fail
    refine (works_any _).mono ?_
    rintro e w' ⟨rfl, rfl⟩
    go_wp2_with fail
    go_ret
    exact ⟨rfl, rfl⟩
  · go_enter Try.func6, Try.ntmps6
    go_wp2_with fail
    refine (add_is _ l0 u0 l1 u1 AD.out.1 AD.out.2).mono ?_
    rintro e w' ⟨rfl, rfl⟩
    go_wp2_with fail
    refine (ceil_is _ u0 CV.out CB.out).mono ?_
    rintro e w' ⟨rfl, rfl⟩
    go_wp2_with fail
    refine (works_any _).mono ?_
    rintro e w' ⟨rfl, rfl⟩
    go_wp2_with fail
    go_ret
    exact ⟨rfl, rfl⟩
set_option maxHeartbeats 400000 in
theorem back_zero (b : Int) (w : World) (l1 : -9223372036854775808 ≤ b) (u1 : b ≤ 9223372036854775807)
    (CV : Hid (ceilV 0 b = 0)) (CB : Hid (ceilB 0 b = true)) (M1 : Hid (fitV (0 * b) = 0 ∧ fitB (0 * b) = true)) :
    Calls Try.prog 6 #[.int .i64 0, .int .i64 b] w fun e w' => e = .returned (.bool true) ∧ w = w' := by
  have AD : Hid (fitV (0 + b) = b ∧ fitB (0 + b) = true) := Lib.hid (by rw [Int.zero_add]; exact ⟨fitV_yes (fitB_yes l1 u1), fitB_yes l1 u1⟩)
  have SV : Hid (fitV (b - b) = 0 ∧ fitB (b - b) = true) := Lib.hid (by rw [Int.sub_self]; exact ⟨by decide, by decide⟩)
  go_enter Try.func6, Try.ntmps6
  go_wp2_with fail
  refine (add_is _ (by omega) (by omega) l1 u1 AD.out.1 AD.out.2).mono ?_
  rintro e w' ⟨rfl, rfl⟩
  go_wp2_with fail
  refine (sub_is _ l1 u1 l1 u1 SV.out.1 SV.out.2).mono ?_
  rintro e w' ⟨rfl, rfl⟩
  go_wp2_with fail
  refine (ceil_is _ (by omega) CV.out CB.out).mono ?_
  rintro e w' ⟨rfl, rfl⟩
  go_wp2_with fail
  refine (mul_is _ (by omega) (by omega) l1 u1 M1.out.1 M1.out.2).mono ?_
  rintro e w' ⟨rfl, rfl⟩
  go_wp2_with fail
  try rw [show max ((0 : Int) - 1) 0 = 0 by decide]
  refine (mul_is _ (by omega) (by omega) l1 u1 M1.out.1 M1.out.2).mono ?_
  rintro e w' ⟨rfl, rfl⟩
  go_wp2_with fail
  refine (works_any _).mono ?_
  rintro e w' ⟨rfl, rfl⟩
  go_wp2_with fail
  go_ret
  exact ⟨rfl, rfl⟩
set_option maxHeartbeats 400000 in
theorem back_over (a b : Int) (w : World) (l0 : -9223372036854775808 ≤ a) (u0 : a ≤ 9223372036854775807) (l1 : -9223372036854775808 ≤ b) (u1 : b ≤ 9223372036854775807)
    (v : Int) (v0 : 1 ≤ v) (v1 : v ≤ 9223372036854775807) (CV : Hid (ceilV a b = v)) (CB : Hid (ceilB a b = true)) (M L : Int) (M1 : Hid (fitV (v * b) = M ∧ fitB (v * b) = false)) (L1 : Hid (fitV ((v - 1) * b) = L ∧ fitB ((v - 1) * b) = true)) (l2 : L < a) :
    Calls Try.prog 6 #[.int .i64 a, .int .i64 b] w fun e w' => e = .returned (.bool true) ∧ w = w' := by
  have SV := back_sub a b l0 u0
  rcases back_add a b with ⟨⟨hr, hr'⟩, AD⟩ | AD
  · go_enter Try.func6, Try.ntmps6
    go_wp2_with fail
    refine (add_is _ l0 u0 l1 u1 AD.out.1 AD.out.2).mono ?_
    rintro e w' ⟨rfl, rfl⟩
    go_wp2_with fail
    refine (sub_is _ hr hr' l1 u1 SV.out.1 SV.out.2).mono ?_
    rintro e w' ⟨rfl, rfl⟩
    go_wp2_with fail
    refine (ceil_is _ u0 CV.out CB.out).mono ?_
    rintro e w' ⟨rfl, rfl⟩
    go_wp2_with fail
    refine (mul_is _ (by omega) (by omega) l1 u1 M1.out.1 M1.out.2).mono ?_
    rintro e w' ⟨rfl, rfl⟩
    go_wp2_with fail
    rw [show max (v - 1) 0 = v - 1 by omega]
    refine (mul_is _ (by omega) (by omega) l1 u1 L1.out.1 L1.out.2).mono ?_
    rintro e w' ⟨rfl, rfl⟩
    go_wp2_with fail
    refine (works_any _).mono ?_
    rintro e w' ⟨rfl, rfl⟩
    go_wp2_with fail
    go_ret
    exact ⟨rfl, rfl⟩
  · go_enter Try.func6, Try.ntmps6
    go_wp2_with fail
    refine (add_is _ l0 u0 l1 u1 AD.out.1 AD.out.2).mono ?_
    rintro e w' ⟨rfl, rfl⟩
    go_wp2_with fail
    refine (ceil_is _ u0 CV.out CB.out).mono ?_
    rintro e w' ⟨rfl, rfl⟩
    go_wp2_with fail
    refine (mul_is _ (by omega) (by omega) l1 u1 M1.out.1 M1.out.2).mono ?_
    rintro e w' ⟨rfl, rfl⟩
    go_wp2_with fail
    rw [show max (v - 1) 0 = v - 1 by omega]
    refine (mul_is _ (by omega) (by omega) l1 u1 L1.out.1 L1.out.2).mono ?_
    rintro e w' ⟨rfl, rfl⟩
    go_wp2_with fail
    refine (works_any _).mono ?_
    rintro e w' ⟨rfl, rfl⟩
    go_wp2_with fail
    go_ret
    exact ⟨rfl, rfl⟩
set_option maxHeartbeats 400000 in
theorem back_fits (a b : Int) (w : World) (l0 : -9223372036854775808 ≤ a) (u0 : a ≤ 9223372036854775807) (l1 : -9223372036854775808 ≤ b) (u1 : b ≤ 9223372036854775807)
    (v : Int) (v0 : 1 ≤ v) (v1 : v ≤ 9223372036854775807) (CV : Hid (ceilV a b = v)) (CB : Hid (ceilB a b = true)) (M L : Int) (M1 : Hid (fitV (v * b) = M ∧ fitB (v * b) = true)) (L1 : Hid (fitV ((v - 1) * b) = L ∧ fitB ((v - 1) * b) = true)) (l2 : L < a) (m2 : a ≤ M) :
    Calls Try.prog 6 #[.int .i64 a, .int .i64 b] w fun e w' => e = .returned (.bool true) ∧ w = w' := by
  have SV := back_sub a b l0 u0
  rcases back_add a b with ⟨⟨hr, hr'⟩, AD⟩ | AD
  · go_enter Try.func6, Try.ntmps6
    go_wp2_with fail
    refine (add_is _ l0 u0 l1 u1 AD.out.1 AD.out.2).mono ?_
    rintro e w' ⟨rfl, rfl⟩
    go_wp2_with fail
    refine (sub_is _ hr hr' l1 u1 SV.out.1 SV.out.2).mono ?_
    rintro e w' ⟨rfl, rfl⟩
    go_wp2_with fail
    refine (ceil_is _ u0 CV.out CB.out).mono ?_
    rintro e w' ⟨rfl, rfl⟩
    go_wp2_with fail
    refine (mul_is _ (by omega) (by omega) l1 u1 M1.out.1 M1.out.2).mono ?_
    rintro e w' ⟨rfl, rfl⟩
    go_wp2_with fail
    rw [show max (v - 1) 0 = v - 1 by omega]
    refine (mul_is _ (by omega) (by omega) l1 u1 L1.out.1 L1.out.2).mono ?_
    rintro e w' ⟨rfl, rfl⟩
    go_wp2_with fail
    refine (works_any _).mono ?_
    rintro e w' ⟨rfl, rfl⟩
    go_wp2_with fail
    go_ret
    exact ⟨rfl, rfl⟩
  · go_enter Try.func6, Try.ntmps6
    go_wp2_with fail
    refine (add_is _ l0 u0 l1 u1 AD.out.1 AD.out.2).mono ?_
    rintro e w' ⟨rfl, rfl⟩
    go_wp2_with fail
    refine (ceil_is _ u0 CV.out CB.out).mono ?_
    rintro e w' ⟨rfl, rfl⟩
    go_wp2_with fail
    refine (mul_is _ (by omega) (by omega) l1 u1 M1.out.1 M1.out.2).mono ?_
    rintro e w' ⟨rfl, rfl⟩
    go_wp2_with fail
    rw [show max (v - 1) 0 = v - 1 by omega]
    refine (mul_is _ (by omega) (by omega) l1 u1 L1.out.1 L1.out.2).mono ?_
    rintro e w' ⟨rfl, rfl⟩
    go_wp2_with fail
    refine (works_any _).mono ?_
    rintro e w' ⟨rfl, rfl⟩
    go_wp2_with fail
    go_ret
    exact ⟨rfl, rfl⟩
end Go.Proofs.Ytljblafomncjnaa
