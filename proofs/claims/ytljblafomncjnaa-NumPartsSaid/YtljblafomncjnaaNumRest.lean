/- What num.Ceil, Power, Log, Align and the document's own answers to them return. -/
import Derived.Test.YtljblafomncjnaaNumCalls
namespace Go.Proofs.Ytljblafomncjnaa
open Go.RowKit
theorem ceil_any (a b : Int) (w : World) (ha' : a ≤ 9223372036854775807) :
    Calls Try.prog 14 #[.int .i64 a, .int .i64 b] w fun e w' => e = .returned (.tuple #[.int .i64 (ceilV a b), .bool (ceilB a b)]) ∧ w = w' := by
  by_cases ha : 0 ≤ a
  · by_cases hb : 1 ≤ b
    · rw [ceilV_yes ha hb, ceilB_yes ha hb]
      have h0 := Int.emod_nonneg a (b := b) (by omega)
      have hq := Int.ediv_nonneg (a := a) (b := b) ha (by omega)
      have hle : a % b = 0 ∨ a / b < a := by
        by_cases e : b = 1
        · left; rw [e]; exact Int.emod_one a
        · by_cases e0 : a = 0
          · left; rw [e0]; exact Int.zero_emod b
          · right; exact Int.ediv_lt_self_of_pos_of_ne_one (by omega) e
      by_cases e : a % b = 0
      · rw [if_pos e]
        have h1 : a % b ≤ 0 := by omega
        have H := Lib.hid e
        clear e hle
        go_enter Try.func14, Try.ntmps14
        go_wp2
        go_ret2
        exact ⟨rfl, rfl⟩
      · rw [if_neg e]
        have h1 : 0 < a % b := by omega
        have h2 : a / b < a := by omega
        clear e hle
        go_enter Try.func14, Try.ntmps14
        go_wp2
        go_ret2
        exact ⟨rfl, rfl⟩
    · rw [ceilV_no (by omega), ceilB_no (by omega)]
      go_enter Try.func14, Try.ntmps14
      go_wp2
      go_ret2
      exact ⟨rfl, rfl⟩
  · rw [ceilV_no (by omega), ceilB_no (by omega)]
    go_enter Try.func14, Try.ntmps14
    go_wp2
    go_ret2
    exact ⟨rfl, rfl⟩
theorem rceil_any (a b : Int) (w : World) (ha' : a ≤ 9223372036854775807) :
    Calls Try.prog 15 #[.int .i64 a, .int .i64 b] w fun e w' => e = .returned (.tuple #[.int .i64 (ceilV a b), .bool (ceilB a b)]) ∧ w = w' := by
  by_cases ha : 0 ≤ a
  · by_cases hb : 1 ≤ b
    · by_cases e0 : a = 0
      · subst e0
        rw [ceilV_zero hb, ceilB_yes ha hb]
        go_enter Try.func15, Try.ntmps15
        go_wp2
        go_ret2
        exact ⟨rfl, rfl⟩
      · rw [← ceilV_ref (by omega) hb, ceilB_yes ha hb]
        have h1 : (a == 0) = false := beq_eq_false_iff_ne.2 e0
        have h2 : 1 ≤ a := by omega
        clear e0
        have hq := Int.ediv_nonneg (a := a - 1) (b := b) (by omega) (by omega)
        have hle := Int.ediv_le_self (a := a - 1) b (by omega)
        go_enter Try.func15, Try.ntmps15
        go_wp2
        go_ret2
        exact ⟨rfl, rfl⟩
    · rw [ceilV_no (by omega), ceilB_no (by omega)]
      go_enter Try.func15, Try.ntmps15
      go_wp2
      go_ret2
      exact ⟨rfl, rfl⟩
  · rw [ceilV_no (by omega), ceilB_no (by omega)]
    go_enter Try.func15, Try.ntmps15
    go_wp2
    go_ret2
    exact ⟨rfl, rfl⟩

theorem power_any (n : Int) (w : World) (h' : n ≤ 9223372036854775807) :
    Calls Try.prog 16 #[.int .i64 n] w fun e w' => e = .returned (.bool (powB n)) ∧ w = w' := by
  by_cases h : 0 < n
  · have hp := pow_i64 h h'
    go_enter Try.func16, Try.ntmps16
    go_wp2
    go_ret
    exact ⟨rfl, rfl⟩
  · rw [powB_no (by omega)]
    go_enter Try.func16, Try.ntmps16
    go_wp2
    go_ret
    exact ⟨rfl, rfl⟩
theorem log_any (n : Int) (w : World) (h' : n ≤ 9223372036854775807) :
    Calls Try.prog 18 #[.int .i64 n] w fun e w' => e = .returned (.int .i64 (logV n)) ∧ w = w' := by
  by_cases h : n < 1
  · rw [logV_low h]
    go_enter Try.func18, Try.ntmps18
    go_wp2_with fail
    go_ret
    exact ⟨rfl, rfl⟩
  · obtain ⟨h1, h2, h3⟩ := bitLen_log (n := n) (by omega) h'
    rw [← h1]
    clear h1
    generalize hL : Lib.bitLen n.toNat = L at *
    have HL := Lib.hid hL
    clear hL
    go_enter Try.func18, Try.ntmps18
    go_wp2_with (go_at_call 25; refine (Try.bits_Len64 _ _ (by omega) (by omega)).mono ?_; rintro e w' ⟨rfl, rfl⟩; rw [HL.out])
    go_ret
    exact ⟨rfl, rfl⟩
end Go.Proofs.Ytljblafomncjnaa
