/- What each function of package num, each one of the document's own answers (copyholdref01), and the examples of the chapter (works) return: contracts, proved by walking the program's text. -/
import Derived.Test.YtljblafomncjnaaShelf
import Derived.Test.YtljblafomncjnaaNumMath
import Derived.Deep.QuietTactic
import Derived.BigQuiet
import Derived.Outline
import Derived.Lib.Hide
namespace Go.Proofs.Ytljblafomncjnaa
open Go.RowKit
theorem ret_bool {a b : Bool} (h : a = b) : Ending.returned (.bool a) = .returned (.bool b) := by rw [h]
theorem ret_int {k : IntKind} {a b : Int} (h : a = b) : Ending.returned (.int k a) = .returned (.int k b) := by rw [h]
theorem ret_pair {a b : Int} {p q : Bool} (h : a = b) (g : p = q) : Ending.returned (.tuple #[.int .i64 a, .bool p]) = .returned (.tuple #[.int .i64 b, .bool q]) := by rw [h, g]

/-! ### package num -/
def carriedV (a b s : Int) : Bool := if a < 0 ∧ b < 0 then decide (0 ≤ s) else if 0 ≤ a ∧ 0 ≤ b then decide (s < 0) else false
theorem carried_any (a b s : Int) (w : World) (h0 : -9223372036854775808 ≤ s) (h1 : s ≤ 9223372036854775807) :
    Calls Try.prog 22 #[.int .i64 a, .int .i64 b, .int .i64 s] w fun e w' => e = .returned (.bool (carriedV a b s)) ∧ w = w' := by
  by_cases ha : a < 0 <;> by_cases hb : b < 0
  all_goals
    go_enter Try.func22, Try.ntmps22
    go_wp2
    go_ret
    refine ⟨ret_bool ?_, rfl⟩
    unfold carriedV
  · rw [if_pos ⟨ha, hb⟩, xor_i64 h0 h1, Bool.eq_iff_iff]; simp only [decide_eq_true_iff]; omega
  · rw [if_neg (by omega), if_neg (by omega)]
  · rw [if_neg (by omega), if_neg (by omega)]
    try (simp; omega)
  · rw [if_neg (by omega), if_pos (by omega)]

theorem carried_is {a b s : Int} {r : Bool} (w : World) (h0 : -9223372036854775808 ≤ s) (h1 : s ≤ 9223372036854775807) (h : carriedV a b s = r) :
    Calls Try.prog 22 #[.int .i64 a, .int .i64 b, .int .i64 s] w fun e w' => e = .returned (.bool r) ∧ w = w' := by
  rw [← h]; exact carried_any a b s w h0 h1
theorem wrap_range (x : Int) : -9223372036854775808 ≤ wrap64 x ∧ wrap64 x ≤ 9223372036854775807 := by unfold wrap64; omega

theorem add_any (a b : Int) (w : World) (ha : -9223372036854775808 ≤ a) (ha' : a ≤ 9223372036854775807) (hb : -9223372036854775808 ≤ b) (hb' : b ≤ 9223372036854775807) :
    Calls Try.prog 7 #[.int .i64 a, .int .i64 b] w fun e w' => e = .returned (.tuple #[.int .i64 (fitV (a + b)), .bool (fitB (a + b))]) ∧ w = w' := by
  by_cases hf : fitB (a + b) = true
  · have hv := fitV_yes hf
    rw [hv, hf]
    clear hv
    obtain ⟨h0, h1⟩ := fitB_iff.1 hf
    clear hf
    go_enter Try.func7, Try.ntmps7
    go_wp2_with (go_at_call 22; refine (carried_is (r := false) _ (by omega) (by omega) (by unfold carriedV; split <;> (try split) <;> simp <;> omega)).mono ?_; rintro e w' ⟨rfl, rfl⟩)
    go_ret2
    exact ⟨rfl, rfl⟩
  · have hf' : fitB (a + b) = false := by simpa using hf
    have hv := fitV_no hf'
    rw [hv, hf']
    have hn : ¬ (-9223372036854775808 ≤ a + b ∧ a + b ≤ 9223372036854775807) := fun h => hf (fitB_iff.2 h)
    clear hv hf hf'
    go_enter Try.func7, Try.ntmps7
    go_wp2_with (go_at_call 22; refine (carried_is (r := true) _ (wrap_range _).1 (wrap_range _).2 (by unfold carriedV wrap64; split <;> (try split) <;> simp <;> omega)).mono ?_; rintro e w' ⟨rfl, rfl⟩)
    go_ret2
    exact ⟨rfl, rfl⟩
theorem sub_any (a b : Int) (w : World) (ha : -9223372036854775808 ≤ a) (ha' : a ≤ 9223372036854775807) (hb : -9223372036854775808 ≤ b) (hb' : b ≤ 9223372036854775807) :
    Calls Try.prog 8 #[.int .i64 a, .int .i64 b] w fun e w' => e = .returned (.tuple #[.int .i64 (fitV (a - b)), .bool (fitB (a - b))]) ∧ w = w' := by
  have hx := xor_i64 hb hb'
  have hs : IntKind.i64.signed = true := rfl
  by_cases hf : fitB (a - b) = true
  · have hv := fitV_yes hf
    rw [hv, hf]
    clear hv
    obtain ⟨h0, h1⟩ := fitB_iff.1 hf
    clear hf
    go_enter Try.func8, Try.ntmps8
    go_wp2_with (go_at_call 22; refine (carried_is (r := false) _ (by omega) (by omega) (by unfold carriedV; split <;> (try split) <;> simp <;> omega)).mono ?_; rintro e w' ⟨rfl, rfl⟩)
    go_ret2
    exact ⟨rfl, rfl⟩
  · have hf' : fitB (a - b) = false := by simpa using hf
    have hv := fitV_no hf'
    rw [hv, hf']
    have hn : ¬ (-9223372036854775808 ≤ a - b ∧ a - b ≤ 9223372036854775807) := fun h => hf (fitB_iff.2 h)
    clear hv hf hf'
    go_enter Try.func8, Try.ntmps8
    go_wp2_with (go_at_call 22; refine (carried_is (r := true) _ (wrap_range _).1 (wrap_range _).2 (by unfold carriedV wrap64; split <;> (try split) <;> simp <;> omega)).mono ?_; rintro e w' ⟨rfl, rfl⟩)
    go_ret2
    exact ⟨rfl, rfl⟩

def magV (n : Int) : Int := if n < 0 then -n else n
theorem magV_nat (n : Int) : magV n = (n.natAbs : Int) := by unfold magV; split <;> omega
theorem mag_any (n : Int) (w : World) (h0 : -9223372036854775808 ≤ n) (h1 : n ≤ 9223372036854775807) :
    Calls Try.prog 24 #[.int .i64 n] w fun e w' => e = .returned (.int .u64 (n.natAbs : Int)) ∧ w = w' := by
  rw [← magV_nat]
  by_cases hn : n < 0
  · go_enter Try.func24, Try.ntmps24
    go_wp2
    go_ret
    exact ⟨ret_int (by unfold magV; rw [if_pos hn]; first | omega | (simp only [IntKind.wrap_u64]; omega)), rfl⟩
  · go_enter Try.func24, Try.ntmps24
    go_wp2
    go_ret
    exact ⟨ret_int (by unfold magV; rw [if_neg (by omega)]), rfl⟩

/-! ### the document's own answers -/
theorem rsub_any (a b : Int) (w : World) (ha : -9223372036854775808 ≤ a) (ha' : a ≤ 9223372036854775807) (hb : -9223372036854775808 ≤ b) (hb' : b ≤ 9223372036854775807) :
    Calls Try.prog 11 #[.int .i64 a, .int .i64 b] w fun e w' => e = .returned (.tuple #[.int .i64 (fitV (a - b)), .bool (fitB (a - b))]) ∧ w = w' := by
  by_cases hf : fitB (a - b) = true
  · have hv := fitV_yes hf
    rw [hv, hf]
    clear hv
    obtain ⟨h0, h1⟩ := fitB_iff.1 hf
    clear hf
    have h3 : b < 0 ∨ (0 ≤ b ∧ b ≤ 0) ∨ 0 < b := by omega
    rcases h3 with hb1 | ⟨hb1, hb2⟩ | hb1
    all_goals
      go_enter Try.func11, Try.ntmps11
      go_wp2
      go_ret2
      exact ⟨rfl, rfl⟩
  · have hf' : fitB (a - b) = false := by simpa using hf
    have hv := fitV_no hf'
    rw [hv, hf']
    have hn : ¬ (-9223372036854775808 ≤ a - b ∧ a - b ≤ 9223372036854775807) := fun h => hf (fitB_iff.2 h)
    clear hv hf hf'
    have h3 : (b < 0 ∧ 9223372036854775807 + b < a) ∨ (0 < b ∧ a < -9223372036854775808 + b) := by omega
    clear hn
    rcases h3 with ⟨hb1, hb2⟩ | ⟨hb1, hb2⟩
    all_goals
      go_enter Try.func11, Try.ntmps11
      go_wp2
      go_ret2
      exact ⟨rfl, rfl⟩
theorem radd_any (a b : Int) (w : World) (ha : -9223372036854775808 ≤ a) (ha' : a ≤ 9223372036854775807) (hb : -9223372036854775808 ≤ b) (hb' : b ≤ 9223372036854775807) :
    Calls Try.prog 10 #[.int .i64 a, .int .i64 b] w fun e w' => e = .returned (.tuple #[.int .i64 (fitV (a + b)), .bool (fitB (a + b))]) ∧ w = w' := by
  by_cases hf : fitB (a + b) = true
  · have hv := fitV_yes hf
    rw [hv, hf]
    clear hv
    obtain ⟨h0, h1⟩ := fitB_iff.1 hf
    clear hf
    have h3 : b < 0 ∨ (0 ≤ b ∧ b ≤ 0) ∨ 0 < b := by omega
    rcases h3 with hb1 | ⟨hb1, hb2⟩ | hb1
    all_goals
      go_enter Try.func10, Try.ntmps10
      go_wp2
      go_ret2
      exact ⟨rfl, rfl⟩
  · have hf' : fitB (a + b) = false := by simpa using hf
    have hv := fitV_no hf'
    rw [hv, hf']
    have hn : ¬ (-9223372036854775808 ≤ a + b ∧ a + b ≤ 9223372036854775807) := fun h => hf (fitB_iff.2 h)
    clear hv hf hf'
    have h3 : (b < 0 ∧ a < -9223372036854775808 - b) ∨ (0 < b ∧ 9223372036854775807 - b < a) := by omega
    clear hn
    rcases h3 with ⟨hb1, hb2⟩ | ⟨hb1, hb2⟩
    all_goals
      go_enter Try.func10, Try.ntmps10
      go_wp2
      go_ret2
      exact ⟨rfl, rfl⟩
end Go.Proofs.Ytljblafomncjnaa
