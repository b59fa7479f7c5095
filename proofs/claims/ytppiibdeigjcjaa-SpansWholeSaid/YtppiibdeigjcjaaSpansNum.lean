/- Layer 8 (spans): what num.Add and the document's own sum (copyholdref01.Add) return: contracts. (Out of layer 1's texts.) -/
import Derived.Test.YtppiibdeigjcjaaBase
namespace Go.Proofs.Ytppiibdeigjcjaa
open Go.RowKit

def fitB (x : Int) : Bool := decide (-9223372036854775808 ≤ x ∧ x ≤ 9223372036854775807)
def fitV (x : Int) : Int := if fitB x = true then x else 0
theorem fitB_yes {x : Int} (h : -9223372036854775808 ≤ x) (h' : x ≤ 9223372036854775807) : fitB x = true := by
  unfold fitB; exact decide_eq_true ⟨h, h'⟩
theorem fitB_no {x : Int} (h : x < -9223372036854775808 ∨ 9223372036854775807 < x) : fitB x = false := by
  unfold fitB; exact decide_eq_false (by omega)
theorem fitB_iff {x : Int} : fitB x = true ↔ -9223372036854775808 ≤ x ∧ x ≤ 9223372036854775807 := by
  unfold fitB; simp
theorem fitV_yes {x : Int} (h : fitB x = true) : fitV x = x := by unfold fitV; rw [if_pos h]
theorem fitV_no {x : Int} (h : fitB x = false) : fitV x = 0 := by unfold fitV; rw [if_neg (by rw [h]; decide)]
theorem bv64 {s : Int} (h0 : 0 ≤ s) (h : s ≤ 9223372036854775807) : (BitVec.ofInt 64 s).toNat = s.toNat := by
  simp only [BitVec.toNat_ofInt]; omega
theorem xor_i64 {s : Int} (h0 : -9223372036854775808 ≤ s) (h : s ≤ 9223372036854775807) : bits .xor .i64 (-1) s = -1 - s := by
  unfold bits
  rw [IntKind.wrap_i64]
  have e : ((BitVec.ofInt IntKind.i64.bits (-1)) ^^^ (BitVec.ofInt IntKind.i64.bits s)).toNat = 18446744073709551615 - (s % 18446744073709551616).toNat := by
    show ((BitVec.ofInt 64 (-1)) ^^^ (BitVec.ofInt 64 s)).toNat = _
    have : BitVec.ofInt 64 (-1) = BitVec.allOnes 64 := by decide
    rw [this, BitVec.allOnes_xor, BitVec.toNat_not, BitVec.toNat_ofInt]
    omega
  simp only [e]
  omega
/-! ### the two sums -/
def carriedV (a b s : Int) : Bool := if a < 0 ∧ b < 0 then decide (0 ≤ s) else if 0 ≤ a ∧ 0 ≤ b then decide (s < 0) else false
theorem carried_any (a b s : Int) (w : World) (h0 : -9223372036854775808 ≤ s) (h1 : s ≤ 9223372036854775807) :
    Calls Try.prog 40 #[.int .i64 a, .int .i64 b, .int .i64 s] w fun e w' => e = .returned (.bool (carriedV a b s)) ∧ w = w' := by
  by_cases ha : a < 0 <;> by_cases hb : b < 0
  all_goals
    go_enter Try.func40, Try.ntmps40
    go_wp2
    go_ret
    refine ⟨ret_bool ?_, rfl⟩
    unfold carriedV
  · rw [if_pos ⟨ha, hb⟩, xor_i64 h0 h1, Bool.eq_iff_iff]; simp only [decide_eq_true_iff]; omega
  · rw [if_neg (by omega), if_neg (by omega)]
  · rw [if_neg (by omega), if_neg (by omega)]
    try (simp; omega)
  · rw [if_neg (by omega), if_pos (by omega)]

theorem carried_is {a b s : Int} {r : Bool} (w : World) (h0 : -9223372036854775808 ≤ s) (h1 : s ≤ 9223372036854775807) (h : carriedV a b s = r) :
    Calls Try.prog 40 #[.int .i64 a, .int .i64 b, .int .i64 s] w fun e w' => e = .returned (.bool r) ∧ w = w' := by
  rw [← h]; exact carried_any a b s w h0 h1
theorem wrap_range (x : Int) : -9223372036854775808 ≤ wrap64 x ∧ wrap64 x ≤ 9223372036854775807 := by unfold wrap64; omega

theorem add_any (a b : Int) (w : World) (ha : -9223372036854775808 ≤ a) (ha' : a ≤ 9223372036854775807) (hb : -9223372036854775808 ≤ b) (hb' : b ≤ 9223372036854775807) :
    Calls Try.prog 36 #[.int .i64 a, .int .i64 b] w fun e w' => e = .returned (.tuple #[.int .i64 (fitV (a + b)), .bool (fitB (a + b))]) ∧ w = w' := by
  by_cases hf : fitB (a + b) = true
  · have hv := fitV_yes hf
    rw [hv, hf]
    clear hv
    obtain ⟨h0, h1⟩ := fitB_iff.1 hf
    clear hf
    go_enter Try.func36, Try.ntmps36
    go_wp2_with (go_at_call 40; refine (carried_is (r := false) _ (by omega) (by omega) (by unfold carriedV; split <;> (try split) <;> simp <;> omega)).mono ?_; rintro e w' ⟨rfl, rfl⟩)
    go_ret2
    exact ⟨rfl, rfl⟩
  · have hf' : fitB (a + b) = false := by simpa using hf
    have hv := fitV_no hf'
    rw [hv, hf']
    have hn : ¬ (-9223372036854775808 ≤ a + b ∧ a + b ≤ 9223372036854775807) := fun h => hf (fitB_iff.2 h)
    clear hv hf hf'
    go_enter Try.func36, Try.ntmps36
    go_wp2_with (go_at_call 40; refine (carried_is (r := true) _ (wrap_range _).1 (wrap_range _).2 (by unfold carriedV wrap64; split <;> (try split) <;> simp <;> omega)).mono ?_; rintro e w' ⟨rfl, rfl⟩)
    go_ret2
    exact ⟨rfl, rfl⟩
theorem radd_any (a b : Int) (w : World) (ha : -9223372036854775808 ≤ a) (ha' : a ≤ 9223372036854775807) (hb : -9223372036854775808 ≤ b) (hb' : b ≤ 9223372036854775807) :
    Calls Try.prog 37 #[.int .i64 a, .int .i64 b] w fun e w' => e = .returned (.tuple #[.int .i64 (fitV (a + b)), .bool (fitB (a + b))]) ∧ w = w' := by
  by_cases hf : fitB (a + b) = true
  · have hv := fitV_yes hf
    rw [hv, hf]
    clear hv
    obtain ⟨h0, h1⟩ := fitB_iff.1 hf
    clear hf
    have h3 : b < 0 ∨ (0 ≤ b ∧ b ≤ 0) ∨ 0 < b := by omega
    rcases h3 with hb1 | ⟨hb1, hb2⟩ | hb1
    all_goals
      go_enter Try.func37, Try.ntmps37
      go_wp2
      go_ret2
      exact ⟨rfl, rfl⟩
  · have hf' : fitB (a + b) = false := by simpa using hf
    have hv := fitV_no hf'
    rw [hv, hf']
    have hn : ¬ (-9223372036854775808 ≤ a + b ∧ a + b ≤ 9223372036854775807) := fun h => hf (fitB_iff.2 h)
    clear hv hf hf'
    have h3 : (b < 0 ∧ a < -9223372036854775808 - b) ∨ (0 < b ∧ 9223372036854775807 - b < a) := by omega
    clear hn
    rcases h3 with ⟨hb1, hb2⟩ | ⟨hb1, hb2⟩
    all_goals
      go_enter Try.func37, Try.ntmps37
      go_wp2
      go_ret2
      exact ⟨rfl, rfl⟩
end Go.Proofs.Ytppiibdeigjcjaa
