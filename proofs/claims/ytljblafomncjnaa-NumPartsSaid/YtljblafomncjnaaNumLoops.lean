/- What the document's own Log and Power (two loops), num.Align and the document's own Align return. -/
import Derived.Test.YtljblafomncjnaaNumRest
namespace Go.Proofs.Ytljblafomncjnaa
open Go.RowKit
def LogRel (n m j : Int) : Prop := j + 1 + logV m = logV n
theorem rlog_any (n : Int) (w : World) (h' : n ≤ 9223372036854775807) :
    Calls Try.prog 19 #[.int .i64 n] w fun e w' => e = .returned (.int .i64 (logV n)) ∧ w = w' := by
  go_enter Try.func19, Try.ntmps19
  go_wp2
  go_loop [0, 3] (fun x k => ∃ m j : Int, m ≤ 9223372036854775807 ∧ -1 ≤ j ∧ LogRel n m j ∧ x = .int .i64 m ∧ k = .int .i64 j) (fun x _ => (intOf x).toNat)
  case atStart => exact ⟨n, -1, h', by omega, by unfold LogRel; omega, rfl, rfl⟩
  case round =>
    obtain ⟨m, j, hm, hj, hr, rfl, rfl⟩ := hrel
    have hmr := logV_range hm
    have hnr := logV_range h'
    have hj2 : j ≤ 63 := by unfold LogRel at hr; omega
    by_cases hp : 0 < m
    · have hh : LogRel n (m / 2) (j + 1) := by
        have := logV_half (n := m) (by omega)
        unfold LogRel at *; omega
      clear hr hmr hnr
      go_wp2
      go_round
      case rel => exact ⟨m / 2, j + 1, by omega, by omega, hh, rfl, rfl⟩
      case measure => simp [intOf]; omega
    · have hh : j = logV n := by
        have := logV_low (n := m) (by omega)
        unfold LogRel at *; omega
      have HH := Lib.hid hh
      clear hr hh hmr hnr
      go_wp2
      go_ret
      exact ⟨ret_int HH.out, rfl⟩
theorem rpower_any (n : Int) (w : World) (h' : n ≤ 9223372036854775807) :
    Calls Try.prog 17 #[.int .i64 n] w fun e w' => e = .returned (.bool (powB n)) ∧ w = w' := by
  by_cases h1 : n < 1
  · rw [powB_no h1]
    go_enter Try.func17, Try.ntmps17
    go_wp2
    go_ret
    exact ⟨rfl, rfl⟩
  · have h2 : 1 ≤ n := by omega
    clear h1
    go_enter Try.func17, Try.ntmps17
    go_wp2
    go_loop [0] (fun x => ∃ m : Int, 1 ≤ m ∧ m ≤ 9223372036854775807 ∧ Hid (powB m = powB n) ∧ x = .int .i64 m) (fun x => (intOf x).toNat)
    case atStart => exact ⟨n, h2, h', Lib.hid rfl, rfl⟩
    case round =>
      obtain ⟨m, hm0, hm, hr, rfl⟩ := hrel
      by_cases hp : 1 < m
      · by_cases ho : m % 2 = 1
        · have hh : false = powB n := by rw [← hr.out]; exact (powB_odd hp ho).symm
          have ho' : (m % 2 == 1) = true := beq_iff_eq.2 ho
          have HH := Lib.hid hh
          clear ho hh hr
          go_wp2
          go_ret
          exact ⟨ret_bool HH.out, rfl⟩
        · have ho' : (m % 2 == 1) = false := beq_eq_false_iff_ne.2 ho
          have hh : Hid (powB (m / 2) = powB n) := Lib.hid (by rw [powB_half hp (by omega)]; exact hr.out)
          clear ho hr
          go_wp2
          go_round
          case rel => exact ⟨m / 2, by omega, by omega, hh, rfl⟩
          case measure => simp [intOf]; omega
      · have hh : true = powB n := by
          have e : m = 1 := by omega
          rw [← hr.out, e]; exact powB_one.symm
        have HH := Lib.hid hh
        clear hh hr
        go_wp2
        go_ret
        exact ⟨ret_bool HH.out, rfl⟩
theorem power_is {n : Int} {r : Bool} (w : World) (h' : n ≤ 9223372036854775807) (h : powB n = r) :
    Calls Try.prog 16 #[.int .i64 n] w fun e w' => e = .returned (.bool r) ∧ w = w' := by
  rw [← h]; exact power_any n w h'
theorem rpower_is {n : Int} {r : Bool} (w : World) (h' : n ≤ 9223372036854775807) (h : powB n = r) :
    Calls Try.prog 17 #[.int .i64 n] w fun e w' => e = .returned (.bool r) ∧ w = w' := by
  rw [← h]; exact rpower_any n w h'
theorem add_is {a b v : Int} {r : Bool} (w : World) (ha : -9223372036854775808 ≤ a) (ha' : a ≤ 9223372036854775807) (hb : -9223372036854775808 ≤ b) (hb' : b ≤ 9223372036854775807)
    (h1 : fitV (a + b) = v) (h2 : fitB (a + b) = r) :
    Calls Try.prog 7 #[.int .i64 a, .int .i64 b] w fun e w' => e = .returned (.tuple #[.int .i64 v, .bool r]) ∧ w = w' := by
  rw [← h1, ← h2]; exact add_any a b w ha ha' hb hb'
theorem radd_is {a b v : Int} {r : Bool} (w : World) (ha : -9223372036854775808 ≤ a) (ha' : a ≤ 9223372036854775807) (hb : -9223372036854775808 ≤ b) (hb' : b ≤ 9223372036854775807)
    (h1 : fitV (a + b) = v) (h2 : fitB (a + b) = r) :
    Calls Try.prog 10 #[.int .i64 a, .int .i64 b] w fun e w' => e = .returned (.tuple #[.int .i64 v, .bool r]) ∧ w = w' := by
  rw [← h1, ← h2]; exact radd_any a b w ha ha' hb hb'
theorem align_any (n b : Int) (w : World) (hn' : n ≤ 9223372036854775807) (hb' : b ≤ 9223372036854775807) :
    Calls Try.prog 20 #[.int .i64 n, .int .i64 b] w fun e w' => e = .returned (.tuple #[.int .i64 (alignV n b), .bool (alignB n b)]) ∧ w = w' := by
  by_cases hn : n < 0
  · have e : alignB n b = false := by unfold alignB; rw [decide_eq_false (by omega)]; rfl
    rw [alignV_no e, e]
    clear e
    go_enter Try.func20, Try.ntmps20
    go_wp2_with fail
    go_ret2
    exact ⟨rfl, rfl⟩
  · have hn0 : 0 ≤ n := by omega
    clear hn
    by_cases hp : powB b = true
    · have hb0 : 0 < b := (powB_iff.1 hp).1
      by_cases hs : n + (b - 1) ≤ 9223372036854775807
      · have hf := upTo_fits hn0 hb0 hs
        have e : alignB n b = true := by unfold alignB; rw [decide_eq_true hn0, hp, hf]; rfl
        rw [alignV_yes e, e]
        have ha := andNot_i64 (a := n + (b - 1)) (by omega) hs hp hb'
        have eu : (n + (b - 1)) / b * b = upTo n b := by unfold upTo; rw [show n + (b - 1) = n + b - 1 by omega]
        rw [eu] at ha
        have f1 : fitB (n + (b - 1)) = true := fitB_yes (by omega) hs
        have f2 := fitV_yes f1
        have HP := Lib.hid hp
        have F1 := Lib.hid f1
        have F2 := Lib.hid f2
        clear hf e eu f1 f2 hp
        go_enter Try.func20, Try.ntmps20
        go_wp2_with (first
          | (go_at_call 16; refine (power_is _ (by omega) HP.out).mono ?_; rintro e w' ⟨rfl, rfl⟩)
          | (go_at_call 7; refine (add_is _ (by omega) (by omega) (by omega) (by omega) F2.out F1.out).mono ?_; rintro e w' ⟨rfl, rfl⟩))
        go_ret2
        exact ⟨rfl, rfl⟩
      · have hf := upTo_big (n := n) hp hb' (by omega)
        have e : alignB n b = false := by unfold alignB; rw [hf]; simp
        rw [alignV_no e, e]
        have f1 : fitB (n + (b - 1)) = false := fitB_no (by omega)
        have f2 := fitV_no f1
        have HP := Lib.hid hp
        have F1 := Lib.hid f1
        have F2 := Lib.hid f2
        clear hf e f1 f2 hp
        go_enter Try.func20, Try.ntmps20
        go_wp2_with (first
          | (go_at_call 16; refine (power_is _ (by omega) HP.out).mono ?_; rintro e w' ⟨rfl, rfl⟩)
          | (go_at_call 7; refine (add_is _ (by omega) (by omega) (by omega) (by omega) F2.out F1.out).mono ?_; rintro e w' ⟨rfl, rfl⟩))
        go_ret2
        exact ⟨rfl, rfl⟩
    · have hp' : powB b = false := by simpa using hp
      have e : alignB n b = false := by unfold alignB; rw [hp']; simp
      rw [alignV_no e, e]
      have HP := Lib.hid hp'
      clear e hp hp'
      go_enter Try.func20, Try.ntmps20
      go_wp2_with (go_at_call 16; refine (power_is _ (by omega) HP.out).mono ?_; rintro e w' ⟨rfl, rfl⟩)
      go_ret2
      exact ⟨rfl, rfl⟩
theorem ralign_any (n b : Int) (w : World) (hn' : n ≤ 9223372036854775807) (hb' : b ≤ 9223372036854775807) :
    Calls Try.prog 21 #[.int .i64 n, .int .i64 b] w fun e w' => e = .returned (.tuple #[.int .i64 (alignV n b), .bool (alignB n b)]) ∧ w = w' := by
  by_cases hn : n < 0
  · have e : alignB n b = false := by unfold alignB; rw [decide_eq_false (by omega)]; rfl
    rw [alignV_no e, e]
    clear e
    go_enter Try.func21, Try.ntmps21
    go_wp2_with fail
    go_ret2
    exact ⟨rfl, rfl⟩
  · have hn0 : 0 ≤ n := by omega
    clear hn
    by_cases hp : powB b = true
    · have hb0 : 0 < b := (powB_iff.1 hp).1
      have h0 := Int.emod_nonneg n (b := b) (by omega)
      have h1 := Int.emod_lt_of_pos n (b := b) hb0
      by_cases hz : n % b = 0
      · have eu := upTo_same hb0 hz
        have e : alignB n b = true := by unfold alignB; rw [decide_eq_true hn0, hp, eu, fitB_yes (by omega) hn']; rfl
        rw [alignV_yes e, e, eu]
        have HP := Lib.hid hp
        clear e eu hp h0 h1
        go_enter Try.func21, Try.ntmps21
        go_wp2_with (go_at_call 17; refine (rpower_is _ (by omega) HP.out).mono ?_; rintro e w' ⟨rfl, rfl⟩)
        go_ret2
        exact ⟨rfl, rfl⟩
      · have eu := upTo_more hb0 hz
        have f1 : fitB (n + (b - n % b)) = alignB n b := by unfold alignB; rw [decide_eq_true hn0, hp, eu]; rfl
        have f2 : fitV (n + (b - n % b)) = alignV n b := by unfold fitV alignV; rw [f1, eu]
        have hz' : (n % b == 0) = false := beq_eq_false_iff_ne.2 hz
        have HP := Lib.hid hp
        have F1 := Lib.hid f1
        have F2 := Lib.hid f2
        clear eu f1 f2 hp hz
        go_enter Try.func21, Try.ntmps21
        go_wp2_with (first
          | (go_at_call 17; refine (rpower_is _ (by omega) HP.out).mono ?_; rintro e w' ⟨rfl, rfl⟩)
          | (go_at_call 10; refine (radd_is _ (by omega) (by omega) (by omega) (by omega) F2.out F1.out).mono ?_; rintro e w' ⟨rfl, rfl⟩))
        go_ret2
        exact ⟨rfl, rfl⟩
    · have hp' : powB b = false := by simpa using hp
      have e : alignB n b = false := by unfold alignB; rw [hp']; simp
      rw [alignV_no e, e]
      have HP := Lib.hid hp'
      clear e hp hp'
      go_enter Try.func21, Try.ntmps21
      go_wp2_with (go_at_call 17; refine (rpower_is _ (by omega) HP.out).mono ?_; rintro e w' ⟨rfl, rfl⟩)
      go_ret2
      exact ⟨rfl, rfl⟩
end Go.Proofs.Ytljblafomncjnaa
