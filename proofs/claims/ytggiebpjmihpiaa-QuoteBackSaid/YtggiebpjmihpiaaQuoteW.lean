/- The walks of QuoteTells and QuoteBack. -/
import Derived.Test.YtggiebpjmihpiaaQuoteRefs
namespace Go.Proofs.Ytggiebpjmihpiaa
open Go.RowKit

set_option maxHeartbeats 2000000 in
theorem tells_any {w : World} {s : ByteArray} {x : Int} (hx : -9223372036854775808 ≤ x ∧ x ≤ 9223372036854775807) : Calls Try.prog 3 #[.string s, .int .i64 x] w (TrueBelow w) := by
  by_cases hsz : s.size ≤ 200
  · have hg : ¬ 200 < (s.size : Int) := by omega
    obtain ⟨a, m, p, hr⟩ : ∃ a m p, readV (txt s) x = (a, m, p) := ⟨_, _, _, rfl⟩
    obtain ⟨c, u, hw⟩ : ∃ c u, wholeV (txt s) = (c, u) := ⟨_, _, rfl⟩
    obtain ⟨S, hS⟩ : ∃ S, mkT (textL (txt s)) = S := ⟨_, rfl⟩
    have HR1 := Lib.hid fun W => read_is W s (by omega) hx hr
    have HR2 := Lib.hid fun W => rread_is W s (by omega) hx hr
    have HW1 := Lib.hid fun W => whole_is W s (by omega) hw
    have HW2 := Lib.hid fun W => rwhole_is W s (by omega) hw
    have HT1 := Lib.hid fun W => text_is W s (by omega) hS
    have HT2 := Lib.hid fun W => rtext_is W s (by omega) hS
    clear hr hw hS hx hsz
    generalize mkT a = A at *
    generalize mkT c = C at *
    have z1 : (S.toList == S.toList) = true := by simp
    have z2 : (A.toList == A.toList) = true := by simp
    have z3 : ((m : Int) == (m : Int)) = true := by simp
    have z4 : (p == p) = true := by simp
    have z5 : (C.toList == C.toList) = true := by simp
    have z6 : (u == u) = true := by simp
    go_enter Try.func3, Try.ntmps3
    go_wp2_with fail
    refine (HR1.out _).mono ?_
    rintro e w1 ⟨rfl, b1⟩
    go_wp2_with fail
    refine (HR2.out _).mono ?_
    rintro e w2 ⟨rfl, b2⟩
    have B2 : Hid (Below w.heap.size w w2) := step_below b1 b2
    clear b1 b2
    go_wp2_with fail
    refine (HW1.out _).mono ?_
    rintro e w3 ⟨rfl, b3⟩
    have B3 : Hid (Below w.heap.size w w3) := step_below B2.out b3
    clear b3
    go_wp2_with fail
    refine (HW2.out _).mono ?_
    rintro e w4 ⟨rfl, b4⟩
    have B4 : Hid (Below w.heap.size w w4) := step_below B3.out b4
    clear b4
    go_wp2_with fail
    refine (HT1.out _).mono ?_
    rintro e w5 ⟨rfl, b5⟩
    have B5 : Hid (Below w.heap.size w w5) := step_below B4.out b5
    clear b5
    go_wp2_with fail
    refine (HT2.out _).mono ?_
    rintro e w6 ⟨rfl, b6⟩
    have B6 : Hid (Below w.heap.size w w6) := step_below B5.out b6
    clear b6
    go_wp2_with fail
    refine (works_is _).mono ?_
    rintro e w9 ⟨rfl, b9⟩
    have B9 := step_below B6.out b9
    go_wp2
    go_ret
    exact ⟨rfl, B9⟩
  · have hg : 200 < (s.size : Int) := by omega
    clear hsz hx
    go_enter Try.func3, Try.ntmps3
    go_wp2_with fail
    refine (works_is _).mono ?_
    rintro e w9 ⟨rfl, b9⟩
    go_wp2
    go_ret
    exact ⟨rfl, b9⟩

/-- The first so many bytes of a text. -/
theorem str_low (W : World) (s : ByteArray) {b : Nat} (hb : b ≤ s.size) : (Instr.slice 9 (.string s) none (some (.int .i64 (b : Int))) none).run Try.prog W = .ok (.string (s.extract 0 b)) W := by
  have e2 : (0 : Int) ≤ (b : Int) := by omega
  simp [Instr.slice, Instr.sliceBounds, Instr.sliceBound, asIntOf, run_underlying Try.underlying9, e2, hb]
set_option maxHeartbeats 2000000 in
theorem back_any {w : World} {s v : ByteArray} : Calls Try.prog 4 #[.string s, .string v] w (TrueBelow w) := by
  by_cases hsz : s.size ≤ 200 ∧ v.size ≤ 100
  · obtain ⟨hs, hv⟩ := hsz
    have hg : ¬ 200 < (s.size : Int) := by omega
    have hg' : ¬ 100 < (v.size : Int) := by omega
    have d0 : decide (200 < (s.size : Int)) = false := decide_eq_false hg
    have d0' : decide (100 < (v.size : Int)) = false := decide_eq_false hg'
    obtain ⟨a, m, p, hr⟩ : ∃ a m p, readV (txt s) 0 = (a, m, p) := ⟨_, _, _, rfl⟩
    obtain ⟨T, hT⟩ : ∃ T, mkT (textL (txt s)) = T := ⟨_, rfl⟩
    have hTl := (textL_length (txt s)).2
    rw [txt_len] at hTl
    have hTt : txt T = textL (txt s) := by rw [← hT]
    have hTs : T.size = (textL (txt s)).length := by rw [← hT, mk_size]
    have a1 : ∀ W, (Op.stringOp .add v T).run Try.prog W = .ok (.string (v ++ T)) W := fun W => str_add W (by omega)
    have hvT : (v ++ T).size = v.size + T.size := ByteArray.size_append
    have a2 : ∀ W, (Op.stringOp .add (v ++ T) v).run Try.prog W = .ok (.string (v ++ T ++ v)) W := fun W => str_add W (by omega)
    have hX : txt (v ++ T ++ v) = txt v ++ textL (txt s) ++ txt v := by rw [txt_append, txt_append, hTt]
    have hXs : (v ++ T ++ v).size = v.size + T.size + v.size := by rw [ByteArray.size_append, ByteArray.size_append]
    have hrx : readV (txt (v ++ T ++ v)) (v.size : Int) = (txt s, v.size + T.size, true) := by
      rw [hX, hTs]
      exact read_told (txt v) (txt v) (txt s)
    have HT1 := Lib.hid fun W => text_is W s (by omega) hT
    have HRX := Lib.hid fun W => read_is W (v ++ T ++ v) (by omega) (x := (v.size : Int)) (by omega) hrx
    have HWT := Lib.hid fun W => whole_is W T (by omega) (t := txt s) (k := true) (by rw [hTt]; exact whole_told _)
    have HRS := Lib.hid fun W => read_is W s (by omega) (x := 0) (by omega) hr
    have hmk : mkT (txt s) = s := mk_txt s
    rw [hmk] at HRX HWT
    have hmore : p = true → 2 ≤ m ∧ m ≤ s.size ∧ ∀ W, Calls Try.prog 10 #[.string (mkT a)] W fun e w' => e = .returned (.string (s.extract 0 m)) ∧ Below W.heap.size W w' := fun hp => by
      rw [hp] at hr
      obtain ⟨h1, h2, h3⟩ := told_read hr
      rw [txt_len] at h2
      have h4 := (textL_length a).1
      rw [h3, List.length_take] at h4
      refine ⟨h1, h2, fun W => text_is W (mkT a) (by rw [mk_size a]; omega) ?_⟩
      rw [show txt (mkT a) = a from rfl, h3]
      refine txt_inj ?_
      rw [txt_extract, List.drop_zero, Nat.sub_zero]
    obtain ⟨E, hE⟩ : ∃ E, v.size + T.size = E := ⟨_, rfl⟩
    have wE : IntKind.i64.wrap ((v.size : Int) + (T.size : Int)) = (E : Int) := by rw [IntKind.wrap_i64]; omega
    rw [hE] at HRX
    generalize v ++ T ++ v = X at *
    generalize v ++ T = Y at *
    have z1 : (s.toList == s.toList) = true := by simp
    have z2 : ((E : Int) == (E : Int)) = true := by simp
    have HM := Lib.hid hmore
    have hsl := fun (W : World) (h : m ≤ s.size) => str_low W s h
    obtain ⟨D, hD⟩ : ∃ D, s.extract 0 m = D := ⟨_, rfl⟩
    rw [hD] at HM hsl
    have z3 : (D.toList == D.toList) = true := by simp
    clear hr hT hTl hTt hTs hvT hX hXs hrx hmk hmore hE hD hs hv
    generalize mkT a = A at *
    go_enter Try.func4, Try.ntmps4
    go_wp2_with fail
    refine (HT1.out _).mono ?_
    rintro e w1 ⟨rfl, b1⟩
    go_wp2_with fail
    refine (HRX.out _).mono ?_
    rintro e w2 ⟨rfl, b2⟩
    have B2 : Hid (Below w.heap.size w w2) := step_below b1 b2
    clear b1 b2
    go_wp2_with fail
    refine (HWT.out _).mono ?_
    rintro e w3 ⟨rfl, b3⟩
    have B3 : Hid (Below w.heap.size w w3) := step_below B2.out b3
    clear b3
    go_wp2_with fail
    refine (HRS.out _).mono ?_
    rintro e w4 ⟨rfl, b4⟩
    have B4 : Hid (Below w.heap.size w w4) := step_below B3.out b4
    clear b4
    have hb1 := Below.refl w4.heap.size w4
    have HWK : Hid (∀ q : From w4, Calls Try.prog 5 #[] q.W fun e w' => e = .returned (.bool true) ∧ Below q.W.heap.size q.W w') := fun q => works_is q.W
    cases p with
    | false =>
      clear HM hsl
      go_wp2_with fail
      refine wp_region_from (w0 := w4) (by kernel_rfl) (by kernel_rfl) hb1 ?_
      repeat (go_big_quiet_step (first | (go_at_call 5; with_reducible refine from_of (HWK.out _))))
      refine wpQuiet_nil ?_
      intro wq hw'
      obtain ⟨⟨wy, hq⟩, hw''⟩ := hw'
      subst hw''
      go_wp2
      go_ret
      exact ⟨rfl, step_below B4.out hq⟩
    | true =>
      obtain ⟨h1, h2, h3⟩ := HM.out rfl
      have HTX : Hid (∀ q : From w4, Calls Try.prog 10 #[.string A] q.W fun e w' => e = .returned (.string D) ∧ Below q.W.heap.size q.W w') := fun q => h3 q.W
      have hsw : ∀ W, (Instr.slice 9 (.string s) none (some (.int .i64 (m : Int))) none).run Try.prog W = .ok (.string D) W := fun W => hsl W h2
      have g1 : (2 : Int) ≤ (m : Int) := by omega
      have g2 : (m : Int) ≤ (s.size : Int) := by omega
      have g1' : decide ((2 : Int) ≤ (m : Int)) = true := decide_eq_true g1
      have g2' : decide ((m : Int) ≤ (s.size : Int)) = true := decide_eq_true g2
      clear h1 h2 h3 HM hsl
      go_wp2_with fail
      refine wp_region_from (w0 := w4) (by kernel_rfl) (by kernel_rfl) hb1 ?_
      repeat (go_big_quiet_step (first
        | (go_at_call 5; with_reducible refine from_of (HWK.out _))
        | (go_at_call 10; with_reducible refine from_of (HTX.out _))))
      refine wpQuiet_nil ?_
      intro wq hw'
      obtain ⟨⟨wy, hq⟩, hw''⟩ := hw'
      subst hw''
      go_wp2
      go_ret
      exact ⟨rfl, step_below B4.out hq⟩
  · have HWK := Lib.hid fun W => works_is W
    by_cases hs : s.size ≤ 200
    · have hg : ¬ 200 < (s.size : Int) := by omega
      have hg' : 100 < (v.size : Int) := by omega
      have d0 : decide (200 < (s.size : Int)) = false := decide_eq_false hg
      have d0' : decide (100 < (v.size : Int)) = true := decide_eq_true hg'
      clear hsz hs
      go_enter Try.func4, Try.ntmps4
      go_wp2_with fail
      refine (HWK.out _).mono ?_
      rintro e w9 ⟨rfl, b9⟩
      go_wp2
      go_ret
      exact ⟨rfl, b9⟩
    · have hg : 200 < (s.size : Int) := by omega
      have d0 : decide (200 < (s.size : Int)) = true := decide_eq_true hg
      clear hsz hs
      go_enter Try.func4, Try.ntmps4
      go_wp2_with fail
      refine (HWK.out _).mono ?_
      rintro e w9 ⟨rfl, b9⟩
      go_wp2
      go_ret
      exact ⟨rfl, b9⟩
end Go.Proofs.Ytggiebpjmihpiaa
