/- Layer 8 (spans): what behind, rightFrom, Meet and the document's One and Meet return: contracts. -/
import Derived.Test.YtppiibdeigjcjaaSpansNum
import Derived.Test.YtppiibdeigjcjaaSpansMath
import Derived.Test.YtppiibdeigjcjaaBaseFrom
import Derived.IntWalk
namespace Go.Proofs.Ytppiibdeigjcjaa
open Go.RowKit

def twoF (a b : Value) : Nat → Value
  | 0 => a
  | _ => b
theorem two_lit (w : World) (a b : Value) (t : TypeId) : (w.alloc (.cells #[a, b] t)).rowIs w.heap.size t 2 (twoF a b) := World.rowIs_alloc w #[a, b] t (twoF a b) (by
  intro i hi
  match i, hi with
  | 0, _ => rfl
  | 1, _ => rfl)
/-- The two cells of a block, in whatever world behind. -/
theorem two_any {W0 : World} {g : Nat} {t : TypeId} {f : Nat → Value} (h : W0.rowIs g t 2 f) {W : World} (hb : Below W0.heap.size W0 W) : W.cell? ⟨g, 0, none⟩ = some (f 0) ∧ W.cell? ⟨g, 1, none⟩ = some (f 1) := by
  have k := h.of_block (hb.block g h.lt)
  exact ⟨k.cell (by omega), k.cell (by omega)⟩
theorem i64_is {x : Int} (h : -9223372036854775808 ≤ x ∧ x ≤ 9223372036854775807) : IntKind.i64.wrap x = x := IntWalk.i64_in _ h

theorem behind_at (a n : Int) (w : World) (h : InInt (a + n)) : Calls Try.prog 34 #[.agg #[.int .i64 a, .int .i64 n]] w fun e w' => e = .returned (.int .i64 (a + n)) ∧ w' = w.alloc (.cells #[.int .i64 a, .int .i64 n] 24) := by
  have n0 := two_lit w (.int .i64 a) (.int .i64 n) 24
  obtain ⟨c0, c1⟩ := two_any n0 (Below.refl _ _)
  simp only [twoF] at c0 c1
  have hw := i64_is h
  clear n0 h
  go_enter Try.func34, Try.ntmps34
  go_wp2
  go_ret
  exact ⟨rfl, rfl⟩
theorem behind_is {a n x : Int} (w : World) (h : InInt x) (hx : a + n = x) : Calls Try.prog 34 #[.agg #[.int .i64 a, .int .i64 n]] w fun e w' => e = .returned (.int .i64 x) ∧ Below w.heap.size w w' := by
  subst hx
  refine (behind_at a n w h).mono ?_
  rintro e w' ⟨rfl, rfl⟩
  exact ⟨rfl, new_below _ _⟩
theorem ok_fit {b a n : Int} (hf : fitB (a + n) = true) (h1 : b ≤ a) (h2 : 1 ≤ n) : okB b (a, n) = true := okB_iff.2 ⟨h1, h2, (fitB_iff.1 hf).2⟩
theorem ok_not {b a n : Int} (h : ¬ (fitB (a + n) = true ∧ b ≤ a ∧ 1 ≤ n)) (hb : 0 ≤ b) : okB b (a, n) = false := by
  unfold okB
  refine decide_eq_false fun hh => h ⟨fitB_iff.2 ?_, hh.1, hh.2.1⟩
  simp only at hh
  omega
theorem right_is {b a n : Int} {r : Bool} (w : World) (hb : 0 ≤ b) (ha : InInt a) (hn : InInt n) (hr : okB b (a, n) = r) : Calls Try.prog 30 #[.int .i64 b, .agg #[.int .i64 a, .int .i64 n]] w fun e w' => e = .returned (.bool r) ∧ Below w.heap.size w w' := by
  have n0 := two_lit w (.int .i64 a) (.int .i64 n) 24
  obtain ⟨c0, c1⟩ := two_any n0 (Below.refl _ _)
  simp only [twoF] at c0 c1
  have b0 := new_below w (.cells #[.int .i64 a, .int .i64 n] 24)
  obtain ⟨v, ev⟩ : ∃ v, fitV (a + n) = v := ⟨_, rfl⟩
  have hadd := fun W => add_any a n W ha.1 ha.2 hn.1 hn.2
  rw [ev] at hadd
  have HB := Lib.hid b0
  have HR : Hid (okB b (a, n) = r) := hr
  clear ev n0 hr ha hn b0
  by_cases hf : fitB (a + n) = true
  · rw [hf] at hadd
    by_cases h1 : b ≤ a
    · by_cases h2 : 1 ≤ n
      · obtain rfl : true = r := (ok_fit hf h1 h2).symm.trans HR.out
        clear hf
        go_enter Try.func30, Try.ntmps30
        go_wp2_with (go_at_call 36; refine (hadd _).mono ?_; rintro e w' ⟨rfl, rfl⟩)
        go_ret
        exact ⟨rfl, HB.out⟩
      · obtain rfl : false = r := (ok_not (fun h => h2 h.2.2) hb).symm.trans HR.out
        clear hf
        go_enter Try.func30, Try.ntmps30
        go_wp2_with (go_at_call 36; refine (hadd _).mono ?_; rintro e w' ⟨rfl, rfl⟩)
        go_ret
        exact ⟨ret_bool (decide_eq_false (Int.not_le.2 h2)), HB.out⟩
    · obtain rfl : false = r := (ok_not (fun h => h1 h.2.1) hb).symm.trans HR.out
      clear hf
      go_enter Try.func30, Try.ntmps30
      go_wp2_with (go_at_call 36; refine (hadd _).mono ?_; rintro e w' ⟨rfl, rfl⟩)
      go_ret
      exact ⟨rfl, HB.out⟩
  · obtain rfl : false = r := (ok_not (fun h => hf h.1) hb).symm.trans HR.out
    rw [show fitB (a + n) = false by simpa using hf] at hadd
    clear hf
    go_enter Try.func30, Try.ntmps30
    go_wp2_with (go_at_call 36; refine (hadd _).mono ?_; rintro e w' ⟨rfl, rfl⟩)
    go_ret
    exact ⟨rfl, HB.out⟩
theorem one_is {a n : Int} {r : Bool} (w : World) (ha : InInt a) (hn : InInt n) (hr : okB 0 (a, n) = r) : Calls Try.prog 33 #[.agg #[.int .i64 a, .int .i64 n]] w fun e w' => e = .returned (.bool r) ∧ Below w.heap.size w w' := by
  have n0 := two_lit w (.int .i64 a) (.int .i64 n) 24
  obtain ⟨c0, c1⟩ := two_any n0 (Below.refl _ _)
  simp only [twoF] at c0 c1
  have b0 := new_below w (.cells #[.int .i64 a, .int .i64 n] 24)
  obtain ⟨v, ev⟩ : ∃ v, fitV (a + n) = v := ⟨_, rfl⟩
  have hadd := fun W => radd_any a n W ha.1 ha.2 hn.1 hn.2
  rw [ev] at hadd
  have HB := Lib.hid b0
  have HR : Hid (okB 0 (a, n) = r) := hr
  clear ev n0 hr ha hn b0
  by_cases h1 : 0 ≤ a
  · by_cases h2 : 1 ≤ n
    · obtain ⟨f, ef⟩ : ∃ f, fitB (a + n) = f := ⟨_, rfl⟩
      rw [ef] at hadd
      obtain rfl : f = r := by
        rw [← HR.out, ← ef]
        cases e : fitB (a + n) with
        | true => exact (ok_fit e h1 h2).symm
        | false => exact (ok_not (fun h => by rw [e] at h; cases h.1) (Int.le_refl 0)).symm
      clear ef
      go_enter Try.func33, Try.ntmps33
      go_wp2_with (go_at_call 37; refine (hadd _).mono ?_; rintro e w' ⟨rfl, rfl⟩)
      go_ret
      exact ⟨rfl, HB.out⟩
    · obtain rfl : false = r := (ok_not (fun h => h2 h.2.2) (Int.le_refl 0)).symm.trans HR.out
      go_enter Try.func33, Try.ntmps33
      go_wp2_with (go_at_call 37; refine (hadd _).mono ?_; rintro e w' ⟨rfl, rfl⟩)
      go_ret
      exact ⟨rfl, HB.out⟩
  · obtain rfl : false = r := (ok_not (fun h => h1 h.2.1) (Int.le_refl 0)).symm.trans HR.out
    go_enter Try.func33, Try.ntmps33
    go_wp2_with (go_at_call 37; refine (hadd _).mono ?_; rintro e w' ⟨rfl, rfl⟩)
    go_ret
    exact ⟨rfl, HB.out⟩

/-! ### Meet -/
set_option maxHeartbeats 800000 in
theorem rmeet_is {a n c m : Int} {r : Bool} (w : World) (ha : InInt a) (hn : InInt n) (hc : InInt c) (hm : InInt m) (hr : meetB (a, n) (c, m) = r) : Calls Try.prog 17 #[.agg #[.int .i64 a, .int .i64 n], .agg #[.int .i64 c, .int .i64 m]] w fun e w' => e = .returned (.bool r) ∧ Below w.heap.size w w' := by
  have n0 := (two_lit w (.int .i64 a) (.int .i64 n) 24).alloc (.cells #[.int .i64 c, .int .i64 m] 24)
  have m0 := two_lit (w.alloc (.cells #[.int .i64 a, .int .i64 n] 24)) (.int .i64 c) (.int .i64 m) 24
  rw [show (w.alloc (.cells #[.int .i64 a, .int .i64 n] 24)).heap.size = w.heap.size + 1 by simp] at m0
  have b0 : Below w.heap.size w ((w.alloc (.cells #[.int .i64 a, .int .i64 n] 24)).alloc (.cells #[.int .i64 c, .int .i64 m] 24)) := ((Below.refl _ _).alloc (Nat.le_refl _) _).alloc (by simp) _
  obtain ⟨p, ep⟩ : ∃ p, okB 0 (a, n) = p := ⟨_, rfl⟩
  obtain ⟨q, eq⟩ : ∃ q, okB 0 (c, m) = q := ⟨_, rfl⟩
  have c1 := fun W => one_is W ha hn ep
  have c2 := fun W => one_is W hc hm eq
  have HR : Hid (meetB (a, n) (c, m) = r) := hr
  have HP := Lib.hid ep
  have HQ := Lib.hid eq
  clear hr ha hn hc hm ep eq
  go_enter Try.func17, Try.ntmps17
  go_upto_region 1 with fail
  generalize (w.alloc (.cells #[.int .i64 a, .int .i64 n] 24)).alloc (.cells #[.int .i64 c, .int .i64 m] 24) = W0 at *
  have HC : Hid (∀ W, Below W0.heap.size W0 W → (W.cell? ⟨w.heap.size, 0, none⟩ = some (.int .i64 a) ∧ W.cell? ⟨w.heap.size, 1, none⟩ = some (.int .i64 n)) ∧ (W.cell? ⟨w.heap.size + 1, 0, none⟩ = some (.int .i64 c) ∧ W.cell? ⟨w.heap.size + 1, 1, none⟩ = some (.int .i64 m)) ∧ Below w.heap.size w W) := fun W hW => ⟨two_any n0 hW, two_any m0 hW, b0.trans (hW.mono b0.size)⟩
  clear n0 m0 b0
  obtain ⟨⟨d0, d1⟩, ⟨d2, d3⟩, _⟩ := HC.out _ (Below.refl _ _)
  cases p with
  | false =>
    obtain rfl : false = r := by rw [← HR.out]; unfold meetB; rw [HP.out]; rfl
    go_wp2_with fail
    refine (c1 _).mono ?_
    rintro e w1 ⟨rfl, b1⟩
    have HB := Lib.hid (HC.out _ b1).2.2
    go_wp2
    go_ret
    exact ⟨rfl, HB.out⟩
  | true =>
    go_wp2_with fail
    refine (c1 _).mono ?_
    rintro e w1 ⟨rfl, b1⟩
    clear d0 d1 d2 d3
    obtain ⟨⟨d0, d1⟩, ⟨d2, d3⟩, _⟩ := HC.out _ b1
    cases q with
    | false =>
      obtain rfl : false = r := by rw [← HR.out]; unfold meetB; rw [HP.out, HQ.out]; rfl
      go_wp2_with fail
      refine (c2 _).mono ?_
      rintro e w2 ⟨rfl, b2⟩
      have HB := Lib.hid (HC.out _ (step_below b1 b2)).2.2
      go_wp2
      go_ret
      exact ⟨rfl, HB.out⟩
    | true =>
      go_wp2_with fail
      refine (c2 _).mono ?_
      rintro e w2 ⟨rfl, b2⟩
      have b3 := step_below b1 b2
      have HB := Lib.hid (HC.out _ b3).2.2
      clear d0 d1 d2 d3
      obtain ⟨⟨d0, d1⟩, ⟨d2, d3⟩, _⟩ := HC.out _ b3
      have k1 := okB_iff.1 HP.out
      have k2 := okB_iff.1 HQ.out
      simp only at k1 k2
      have hmb : meetB (a, n) (c, m) = decide (a < c + m ∧ c < a + n) := by unfold meetB; rw [HP.out, HQ.out]; rfl
      by_cases hac : a ≤ c
      · have HV : Hid (decide (c - a < n) = r) := by
          show _ = _
          rw [← HR.out, hmb, decide_eq_decide]
          omega
        clear hmb b1 b2 b3
        have hw := i64_is (x := c - a) (by omega)
        have hd : decide (a ≤ c) = true := decide_eq_true hac
        go_wp2
        go_ret
        first | exact ⟨rfl, HB.out⟩ | exact ⟨ret_bool HV.out, HB.out⟩
      · have HV : Hid (decide (a - c < m) = r) := by
          show _ = _
          rw [← HR.out, hmb, decide_eq_decide]
          omega
        clear hmb b1 b2 b3
        have hw := i64_is (x := a - c) (by omega)
        have hd : decide (a ≤ c) = false := decide_eq_false hac
        go_wp2
        go_ret
        first | exact ⟨rfl, HB.out⟩ | exact ⟨ret_bool HV.out, HB.out⟩
/-- The program's Meet. -/
theorem meet_is {a n c m : Int} {r : Bool} (w : World) (ha : InInt a) (hn : InInt n) (hc : InInt c) (hm : InInt m) (hr : meetB (a, n) (c, m) = r) : Calls Try.prog 16 #[.agg #[.int .i64 a, .int .i64 n], .agg #[.int .i64 c, .int .i64 m]] w fun e w' => e = .returned (.bool r) ∧ Below w.heap.size w w' := by
  have n0 := (two_lit w (.int .i64 a) (.int .i64 n) 24).alloc (.cells #[.int .i64 c, .int .i64 m] 24)
  have m0 := two_lit (w.alloc (.cells #[.int .i64 a, .int .i64 n] 24)) (.int .i64 c) (.int .i64 m) 24
  rw [show (w.alloc (.cells #[.int .i64 a, .int .i64 n] 24)).heap.size = w.heap.size + 1 by simp] at m0
  have b0 : Below w.heap.size w ((w.alloc (.cells #[.int .i64 a, .int .i64 n] 24)).alloc (.cells #[.int .i64 c, .int .i64 m] 24)) := ((Below.refl _ _).alloc (Nat.le_refl _) _).alloc (by simp) _
  obtain ⟨p, ep⟩ : ∃ p, okB 0 (a, n) = p := ⟨_, rfl⟩
  obtain ⟨q, eq⟩ : ∃ q, okB 0 (c, m) = q := ⟨_, rfl⟩
  have R1 : Hid (∀ W, Calls Try.prog 30 #[.int .i64 0, .agg #[.int .i64 a, .int .i64 n]] W fun e w' => e = .returned (.bool p) ∧ Below W.heap.size W w') := fun W => right_is W (Int.le_refl 0) ha hn ep
  have R2 : Hid (∀ W, Calls Try.prog 30 #[.int .i64 0, .agg #[.int .i64 c, .int .i64 m]] W fun e w' => e = .returned (.bool q) ∧ Below W.heap.size W w') := fun W => right_is W (Int.le_refl 0) hc hm eq
  have HR : Hid (meetB (a, n) (c, m) = r) := hr
  have HP := Lib.hid ep
  have HQ := Lib.hid eq
  clear hr ha hn hc hm ep eq
  go_enter Try.func16, Try.ntmps16
  go_upto_region 1 with fail
  generalize (w.alloc (.cells #[.int .i64 a, .int .i64 n] 24)).alloc (.cells #[.int .i64 c, .int .i64 m] 24) = W0 at *
  have d0 : ∀ p : From W0, p.W.cell? ⟨w.heap.size, 0, none⟩ = some (.int .i64 a) := fun p => (two_any n0 p.bel).1
  have d1 : ∀ p : From W0, p.W.cell? ⟨w.heap.size, 1, none⟩ = some (.int .i64 n) := fun p => (two_any n0 p.bel).2
  have d2 : ∀ p : From W0, p.W.cell? ⟨w.heap.size + 1, 0, none⟩ = some (.int .i64 c) := fun p => (two_any m0 p.bel).1
  have d3 : ∀ p : From W0, p.W.cell? ⟨w.heap.size + 1, 1, none⟩ = some (.int .i64 m) := fun p => (two_any m0 p.bel).2
  have HW : Hid (∀ W, Below W0.heap.size W0 W → Below w.heap.size w W) := fun W hW => b0.trans (hW.mono b0.size)
  have hb0 := Below.refl W0.heap.size W0
  clear n0 m0 b0
  cases p with
  | false =>
    obtain rfl : false = r := by rw [← HR.out]; unfold meetB; rw [HP.out]; rfl
    refine wp_region_from (w0 := W0) (by kernel_rfl) (by kernel_rfl) hb0 ?_
    repeat (go_big_quiet_step (first | (go_at_call 30; with_reducible refine from_of (R1.out _))))
    refine wpQuiet_nil ?_
    intro _ hw'
    obtain ⟨⟨wq, hq⟩, hw''⟩ := hw'
    subst hw''
    have HB := Lib.hid (HW.out _ hq)
    go_wp2
    go_ret
    first | exact ⟨rfl, HB.out⟩ | exact ⟨ret_bool HV.out, HB.out⟩
  | true =>
    cases q with
    | false =>
      obtain rfl : false = r := by rw [← HR.out]; unfold meetB; rw [HP.out, HQ.out]; rfl
      refine wp_region_from (w0 := W0) (by kernel_rfl) (by kernel_rfl) hb0 ?_
      repeat (go_big_quiet_step (first | (go_at_call 30; with_reducible refine from_of (R1.out _)) | (go_at_call 30; with_reducible refine from_of (R2.out _))))
      refine wpQuiet_nil ?_
      intro _ hw'
      obtain ⟨⟨wq, hq⟩, hw''⟩ := hw'
      subst hw''
      have HB := Lib.hid (HW.out _ hq)
      go_wp2
      go_ret
      first | exact ⟨rfl, HB.out⟩ | exact ⟨ret_bool HV.out, HB.out⟩
    | true =>
      have k1 := okB_iff.1 HP.out
      have k2 := okB_iff.1 HQ.out
      simp only at k1 k2
      have hmb : meetB (a, n) (c, m) = decide (a < c + m ∧ c < a + n) := by unfold meetB; rw [HP.out, HQ.out]; rfl
      have B1 : Hid (∀ W, Calls Try.prog 34 #[.agg #[.int .i64 a, .int .i64 n]] W fun e w' => e = .returned (.int .i64 (a + n)) ∧ Below W.heap.size W w') := fun W => behind_is W ⟨by omega, by omega⟩ rfl
      have B2 : Hid (∀ W, Calls Try.prog 34 #[.agg #[.int .i64 c, .int .i64 m]] W fun e w' => e = .returned (.int .i64 (c + m)) ∧ Below W.heap.size W w') := fun W => behind_is W ⟨by omega, by omega⟩ rfl
      by_cases hac : a < c + m
      · have HV : Hid (decide (c < a + n) = r) := by
          show _ = _
          rw [← HR.out, hmb, decide_eq_decide]
          omega
        have hd : decide (a < c + m) = true := decide_eq_true hac
        clear hmb k1 k2 hac
        refine wp_region_from (w0 := W0) (by kernel_rfl) (by kernel_rfl) hb0 ?_
        repeat (go_big_quiet_step (first | (go_at_call 30; with_reducible refine from_of (R1.out _)) | (go_at_call 30; with_reducible refine from_of (R2.out _)) | (go_at_call 34; with_reducible refine from_of (B1.out _)) | (go_at_call 34; with_reducible refine from_of (B2.out _))))
        refine wpQuiet_nil ?_
        intro _ hw'
        obtain ⟨⟨wq, hq⟩, hw''⟩ := hw'
        subst hw''
        have HB := Lib.hid (HW.out _ hq)
        go_wp2
        go_ret
        first | exact ⟨rfl, HB.out⟩ | exact ⟨ret_bool HV.out, HB.out⟩
      · have HV : Hid (false = r) := by
          show _ = _
          rw [← HR.out, hmb, eq_comm, decide_eq_false]
          omega
        have hd : decide (a < c + m) = false := decide_eq_false hac
        clear hmb k1 k2 hac
        refine wp_region_from (w0 := W0) (by kernel_rfl) (by kernel_rfl) hb0 ?_
        repeat (go_big_quiet_step (first | (go_at_call 30; with_reducible refine from_of (R1.out _)) | (go_at_call 30; with_reducible refine from_of (R2.out _)) | (go_at_call 34; with_reducible refine from_of (B1.out _)) | (go_at_call 34; with_reducible refine from_of (B2.out _))))
        refine wpQuiet_nil ?_
        intro _ hw'
        obtain ⟨⟨wq, hq⟩, hw''⟩ := hw'
        subst hw''
        have HB := Lib.hid (HW.out _ hq)
        go_wp2
        go_ret
        first | exact ⟨rfl, HB.out⟩ | exact ⟨ret_bool HV.out, HB.out⟩
end Go.Proofs.Ytppiibdeigjcjaa
