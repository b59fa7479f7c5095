/- Layer 9 (bump): Place and Waste, and the document's own answers to them (copyholdref09): one answer for both; the chapter's example: contracts. -/
import Derived.Test.YtphpcfimooccdaaBumpNum
import Derived.Test.YtphpcfimooccdaaBaseFrom
import Derived.Test.YtphpcfimooccdaaBaseRecs
import Derived.WalkMore
import Derived.ScopeJumps
namespace Go.Proofs.Ytphpcfimooccdaa
open Go.RowKit

/-- A scope out of which the run jumps at most once, ahead: from the label on it goes without a jump. -/
theorem wp_scope_once {P : Program} {a : Act} {w : World} {Q : Exit → Act → World → Prop} {c rest : Code} (l : Nat) (hf : findLabel c l = some rest)
    (h : c.wp P (Exit.jump l (fun a w => rest.wp P (Exit.noGoto Q) a w) Q) a w) : (Code.scope c).wp P Q a w :=
  wp_scope_jumps l _ (fun _ _ => 0) hf h fun _ _ hJ => Code.wp_mono (fun e _ _ hq => by
    cases e
    case goto => exact False.elim hq
    all_goals exact hq) hJ
def TrueBelow (w : World) (e : Ending) (w' : World) : Prop := e = .returned (.bool true) ∧ Below w.heap.size w w'
/-- what is wrong, in the chapter's order. -/
def placeE (c s a h : Int) : Int :=
  if c < 0 ∨ s < 1 ∨ h < 1 ∨ powB a = false then 2 else if h < s ∨ h < a then 5 else if alignB c a = false ∨ fitB (upTo c a + s) = false then 6 else if h < upTo c a + s then 9 else 0
def placeA (c s a h : Int) : Int := if placeE c s a h = 0 then upTo c a else 0
def placeN (c s a h : Int) : Int := if placeE c s a h = 0 then upTo c a + s else 0
def wasteV (c a : Int) : Int := if alignB c a = true then upTo c a - c else 0
theorem place_no {c s a h : Int} (he : placeE c s a h ≠ 0) : placeA c s a h = 0 ∧ placeN c s a h = 0 := by
  unfold placeA placeN; rw [if_neg he, if_neg he]; exact ⟨rfl, rfl⟩
/-- the ways that Place can go. -/
theorem place_ways (c s a h : Int) :
    (c < 0 ∧ placeE c s a h = 2) ∨ (0 ≤ c ∧ s < 1 ∧ placeE c s a h = 2) ∨ (0 ≤ c ∧ 1 ≤ s ∧ h < 1 ∧ placeE c s a h = 2) ∨ (0 ≤ c ∧ 1 ≤ s ∧ 1 ≤ h ∧ powB a = false ∧ placeE c s a h = 2) ∨
    (0 ≤ c ∧ 1 ≤ s ∧ 1 ≤ h ∧ powB a = true ∧ ((h < s ∧ placeE c s a h = 5) ∨ (s ≤ h ∧ h < a ∧ placeE c s a h = 5) ∨ (s ≤ h ∧ a ≤ h ∧
      ((alignB c a = false ∧ placeE c s a h = 6) ∨ (alignB c a = true ∧ ((fitB (upTo c a + s) = false ∧ placeE c s a h = 6) ∨ (fitB (upTo c a + s) = true ∧ ((h < upTo c a + s ∧ placeE c s a h = 9) ∨ (upTo c a + s ≤ h ∧ placeE c s a h = 0))))))))) := by
  unfold placeE
  by_cases h1 : c < 0
  · left; exact ⟨h1, by rw [if_pos (.inl h1)]⟩
  right
  by_cases h2 : s < 1
  · left; exact ⟨by omega, h2, by rw [if_pos (.inr (.inl h2))]⟩
  right
  by_cases h3 : h < 1
  · left; exact ⟨by omega, by omega, h3, by rw [if_pos (.inr (.inr (.inl h3)))]⟩
  right
  cases h4 : powB a with
  | false => left; exact ⟨by omega, by omega, by omega, rfl, by rw [if_pos (.inr (.inr (.inr rfl)))]⟩
  | true =>
    right
    refine ⟨by omega, by omega, by omega, rfl, ?_⟩
    rw [if_neg (by simp; omega)]
    by_cases h5 : h < s
    · left; exact ⟨h5, by rw [if_pos (.inl h5)]⟩
    right
    by_cases h6 : h < a
    · left; exact ⟨by omega, h6, by rw [if_pos (.inr h6)]⟩
    right
    refine ⟨by omega, by omega, ?_⟩
    rw [if_neg (by omega)]
    cases h7 : alignB c a with
    | false => left; exact ⟨rfl, by rw [if_pos (.inl rfl)]⟩
    | true =>
      right
      refine ⟨rfl, ?_⟩
      cases h8 : fitB (upTo c a + s) with
      | false => left; exact ⟨rfl, by rw [if_pos (.inr rfl)]⟩
      | true =>
        right
        refine ⟨rfl, ?_⟩
        rw [if_neg (by simp)]
        by_cases h9 : h < upTo c a + s
        · left; exact ⟨h9, by rw [if_pos h9]⟩
        · right; exact ⟨by omega, by rw [if_neg h9]⟩
theorem alignV_range (c a : Int) : 0 ≤ alignV c a ∧ alignV c a ≤ 9223372036854775807 := by
  unfold alignV
  cases e : alignB c a with
  | false => rw [if_neg (by decide)]; omega
  | true =>
    rw [if_pos rfl]
    unfold alignB at e
    simp only [Bool.and_eq_true, decide_eq_true_iff] at e
    obtain ⟨⟨h0, hp⟩, hf⟩ := e
    have := upTo_law (n := c) (powB_iff.1 hp).1
    have := fitB_iff.1 hf
    omega
/-- what Align answers, as letters. -/
theorem align_letters (c a s : Int) : ∃ (v : Int) (p : Bool) (n : Int) (q : Bool), Hid (alignV c a = v) ∧ Hid (alignB c a = p) ∧ Hid (fitV (v + s) = n) ∧ Hid (fitB (v + s) = q) ∧ 0 ≤ v ∧ v ≤ 9223372036854775807 := by
  have := alignV_range c a
  exact ⟨_, _, _, _, Lib.hid rfl, Lib.hid rfl, Lib.hid rfl, Lib.hid rfl, this.1, this.2⟩

/-! ### Place -/
theorem place_arg {c s a h v n : Int} {p q r : Bool} (w : World) (hc : InInt c) (hs : InInt s) (ha : InInt a) (V : Hid (alignV c a = v)) (P : Hid (alignB c a = p)) (N : Hid (fitV (v + s) = n)) (Q : Hid (fitB (v + s) = q)) (R : Hid (powB a = r)) (v0 : 0 ≤ v) (v1 : v ≤ 9223372036854775807)
    (way : c < 0 ∨ (0 ≤ c ∧ s < 1) ∨ (0 ≤ c ∧ 1 ≤ s ∧ h < 1) ∨ (0 ≤ c ∧ 1 ≤ s ∧ 1 ≤ h ∧ r = false)) :
    Calls Try.prog 5 #[.int .i64 c, .int .i64 s, .int .i64 a, .int .i64 h] w fun e w' => e = .returned (.tuple #[.int .i64 0, .int .i64 0, .int .i64 2]) ∧ w = w' := by
  unfold InInt at hc hs ha
  have hnot := not_any
  rcases way with g | ⟨g0, g1⟩ | ⟨g0, g1, g2⟩ | ⟨g0, g1, g2, g3⟩
  all_goals
    try subst g3
    go_enter Try.func5, Try.ntmps5
    go_wp2_with fail
    go_step3
    go_wp2_with (first
      | (go_at_call 10; refine (align_is _ hc.2 ha.2 V.out P.out).mono ?_; rintro e w' ⟨rfl, rfl⟩)
      | (go_at_call 11; refine (add_is _ (by omega) (by omega) hs.1 hs.2 N.out Q.out).mono ?_; rintro e w' ⟨rfl, rfl⟩)
      | (go_at_call 12; refine (power_is _ ha.2 R.out).mono ?_; rintro e w' ⟨rfl, rfl⟩))
    rw [Exit.noGoto_ret]
    go_ret3
    exact ⟨rfl, rfl⟩
theorem place_more {c s a h v n x y e : Int} {p q : Bool} (w : World) (hc : InInt c) (hs : InInt s) (ha : InInt a) (hh : InInt h) (V : Hid (alignV c a = v)) (P : Hid (alignB c a = p)) (N : Hid (fitV (v + s) = n)) (Q : Hid (fitB (v + s) = q)) (R : Hid (powB a = true)) (v0 : 0 ≤ v) (v1 : v ≤ 9223372036854775807)
    (g0 : 0 ≤ c) (g1 : 1 ≤ s) (g2 : 1 ≤ h)
    (way : (h < s ∧ x = 0 ∧ y = 0 ∧ e = 5) ∨ (s ≤ h ∧ h < a ∧ x = 0 ∧ y = 0 ∧ e = 5) ∨ (s ≤ h ∧ a ≤ h ∧ p = false ∧ x = 0 ∧ y = 0 ∧ e = 6) ∨ (s ≤ h ∧ a ≤ h ∧ p = true ∧ q = false ∧ x = 0 ∧ y = 0 ∧ e = 6) ∨
      (s ≤ h ∧ a ≤ h ∧ p = true ∧ q = true ∧ h < n ∧ x = 0 ∧ y = 0 ∧ e = 9)) :
    Calls Try.prog 5 #[.int .i64 c, .int .i64 s, .int .i64 a, .int .i64 h] w fun e' w' => e' = .returned (.tuple #[.int .i64 x, .int .i64 y, .int .i64 e]) ∧ w = w' := by
  unfold InInt at hc hs ha hh
  have hnot := not_any
  rcases way with ⟨g3, rfl, rfl, rfl⟩ | ⟨g3, g4, rfl, rfl, rfl⟩ | ⟨g3, g4, rfl, rfl, rfl, rfl⟩ | ⟨g3, g4, rfl, rfl, rfl, rfl, rfl⟩ | ⟨g3, g4, rfl, rfl, g5, rfl, rfl, rfl⟩
  all_goals
    go_enter Try.func5, Try.ntmps5
    go_wp2_with fail
    go_step3
    go_wp2_with (first
      | (go_at_call 10; refine (align_is _ hc.2 ha.2 V.out P.out).mono ?_; rintro e w' ⟨rfl, rfl⟩)
      | (go_at_call 11; refine (add_is _ (by omega) (by omega) hs.1 hs.2 N.out Q.out).mono ?_; rintro e w' ⟨rfl, rfl⟩)
      | (go_at_call 12; refine (power_is _ ha.2 R.out).mono ?_; rintro e w' ⟨rfl, rfl⟩))
    rw [Exit.noGoto_ret]
    go_ret3
    exact ⟨rfl, rfl⟩
theorem place_ok {c s a h v n : Int} (w : World) (hc : InInt c) (hs : InInt s) (ha : InInt a) (hh : InInt h) (V : Hid (alignV c a = v)) (P : Hid (alignB c a = true)) (N : Hid (fitV (v + s) = n)) (Q : Hid (fitB (v + s) = true)) (R : Hid (powB a = true)) (v0 : 0 ≤ v) (v1 : v ≤ 9223372036854775807)
    (g0 : 0 ≤ c) (g1 : 1 ≤ s) (g2 : 1 ≤ h) (g3 : s ≤ h) (g4 : a ≤ h) (g5 : n ≤ h) :
    Calls Try.prog 5 #[.int .i64 c, .int .i64 s, .int .i64 a, .int .i64 h] w fun e' w' => e' = .returned (.tuple #[.int .i64 v, .int .i64 n, .int .i64 0]) ∧ w = w' := by
  unfold InInt at hc hs ha hh
  have hnot := not_any
  go_enter Try.func5, Try.ntmps5
  go_wp2_with fail
  refine wp_scope_once 0 rfl ?_
  go_wp2_with (first
    | (go_at_call 10; refine (align_is _ hc.2 ha.2 V.out P.out).mono ?_; rintro e w' ⟨rfl, rfl⟩)
    | (go_at_call 11; refine (add_is _ (by omega) (by omega) hs.1 hs.2 N.out Q.out).mono ?_; rintro e w' ⟨rfl, rfl⟩)
    | (go_at_call 12; refine (power_is _ ha.2 R.out).mono ?_; rintro e w' ⟨rfl, rfl⟩))
  go_step3
  refine ⟨rfl, ?_⟩
  go_wp2_with fail
  rw [Exit.noGoto_ret]
  go_ret3
  exact ⟨rfl, rfl⟩
/-! ### the document's own Place -/
theorem rplace_arg {c s a h : Int} {r : Bool} (w : World) (ha : InInt a) (R : Hid (powB a = r))
    (way : c < 0 ∨ (0 ≤ c ∧ s < 1) ∨ (0 ≤ c ∧ 1 ≤ s ∧ h < 1) ∨ (0 ≤ c ∧ 1 ≤ s ∧ 1 ≤ h ∧ r = false)) :
    Calls Try.prog 6 #[.int .i64 c, .int .i64 s, .int .i64 a, .int .i64 h] w fun e w' => e = .returned (.tuple #[.int .i64 0, .int .i64 0, .int .i64 2]) ∧ w = w' := by
  unfold InInt at ha
  have hnot := not_any
  rcases way with g | ⟨g0, g1⟩ | ⟨g0, g1, g2⟩ | ⟨g0, g1, g2, g3⟩
  all_goals
    try subst g3
    go_enter Try.func6, Try.ntmps6
    go_wp2_with (go_at_call 13; refine (rpower_is _ ha.2 R.out).mono ?_; rintro e w' ⟨rfl, rfl⟩)
    go_ret3
    exact ⟨rfl, rfl⟩
theorem rplace_more {c s a h v n x y e : Int} {p q : Bool} (w : World) (hc : InInt c) (hs : InInt s) (ha : InInt a) (V : Hid (alignV c a = v)) (P : Hid (alignB c a = p)) (N : Hid (fitV (v + s) = n)) (Q : Hid (fitB (v + s) = q)) (R : Hid (powB a = true)) (v0 : 0 ≤ v) (v1 : v ≤ 9223372036854775807)
    (g0 : 0 ≤ c) (g1 : 1 ≤ s) (g2 : 1 ≤ h)
    (way : (h < s ∧ x = 0 ∧ y = 0 ∧ e = 5) ∨ (s ≤ h ∧ h < a ∧ x = 0 ∧ y = 0 ∧ e = 5) ∨ (s ≤ h ∧ a ≤ h ∧ p = false ∧ x = 0 ∧ y = 0 ∧ e = 6) ∨ (s ≤ h ∧ a ≤ h ∧ p = true ∧ q = false ∧ x = 0 ∧ y = 0 ∧ e = 6) ∨
      (s ≤ h ∧ a ≤ h ∧ p = true ∧ q = true ∧ h < n ∧ x = 0 ∧ y = 0 ∧ e = 9) ∨ (s ≤ h ∧ a ≤ h ∧ p = true ∧ q = true ∧ n ≤ h ∧ x = v ∧ y = n ∧ e = 0)) :
    Calls Try.prog 6 #[.int .i64 c, .int .i64 s, .int .i64 a, .int .i64 h] w fun e' w' => e' = .returned (.tuple #[.int .i64 x, .int .i64 y, .int .i64 e]) ∧ w = w' := by
  unfold InInt at hc hs ha
  have hnot := not_any
  rcases way with ⟨g3, rfl, rfl, rfl⟩ | ⟨g3, g4, rfl, rfl, rfl⟩ | ⟨g3, g4, rfl, rfl, rfl, rfl⟩ | ⟨g3, g4, rfl, rfl, rfl, rfl, rfl⟩ | ⟨g3, g4, rfl, rfl, g5, rfl, rfl, rfl⟩ | ⟨g3, g4, rfl, rfl, g5, rfl, rfl, rfl⟩
  all_goals
    go_enter Try.func6, Try.ntmps6
    go_wp2_with (first
      | (go_at_call 14; refine (ralign_is _ hc.2 ha.2 V.out P.out).mono ?_; rintro e w' ⟨rfl, rfl⟩)
      | (go_at_call 15; refine (radd_is _ (by omega) (by omega) hs.1 hs.2 N.out Q.out).mono ?_; rintro e w' ⟨rfl, rfl⟩)
      | (go_at_call 13; refine (rpower_is _ ha.2 R.out).mono ?_; rintro e w' ⟨rfl, rfl⟩))
    go_ret3
    exact ⟨rfl, rfl⟩
/-- both Places, whatever they are asked. -/
theorem place_both {c s a h x y e : Int} (w : World) (hc : InInt c) (hs : InInt s) (ha : InInt a) (hh : InInt h) (hx : placeA c s a h = x) (hy : placeN c s a h = y) (he : placeE c s a h = e) :
    (Calls Try.prog 5 #[.int .i64 c, .int .i64 s, .int .i64 a, .int .i64 h] w fun e' w' => e' = .returned (.tuple #[.int .i64 x, .int .i64 y, .int .i64 e]) ∧ w = w') ∧
    (Calls Try.prog 6 #[.int .i64 c, .int .i64 s, .int .i64 a, .int .i64 h] w fun e' w' => e' = .returned (.tuple #[.int .i64 x, .int .i64 y, .int .i64 e]) ∧ w = w') := by
  obtain ⟨v, p, n, q, V, P, N, Q, v0, v1⟩ := align_letters c a s
  obtain ⟨r, er⟩ : ∃ r, powB a = r := ⟨_, rfl⟩
  have R := Lib.hid er
  have none : placeE c s a h ≠ 0 → x = 0 ∧ y = 0 := fun k => by rw [← hx, ← hy]; exact place_no k
  rcases place_ways c s a h with ⟨g, k⟩ | ⟨g0, g1, k⟩ | ⟨g0, g1, g2, k⟩ | ⟨g0, g1, g2, g3, k⟩ | ⟨g0, g1, g2, g3, more⟩
  · obtain ⟨rfl, rfl⟩ := none (by omega)
    obtain rfl : e = 2 := by omega
    exact ⟨place_arg w hc hs ha V P N Q R v0 v1 (.inl g), rplace_arg w ha R (.inl g)⟩
  · obtain ⟨rfl, rfl⟩ := none (by omega)
    obtain rfl : e = 2 := by omega
    exact ⟨place_arg w hc hs ha V P N Q R v0 v1 (.inr (.inl ⟨g0, g1⟩)), rplace_arg w ha R (.inr (.inl ⟨g0, g1⟩))⟩
  · obtain ⟨rfl, rfl⟩ := none (by omega)
    obtain rfl : e = 2 := by omega
    exact ⟨place_arg w hc hs ha V P N Q R v0 v1 (.inr (.inr (.inl ⟨g0, g1, g2⟩))), rplace_arg w ha R (.inr (.inr (.inl ⟨g0, g1, g2⟩)))⟩
  · obtain ⟨rfl, rfl⟩ := none (by omega)
    obtain rfl : e = 2 := by omega
    have g4 : r = false := by rw [← er]; exact g3
    exact ⟨place_arg w hc hs ha V P N Q R v0 v1 (.inr (.inr (.inr ⟨g0, g1, g2, g4⟩))), rplace_arg w ha R (.inr (.inr (.inr ⟨g0, g1, g2, g4⟩)))⟩
  · have R' := Lib.hid g3
    have way : (h < s ∧ x = 0 ∧ y = 0 ∧ e = 5) ∨ (s ≤ h ∧ h < a ∧ x = 0 ∧ y = 0 ∧ e = 5) ∨ (s ≤ h ∧ a ≤ h ∧ p = false ∧ x = 0 ∧ y = 0 ∧ e = 6) ∨ (s ≤ h ∧ a ≤ h ∧ p = true ∧ q = false ∧ x = 0 ∧ y = 0 ∧ e = 6) ∨
        (s ≤ h ∧ a ≤ h ∧ p = true ∧ q = true ∧ h < n ∧ x = 0 ∧ y = 0 ∧ e = 9) ∨ (s ≤ h ∧ a ≤ h ∧ p = true ∧ q = true ∧ n ≤ h ∧ x = v ∧ y = n ∧ e = 0) := by
      rcases more with ⟨g4, k⟩ | ⟨g4, g5, k⟩ | ⟨g4, g5, ⟨g6, k⟩ | ⟨g6, more⟩⟩
      · obtain ⟨k1, k2⟩ := none (by omega)
        exact .inl ⟨g4, k1, k2, by omega⟩
      · obtain ⟨k1, k2⟩ := none (by omega)
        exact .inr (.inl ⟨g4, g5, k1, k2, by omega⟩)
      · obtain ⟨k1, k2⟩ := none (by omega)
        exact .inr (.inr (.inl ⟨g4, g5, by rw [← P.out]; exact g6, k1, k2, by omega⟩))
      · have ev : v = upTo c a := by rw [← V.out]; exact alignV_yes g6
        have ep : p = true := by rw [← P.out]; exact g6
        have eN := N.out
        have eQ := Q.out
        rw [ev] at eN eQ
        rcases more with ⟨g7, k⟩ | ⟨g7, ⟨g8, k⟩ | ⟨g8, k⟩⟩
        · obtain ⟨k1, k2⟩ := none (by omega)
          exact .inr (.inr (.inr (.inl ⟨g4, g5, ep, by rw [← eQ]; exact g7, k1, k2, by omega⟩)))
        · obtain ⟨k1, k2⟩ := none (by omega)
          rw [fitV_yes g7] at eN
          exact .inr (.inr (.inr (.inr (.inl ⟨g4, g5, ep, by rw [← eQ]; exact g7, by omega, k1, k2, by omega⟩))))
        · rw [fitV_yes g7] at eN
          have kx : upTo c a = x := by rw [← hx]; unfold placeA; rw [if_pos k]
          have ky : upTo c a + s = y := by rw [← hy]; unfold placeN; rw [if_pos k]
          exact .inr (.inr (.inr (.inr (.inr ⟨g4, g5, ep, by rw [← eQ]; exact g7, by omega, by omega, by omega, by omega⟩))))
    refine ⟨?_, rplace_more w hc hs ha V P N Q R' v0 v1 g0 g1 g2 way⟩
    rcases way with k | k | k | k | k | ⟨g4, g5, k1, k2, g6, k3, k4, k5⟩
    · exact place_more w hc hs ha hh V P N Q R' v0 v1 g0 g1 g2 (.inl k)
    · exact place_more w hc hs ha hh V P N Q R' v0 v1 g0 g1 g2 (.inr (.inl k))
    · exact place_more w hc hs ha hh V P N Q R' v0 v1 g0 g1 g2 (.inr (.inr (.inl k)))
    · exact place_more w hc hs ha hh V P N Q R' v0 v1 g0 g1 g2 (.inr (.inr (.inr (.inl k))))
    · exact place_more w hc hs ha hh V P N Q R' v0 v1 g0 g1 g2 (.inr (.inr (.inr (.inr k))))
    · rw [k1] at P
      rw [k2] at Q
      rw [k3, k4, k5]
      exact place_ok w hc hs ha hh V P N Q R' v0 v1 g0 g1 g2 g4 g5 g6
theorem place_is {c s a h x y e : Int} (w : World) (hc : InInt c) (hs : InInt s) (ha : InInt a) (hh : InInt h) (hx : placeA c s a h = x) (hy : placeN c s a h = y) (he : placeE c s a h = e) :
    Calls Try.prog 5 #[.int .i64 c, .int .i64 s, .int .i64 a, .int .i64 h] w fun e' w' => e' = .returned (.tuple #[.int .i64 x, .int .i64 y, .int .i64 e]) ∧ w = w' := (place_both w hc hs ha hh hx hy he).1
theorem rplace_is {c s a h x y e : Int} (w : World) (hc : InInt c) (hs : InInt s) (ha : InInt a) (hh : InInt h) (hx : placeA c s a h = x) (hy : placeN c s a h = y) (he : placeE c s a h = e) :
    Calls Try.prog 6 #[.int .i64 c, .int .i64 s, .int .i64 a, .int .i64 h] w fun e' w' => e' = .returned (.tuple #[.int .i64 x, .int .i64 y, .int .i64 e]) ∧ w = w' := (place_both w hc hs ha hh hx hy he).2
/-! ### Waste -/
theorem waste_both {c a x : Int} (w : World) (hc : InInt c) (ha : InInt a) (hx : wasteV c a = x) :
    (Calls Try.prog 7 #[.int .i64 c, .int .i64 a] w fun e' w' => e' = .returned (.int .i64 x) ∧ w = w') ∧
    (Calls Try.prog 8 #[.int .i64 c, .int .i64 a] w fun e' w' => e' = .returned (.int .i64 x) ∧ w = w') := by
  unfold InInt at hc ha
  have hnot := not_any
  obtain ⟨v, p, n, q, V, P, N, Q, v0, v1⟩ := align_letters c a 0
  cases p with
  | false =>
    obtain rfl : x = 0 := by rw [← hx]; unfold wasteV; rw [P.out, if_neg (by decide)]
    clear hx N Q
    constructor
    · go_enter Try.func7, Try.ntmps7
      go_wp2_with (go_at_call 10; refine (align_is _ hc.2 ha.2 V.out P.out).mono ?_; rintro e w' ⟨rfl, rfl⟩)
      go_ret
      exact ⟨rfl, rfl⟩
    · go_enter Try.func8, Try.ntmps8
      go_wp2_with (go_at_call 14; refine (ralign_is _ hc.2 ha.2 V.out P.out).mono ?_; rintro e w' ⟨rfl, rfl⟩)
      go_ret
      exact ⟨rfl, rfl⟩
  | true =>
    have ex : v - c = x := by rw [← hx, ← V.out]; unfold wasteV; rw [P.out, if_pos rfl, alignV_yes P.out]
    have c0 : 0 ≤ c := by
      have := P.out
      unfold alignB at this
      simp only [Bool.and_eq_true, decide_eq_true_iff] at this
      exact this.1.1
    have X := Lib.hid ex
    clear ex hx N Q
    constructor
    · go_enter Try.func7, Try.ntmps7
      go_wp2_with (go_at_call 10; refine (align_is _ hc.2 ha.2 V.out P.out).mono ?_; rintro e w' ⟨rfl, rfl⟩)
      go_ret
      exact ⟨ret_int X.out, rfl⟩
    · go_enter Try.func8, Try.ntmps8
      go_wp2_with (go_at_call 14; refine (ralign_is _ hc.2 ha.2 V.out P.out).mono ?_; rintro e w' ⟨rfl, rfl⟩)
      go_ret
      exact ⟨ret_int X.out, rfl⟩
theorem waste_is {c a x : Int} (w : World) (hc : InInt c) (ha : InInt a) (hx : wasteV c a = x) :
    Calls Try.prog 7 #[.int .i64 c, .int .i64 a] w fun e' w' => e' = .returned (.int .i64 x) ∧ w = w' := (waste_both w hc ha hx).1
theorem rwaste_is {c a x : Int} (w : World) (hc : InInt c) (ha : InInt a) (hx : wasteV c a = x) :
    Calls Try.prog 8 #[.int .i64 c, .int .i64 a] w fun e' w' => e' = .returned (.int .i64 x) ∧ w = w' := (waste_both w hc ha hx).2
/-! ### the chapter's example -/
theorem in_int {x : Int} (h : -9223372036854775808 ≤ x ∧ x ≤ 9223372036854775807) : InInt x := h
theorem ex1 : placeA 5 3 4 64 = 8 ∧ placeN 5 3 4 64 = 11 ∧ placeE 5 3 4 64 = 0 := ⟨by kernel_rfl, by kernel_rfl, by kernel_rfl⟩
theorem ex2 : placeA 60 5 1 64 = 0 ∧ placeN 60 5 1 64 = 0 ∧ placeE 60 5 1 64 = 9 := ⟨by kernel_rfl, by kernel_rfl, by kernel_rfl⟩
theorem ex3 : placeA 0 65 1 64 = 0 ∧ placeN 0 65 1 64 = 0 ∧ placeE 0 65 1 64 = 5 := ⟨by kernel_rfl, by kernel_rfl, by kernel_rfl⟩
theorem ex4 : wasteV 5 4 = 3 := by kernel_rfl
theorem works_any (w : World) : Calls Try.prog 9 #[] w fun e w' => e = .returned (.bool true) ∧ w = w' := by
  go_enter Try.func9, Try.ntmps9
  go_wp2_with fail
  refine (place_is _ (in_int (by omega)) (in_int (by omega)) (in_int (by omega)) (in_int (by omega)) ex1.1 ex1.2.1 ex1.2.2).mono ?_
  rintro e w' ⟨rfl, rfl⟩
  go_wp2_with fail
  refine (place_is _ (in_int (by omega)) (in_int (by omega)) (in_int (by omega)) (in_int (by omega)) ex2.1 ex2.2.1 ex2.2.2).mono ?_
  rintro e w' ⟨rfl, rfl⟩
  go_wp2_with fail
  refine (place_is _ (in_int (by omega)) (in_int (by omega)) (in_int (by omega)) (in_int (by omega)) ex3.1 ex3.2.1 ex3.2.2).mono ?_
  rintro e w' ⟨rfl, rfl⟩
  go_wp2_with fail
  refine (waste_is _ (in_int (by omega)) (in_int (by omega)) ex4).mono ?_
  rintro e w' ⟨rfl, rfl⟩
  go_wp2_with fail
  go_ret
  exact ⟨rfl, rfl⟩
end Go.Proofs.Ytphpcfimooccdaa
