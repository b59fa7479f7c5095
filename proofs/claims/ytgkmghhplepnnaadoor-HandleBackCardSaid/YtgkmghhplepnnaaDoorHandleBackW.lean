/- The walk of HandleBack (written by gen_back.py). -/
import Derived.Test.YtgkmghhplepnnaaDoorHandleRefs
import Derived.Test.YtgkmghhplepnnaaDoorBaseFour
namespace Go.Proofs.YtgkmghhplepnnaaDoor
open Go.RowKit

/-! ### there and back -/
theorem put_get {k p g o : Int} (h : putE k p g o = 0) : isB (putV k p g o) = true ∧ getN (putV k p g o) 0 = k ∧ getN (putV k p g o) 1 = p ∧ getN (putV k p g o) 2 = g ∧ getN (putV k p g o) 3 = o ∧ 0 < putV k p g o ∧ InInt (putV k p g o) := by
  have hv := putV_yes h
  obtain ⟨hk, hp, hg, ho⟩ := putE_zero.1 h
  have hp := overB_not.1 hp
  have hg := overB_not.1 hg
  have ho := overB_not.1 ho
  generalize putV k p g o = v at *
  have hb : isB v = true := isB_iff.2 (by omega)
  refine ⟨hb, ?_, ?_, ?_, ?_, by omega, ⟨by omega, by omega⟩⟩
  · rw [getN_yes hb]; show v / 1152921504606846976 = k; omega
  · rw [getN_yes hb]; show v / 1099511627776 % 1048576 = p; omega
  · rw [getN_yes hb]; show v / 1048576 % 1048576 = g; omega
  · rw [getN_yes hb]; show v % 1048576 = o; omega
theorem get_put {h : Int} (hh : isB h = true) : putE (quoV h 0) (quoV h 1) (quoV h 2) (quoV h 3) = 0 ∧ putV (quoV h 0) (quoV h 1) (quoV h 2) (quoV h 3) = h := by
  have h1 := isB_iff.1 hh
  have e : putE (quoV h 0) (quoV h 1) (quoV h 2) (quoV h 3) = 0 := by
    refine putE_zero.2 ⟨?_, overB_not.2 ?_, overB_not.2 ?_, overB_not.2 ?_⟩
    · exact quo_0 hh
    · show 0 ≤ h / 1099511627776 % 1048576 ∧ h / 1099511627776 % 1048576 < 1048576; omega
    · show 0 ≤ h / 1048576 % 1048576 ∧ h / 1048576 % 1048576 < 1048576; omega
    · show 0 ≤ h % 1048576 ∧ h % 1048576 < 1048576; omega
  refine ⟨e, ?_⟩
  rw [putV_yes e]
  show h / 1152921504606846976 * 1152921504606846976 + h / 1099511627776 % 1048576 * 1099511627776 + h / 1048576 % 1048576 * 1048576 + h % 1048576 = h
  omega
theorem put_same {k p g o x y z u : Int} (h : putE k p g o = 0) (h' : putE x y z u = 0) : putV k p g o = putV x y z u ↔ k = x ∧ p = y ∧ g = z ∧ o = u := by
  constructor
  · intro e
    obtain ⟨_, a1, a2, a3, a4, _⟩ := put_get h
    obtain ⟨_, b1, b2, b3, b4, _⟩ := put_get h'
    rw [e] at a1 a2 a3 a4
    exact ⟨a1.symm.trans b1, a2.symm.trans b2, a3.symm.trans b3, a4.symm.trans b4⟩
  · rintro ⟨rfl, rfl, rfl, rfl⟩; rfl
theorem put_other {k p g o x y z u : Int} (h : putE k p g o = 0) (h' : putE x y z u = 0) : ∃ r, (putV k p g o == putV x y z u) = r ∧ decide (k = x ∧ p = y ∧ g = z ∧ o = u) = r := by
  by_cases e : putV k p g o = putV x y z u
  · exact ⟨true, by simp [e], decide_eq_true ((put_same h h').1 e)⟩
  · exact ⟨false, by simp [e], decide_eq_false fun hh => e ((put_same h h').2 hh)⟩
set_option maxHeartbeats 1600000 in
theorem back_any {w : World} {a b c d x y z u h : Int} (hT : TabOk w) (hi : InInt h) : Calls Tryd.prog 4 #[.agg #[.int .i64 a, .int .i64 b, .int .i64 c, .int .i64 d], .agg #[.int .i64 x, .int .i64 y, .int .i64 z, .int .i64 u], .int .i64 h] w (TrueBelow w) := by
  have hnot := not_any
  have n0 := (four_lit w (.int .i64 a) (.int .i64 b) (.int .i64 c) (.int .i64 d) 22).alloc (.cells #[.int .i64 x, .int .i64 y, .int .i64 z, .int .i64 u] 22)
  have m0 := four_lit (w.alloc (.cells #[.int .i64 a, .int .i64 b, .int .i64 c, .int .i64 d] 22)) (.int .i64 x) (.int .i64 y) (.int .i64 z) (.int .i64 u) 22
  have hsz : (w.alloc (.cells #[.int .i64 a, .int .i64 b, .int .i64 c, .int .i64 d] 22)).heap.size = w.heap.size + 1 := by simp
  rw [hsz] at m0
  have b0 : Below w.heap.size w ((w.alloc (.cells #[.int .i64 a, .int .i64 b, .int .i64 c, .int .i64 d] 22)).alloc (.cells #[.int .i64 x, .int .i64 y, .int .i64 z, .int .i64 u] 22)) := ((Below.refl _ _).alloc (Nat.le_refl _) _).alloc (by simp) _
  have HI := Lib.hid hi
  have hg := hT.lt
  obtain ⟨pv, epv⟩ : ∃ x, putV a b c d = x := ⟨_, rfl⟩
  obtain ⟨pe, epe⟩ : ∃ x, putE a b c d = x := ⟨_, rfl⟩
  obtain ⟨fv, efv⟩ : ∃ v, putV x y z u = v := ⟨_, rfl⟩
  obtain ⟨fe, efe⟩ : ∃ v, putE x y z u = v := ⟨_, rfl⟩
  have EPV := Lib.hid epv
  have EPE := Lib.hid epe
  have EFV := Lib.hid efv
  have EFE := Lib.hid efe
  clear epv epe efv efe hi hsz
  go_enter Tryd.func4, Tryd.ntmps4
  go_upto_region 1 with fail
  generalize (w.alloc (.cells #[.int .i64 a, .int .i64 b, .int .i64 c, .int .i64 d] 22)).alloc (.cells #[.int .i64 x, .int .i64 y, .int .i64 z, .int .i64 u] 22) = W0 at *
  have HC : Hid (∀ W, Below W0.heap.size W0 W → (W.cell? ⟨w.heap.size, 0, none⟩ = some (.int .i64 a) ∧ W.cell? ⟨w.heap.size, 1, none⟩ = some (.int .i64 b) ∧ W.cell? ⟨w.heap.size, 2, none⟩ = some (.int .i64 c) ∧ W.cell? ⟨w.heap.size, 3, none⟩ = some (.int .i64 d)) ∧ (W.cell? ⟨w.heap.size + 1, 0, none⟩ = some (.int .i64 x) ∧ W.cell? ⟨w.heap.size + 1, 1, none⟩ = some (.int .i64 y) ∧ W.cell? ⟨w.heap.size + 1, 2, none⟩ = some (.int .i64 z) ∧ W.cell? ⟨w.heap.size + 1, 3, none⟩ = some (.int .i64 u)) ∧ TabOk W ∧ Below w.heap.size w W) := fun W hW => ⟨four_any n0 hW, four_any m0 hW, hT.below (b0.trans (hW.mono b0.size)) hg, b0.trans (hW.mono b0.size)⟩
  clear n0 m0 b0 hT hg
  obtain ⟨⟨c0, c1, c2, c3⟩, ⟨d0, d1, d2, d3⟩, t0, _⟩ := HC.out _ (Below.refl _ _)
  have T0 := Lib.hid t0
  clear t0
  go_wp2_with fail
  refine (put_is _ T0.out EPV.out EPE.out).mono ?_
  rintro e w1 ⟨rfl, b1⟩
  clear c0 c1 c2 c3 d0 d1 d2 d3 T0
  obtain ⟨⟨c0, c1, c2, c3⟩, ⟨d0, d1, d2, d3⟩, t0, _⟩ := HC.out _ b1
  have T0 := Lib.hid t0
  clear t0
  go_wp2_with fail
  refine (put_is _ T0.out EFV.out EFE.out).mono ?_
  rintro e w2 ⟨rfl, b2⟩
  have b3 := step_below b1 b2
  clear b1 b2
  clear c0 c1 c2 c3 d0 d1 d2 d3 T0
  by_cases he : pe = 0
  · subst he
    obtain ⟨p1, p2, p3, p4, p5, p6, p7⟩ := put_get EPE.out
    rw [EPV.out] at p1 p2 p3 p4 p5 p6 p7
    have P1 := Lib.hid p1
    have P2 := Lib.hid p2
    have P3 := Lib.hid p3
    have P4 := Lib.hid p4
    have P5 := Lib.hid p5
    have P7 := Lib.hid p7
    clear p1 p2 p3 p4 p5 p7
    have z5 : ∀ W, (Op.equalIn 10000 22 (.agg #[.int .i64 a, .int .i64 b, .int .i64 c, .int .i64 d]) (.agg #[.int .i64 a, .int .i64 b, .int .i64 c, .int .i64 d])).run Tryd.prog W = .ok true W := fun W => eql_four_is W (by simp)
    have hle : ¬ pv ≤ 0 := by omega
    go_wp2_with fail
    refine (get_is _ (HC.out _ b3).2.2.1 P7.out P1.out P2.out P3.out P4.out P5.out).mono ?_
    rintro e w3 ⟨rfl, b4⟩
    have b5 := step_below b3 b4
    clear b3 b4
    have b3 := b5
    clear b5
    obtain ⟨⟨c0, c1, c2, c3⟩, ⟨d0, d1, d2, d3⟩, _, _⟩ := HC.out _ b3
    by_cases hf : fe = 0
    · subst hf
      obtain ⟨r, h1, h2⟩ := put_other EPE.out EFE.out
      rw [EPV.out, EFV.out] at h1
      have z6 : ∀ W, (Op.equalIn 10000 22 (.agg #[.int .i64 a, .int .i64 b, .int .i64 c, .int .i64 d]) (.agg #[.int .i64 x, .int .i64 y, .int .i64 z, .int .i64 u])).run Tryd.prog W = .ok r W := fun W => eql_four_is W h2
      have z7 : (r == r) = true := by simp
      clear h2
      go_upto_region 7 with fail
      clear c0 c1 c2 c3 d0 d1 d2 d3
      cases hr : isB h with
      | true =>
        obtain ⟨g1, g2⟩ := get_put hr
        have G1 := Lib.hid g1
        have G2 := Lib.hid g2
        have HR := Lib.hid hr
        obtain ⟨q0, eq0⟩ : ∃ x, quoV h 0 = x := ⟨_, rfl⟩
        obtain ⟨q1, eq1⟩ : ∃ x, quoV h 1 = x := ⟨_, rfl⟩
        obtain ⟨q2, eq2⟩ : ∃ x, quoV h 2 = x := ⟨_, rfl⟩
        obtain ⟨q3, eq3⟩ : ∃ x, quoV h 3 = x := ⟨_, rfl⟩
        rw [eq0, eq1, eq2, eq3] at G1 G2
        have Q0 : Hid (getN h 0 = q0) := (getN_yes hr 0).trans eq0
        have Q1 : Hid (getN h 1 = q1) := (getN_yes hr 1).trans eq1
        have Q2 : Hid (getN h 2 = q2) := (getN_yes hr 2).trans eq2
        have Q3 : Hid (getN h 3 = q3) := (getN_yes hr 3).trans eq3
        clear g1 g2 hr eq0 eq1 eq2 eq3
        have hhh : (h == h) = true := by simp
        go_wp2_with fail
        refine (get_is _ (HC.out _ b3).2.2.1 HI.out HR.out Q0.out Q1.out Q2.out Q3.out).mono ?_
        rintro e w8 ⟨rfl, b8⟩
        have b9 := step_below b3 b8
        go_wp2_with fail
        refine (put_is _ (HC.out _ b9).2.2.1 G2.out G1.out).mono ?_
        rintro e w9 ⟨rfl, b10⟩
        have b11 := step_below b9 b10
        go_wp2_with fail
        refine (works_any (HC.out _ b11).2.2.1).mono ?_
        rintro e w10 ⟨rfl, b12⟩
        have B13 := Lib.hid (HC.out _ (step_below b11 b12)).2.2.2
        go_wp2
        go_ret
        exact ⟨rfl, B13.out⟩
      | false =>
        have Q0 := Lib.hid (getN_no hr 0)
        have Q1 := Lib.hid (getN_no hr 1)
        have Q2 := Lib.hid (getN_no hr 2)
        have Q3 := Lib.hid (getN_no hr 3)
        have HR := Lib.hid hr
        clear hr
        go_wp2_with fail
        refine (get_is _ (HC.out _ b3).2.2.1 HI.out HR.out Q0.out Q1.out Q2.out Q3.out).mono ?_
        rintro e w8 ⟨rfl, b8⟩
        have b9 := step_below b3 b8
        go_wp2_with fail
        refine (put_is (v := 0) (x := 1) _ (HC.out _ b9).2.2.1 (by decide) (by decide)).mono ?_
        rintro e w9 ⟨rfl, b10⟩
        have b11 := step_below b9 b10
        go_wp2_with fail
        refine (works_any (HC.out _ b11).2.2.1).mono ?_
        rintro e w10 ⟨rfl, b12⟩
        have B13 := Lib.hid (HC.out _ (step_below b11 b12)).2.2.2
        go_wp2
        go_ret
        exact ⟨rfl, B13.out⟩
    · have z6 : (fe == 0) = false := by simp [hf]
      go_upto_region 7 with fail
      clear c0 c1 c2 c3 d0 d1 d2 d3
      cases hr : isB h with
      | true =>
        obtain ⟨g1, g2⟩ := get_put hr
        have G1 := Lib.hid g1
        have G2 := Lib.hid g2
        have HR := Lib.hid hr
        obtain ⟨q0, eq0⟩ : ∃ x, quoV h 0 = x := ⟨_, rfl⟩
        obtain ⟨q1, eq1⟩ : ∃ x, quoV h 1 = x := ⟨_, rfl⟩
        obtain ⟨q2, eq2⟩ : ∃ x, quoV h 2 = x := ⟨_, rfl⟩
        obtain ⟨q3, eq3⟩ : ∃ x, quoV h 3 = x := ⟨_, rfl⟩
        rw [eq0, eq1, eq2, eq3] at G1 G2
        have Q0 : Hid (getN h 0 = q0) := (getN_yes hr 0).trans eq0
        have Q1 : Hid (getN h 1 = q1) := (getN_yes hr 1).trans eq1
        have Q2 : Hid (getN h 2 = q2) := (getN_yes hr 2).trans eq2
        have Q3 : Hid (getN h 3 = q3) := (getN_yes hr 3).trans eq3
        clear g1 g2 hr eq0 eq1 eq2 eq3
        have hhh : (h == h) = true := by simp
        go_wp2_with fail
        refine (get_is _ (HC.out _ b3).2.2.1 HI.out HR.out Q0.out Q1.out Q2.out Q3.out).mono ?_
        rintro e w8 ⟨rfl, b8⟩
        have b9 := step_below b3 b8
        go_wp2_with fail
        refine (put_is _ (HC.out _ b9).2.2.1 G2.out G1.out).mono ?_
        rintro e w9 ⟨rfl, b10⟩
        have b11 := step_below b9 b10
        go_wp2_with fail
        refine (works_any (HC.out _ b11).2.2.1).mono ?_
        rintro e w10 ⟨rfl, b12⟩
        have B13 := Lib.hid (HC.out _ (step_below b11 b12)).2.2.2
        go_wp2
        go_ret
        exact ⟨rfl, B13.out⟩
      | false =>
        have Q0 := Lib.hid (getN_no hr 0)
        have Q1 := Lib.hid (getN_no hr 1)
        have Q2 := Lib.hid (getN_no hr 2)
        have Q3 := Lib.hid (getN_no hr 3)
        have HR := Lib.hid hr
        clear hr
        go_wp2_with fail
        refine (get_is _ (HC.out _ b3).2.2.1 HI.out HR.out Q0.out Q1.out Q2.out Q3.out).mono ?_
        rintro e w8 ⟨rfl, b8⟩
        have b9 := step_below b3 b8
        go_wp2_with fail
        refine (put_is (v := 0) (x := 1) _ (HC.out _ b9).2.2.1 (by decide) (by decide)).mono ?_
        rintro e w9 ⟨rfl, b10⟩
        have b11 := step_below b9 b10
        go_wp2_with fail
        refine (works_any (HC.out _ b11).2.2.1).mono ?_
        rintro e w10 ⟨rfl, b12⟩
        have B13 := Lib.hid (HC.out _ (step_below b11 b12)).2.2.2
        go_wp2
        go_ret
        exact ⟨rfl, B13.out⟩
  · have z6 : (pe == 0) = false := by simp [he]
    obtain ⟨⟨c0, c1, c2, c3⟩, ⟨d0, d1, d2, d3⟩, _, _⟩ := HC.out _ b3
    go_upto_region 7 with fail
    clear c0 c1 c2 c3 d0 d1 d2 d3
    cases hr : isB h with
    | true =>
      obtain ⟨g1, g2⟩ := get_put hr
      have G1 := Lib.hid g1
      have G2 := Lib.hid g2
      have HR := Lib.hid hr
      obtain ⟨q0, eq0⟩ : ∃ x, quoV h 0 = x := ⟨_, rfl⟩
      obtain ⟨q1, eq1⟩ : ∃ x, quoV h 1 = x := ⟨_, rfl⟩
      obtain ⟨q2, eq2⟩ : ∃ x, quoV h 2 = x := ⟨_, rfl⟩
      obtain ⟨q3, eq3⟩ : ∃ x, quoV h 3 = x := ⟨_, rfl⟩
      rw [eq0, eq1, eq2, eq3] at G1 G2
      have Q0 : Hid (getN h 0 = q0) := (getN_yes hr 0).trans eq0
      have Q1 : Hid (getN h 1 = q1) := (getN_yes hr 1).trans eq1
      have Q2 : Hid (getN h 2 = q2) := (getN_yes hr 2).trans eq2
      have Q3 : Hid (getN h 3 = q3) := (getN_yes hr 3).trans eq3
      clear g1 g2 hr eq0 eq1 eq2 eq3
      have hhh : (h == h) = true := by simp
      go_wp2_with fail
      refine (get_is _ (HC.out _ b3).2.2.1 HI.out HR.out Q0.out Q1.out Q2.out Q3.out).mono ?_
      rintro e w8 ⟨rfl, b8⟩
      have b9 := step_below b3 b8
      go_wp2_with fail
      refine (put_is _ (HC.out _ b9).2.2.1 G2.out G1.out).mono ?_
      rintro e w9 ⟨rfl, b10⟩
      have b11 := step_below b9 b10
      go_wp2_with fail
      refine (works_any (HC.out _ b11).2.2.1).mono ?_
      rintro e w10 ⟨rfl, b12⟩
      have B13 := Lib.hid (HC.out _ (step_below b11 b12)).2.2.2
      go_wp2
      go_ret
      exact ⟨rfl, B13.out⟩
    | false =>
      have Q0 := Lib.hid (getN_no hr 0)
      have Q1 := Lib.hid (getN_no hr 1)
      have Q2 := Lib.hid (getN_no hr 2)
      have Q3 := Lib.hid (getN_no hr 3)
      have HR := Lib.hid hr
      clear hr
      go_wp2_with fail
      refine (get_is _ (HC.out _ b3).2.2.1 HI.out HR.out Q0.out Q1.out Q2.out Q3.out).mono ?_
      rintro e w8 ⟨rfl, b8⟩
      have b9 := step_below b3 b8
      go_wp2_with fail
      refine (put_is (v := 0) (x := 1) _ (HC.out _ b9).2.2.1 (by decide) (by decide)).mono ?_
      rintro e w9 ⟨rfl, b10⟩
      have b11 := step_below b9 b10
      go_wp2_with fail
      refine (works_any (HC.out _ b11).2.2.1).mono ?_
      rintro e w10 ⟨rfl, b12⟩
      have B13 := Lib.hid (HC.out _ (step_below b11 b12)).2.2.2
      go_wp2
      go_ret
      exact ⟨rfl, B13.out⟩
end Go.Proofs.YtgkmghhplepnnaaDoor
