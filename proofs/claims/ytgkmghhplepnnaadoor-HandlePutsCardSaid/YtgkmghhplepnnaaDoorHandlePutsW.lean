/- The walk of HandlePuts. -/
import Derived.Test.YtgkmghhplepnnaaDoorHandleRefs
import Derived.Test.YtgkmghhplepnnaaDoorBaseFour
namespace Go.Proofs.YtgkmghhplepnnaaDoor
open Go.RowKit

theorem of_no {h : Int} (k : Int) (hh : isB h = false) : ofB h k = false := by unfold ofB; rw [hh]; rfl
set_option maxHeartbeats 1600000 in
theorem puts_any {w : World} {a b c d h : Int} (hT : TabOk w) (hi : InInt h) : Calls Tryd.prog 3 #[.agg #[.int .i64 a, .int .i64 b, .int .i64 c, .int .i64 d], .int .i64 h] w (TrueBelow w) := by
  have n0 := four_lit w (.int .i64 a) (.int .i64 b) (.int .i64 c) (.int .i64 d) 22
  have b0 : Below w.heap.size w (w.alloc (.cells #[.int .i64 a, .int .i64 b, .int .i64 c, .int .i64 d] 22)) := (Below.refl _ _).alloc (Nat.le_refl _) _
  have HI := Lib.hid hi
  have hg := hT.lt
  obtain ⟨pv, epv⟩ : ∃ x, putV a b c d = x := ⟨_, rfl⟩
  obtain ⟨pe, epe⟩ : ∃ x, putE a b c d = x := ⟨_, rfl⟩
  obtain ⟨q0, eq0⟩ : ∃ x, getN h 0 = x := ⟨_, rfl⟩
  obtain ⟨q1, eq1⟩ : ∃ x, getN h 1 = x := ⟨_, rfl⟩
  obtain ⟨q2, eq2⟩ : ∃ x, getN h 2 = x := ⟨_, rfl⟩
  obtain ⟨q3, eq3⟩ : ∃ x, getN h 3 = x := ⟨_, rfl⟩
  obtain ⟨r, er⟩ : ∃ x, isB h = x := ⟨_, rfl⟩
  obtain ⟨s, es⟩ : ∃ x, ofB h a = x := ⟨_, rfl⟩
  have EPV := Lib.hid epv
  have EPE := Lib.hid epe
  have Q0 := Lib.hid eq0
  have Q1 := Lib.hid eq1
  have Q2 := Lib.hid eq2
  have Q3 := Lib.hid eq3
  have ER := Lib.hid er
  have ES := Lib.hid es
  clear epv epe eq0 eq1 eq2 eq3 er es hi
  go_enter Tryd.func3, Tryd.ntmps3
  go_upto_region 1 with fail
  generalize w.alloc (.cells #[.int .i64 a, .int .i64 b, .int .i64 c, .int .i64 d] 22) = W0 at *
  have HB : Hid (∀ W, Below W0.heap.size W0 W → Below w.heap.size w W) := fun W hW => b0.trans (hW.mono b0.size)
  have HT : Hid (∀ W, Below W0.heap.size W0 W → TabOk W) := fun W hW => hT.below (b0.trans (hW.mono b0.size)) hg
  have HC : Hid (∀ W, Below W0.heap.size W0 W → W.cell? ⟨w.heap.size, 0, none⟩ = some (.int .i64 a) ∧ W.cell? ⟨w.heap.size, 1, none⟩ = some (.int .i64 b) ∧ W.cell? ⟨w.heap.size, 2, none⟩ = some (.int .i64 c) ∧ W.cell? ⟨w.heap.size, 3, none⟩ = some (.int .i64 d)) := fun W hW => four_any n0 hW
  have hl0 := n0.lt
  have HL : Hid (w.heap.size < W0.heap.size) := hl0
  clear n0 b0 hT hg hl0
  obtain ⟨c0, c1, c2, c3⟩ := HC.out _ (Below.refl _ _)
  go_wp2_with fail
  refine (put_is _ (HT.out _ (Below.refl _ _)) EPV.out EPE.out).mono ?_
  rintro e w1 ⟨rfl, b1⟩
  clear c0 c1 c2 c3
  obtain ⟨c0, c1, c2, c3⟩ := HC.out _ b1
  go_wp2_with fail
  refine (rput_is _ EPV.out EPE.out).mono ?_
  rintro e w2 ⟨rfl, rfl⟩
  clear c0 c1 c2 c3
  go_wp2_with fail
  refine (get_is _ (HT.out _ b1) HI.out ER.out Q0.out Q1.out Q2.out Q3.out).mono ?_
  rintro e w3 ⟨rfl, b2⟩
  have b3 := step_below b1 b2
  clear b1 b2
  go_wp2_with fail
  refine (rget_is _ HI.out ER.out Q0.out Q1.out Q2.out Q3.out).mono ?_
  rintro e w4 ⟨rfl, b4⟩
  have b5 := step_below b3 b4
  clear b3 b4
  have n5 := four_lit w4 (.int .i64 q0) (.int .i64 q1) (.int .i64 q2) (.int .i64 q3) 22
  have b6 := b5.alloc b5.size (.cells #[.int .i64 q0, .int .i64 q1, .int .i64 q2, .int .i64 q3] 22)
  go_upto_region 5 with fail
  generalize w4.alloc (.cells #[.int .i64 q0, .int .i64 q1, .int .i64 q2, .int .i64 q3] 22) = W5 at *
  have HD : Hid (∀ W, Below W5.heap.size W5 W → (W.cell? ⟨w.heap.size, 0, none⟩ = some (.int .i64 a) ∧ W.cell? ⟨w.heap.size, 1, none⟩ = some (.int .i64 b) ∧ W.cell? ⟨w.heap.size, 2, none⟩ = some (.int .i64 c) ∧ W.cell? ⟨w.heap.size, 3, none⟩ = some (.int .i64 d)) ∧ (W.cell? ⟨w4.heap.size, 0, none⟩ = some (.int .i64 q0) ∧ W.cell? ⟨w4.heap.size, 1, none⟩ = some (.int .i64 q1) ∧ W.cell? ⟨w4.heap.size, 2, none⟩ = some (.int .i64 q2) ∧ W.cell? ⟨w4.heap.size, 3, none⟩ = some (.int .i64 q3)) ∧ TabOk W ∧ Below w.heap.size w W) := fun W hW => ⟨HC.out _ (step_below b6 hW), four_any n5 hW, HT.out _ (step_below b6 hW), HB.out _ (step_below b6 hW)⟩
  clear HC HT HB b5 b6 n5 HL
  obtain ⟨⟨c0, c1, c2, c3⟩, ⟨d0, d1, d2, d3⟩, _, _⟩ := HD.out _ (Below.refl _ _)
  have hbl := drew_below W5
  have z1 : (pv == pv) = true := by simp
  have z2 : (pe == pe) = true := by simp
  have z3 : (r == r) = true := by simp
  have z4 : (s == s) = true := by simp
  have z5 : ∀ W, (Op.equalIn 10000 22 (.agg #[.int .i64 q0, .int .i64 q1, .int .i64 q2, .int .i64 q3]) (.agg #[.int .i64 q0, .int .i64 q1, .int .i64 q2, .int .i64 q3])).run Tryd.prog W = .ok true W := fun W => eql_four_is W (by simp)
  go_region_held3 (fun X => X.cell? ⟨w.heap.size, 0, none⟩ = some (.int .i64 a) ∧ X.cell? ⟨w4.heap.size, 0, none⟩ = some (.int .i64 q0) ∧ X.cell? ⟨w4.heap.size, 1, none⟩ = some (.int .i64 q1) ∧ X.cell? ⟨w4.heap.size, 2, none⟩ = some (.int .i64 q2) ∧ X.cell? ⟨w4.heap.size, 3, none⟩ = some (.int .i64 q3))
    (first | (refine ⟨?_, ?_, ?_, ?_, ?_⟩ <;> with_reducible assumption) | exact ⟨c0, d0, d1, d2, d3⟩)
    (first
      | (go_at_call 9
         refine (is_is _ (HD.out _ (by with_reducible assumption)).2.2.1 HI.out ES.out).mono ?_
         rintro e w6 ⟨rfl, b6⟩
         have hbl := step_below (a := W5) (by with_reducible assumption) b6
         obtain ⟨⟨x0, x1, x2, x3⟩, ⟨y0, y1, y2, y3⟩, _, _⟩ := HD.out _ hbl)
      | (go_at_call 10
         refine (ris_is _ HI.out ES.out).mono ?_
         rintro e w6 ⟨rfl, b6⟩
         have hbl := step_below (a := W5) (by with_reducible assumption) b6
         obtain ⟨⟨x0, x1, x2, x3⟩, ⟨y0, y1, y2, y3⟩, _, _⟩ := HD.out _ hbl)
      | (go_at_call 11
         refine (works_any (HD.out _ (by with_reducible assumption)).2.2.1).mono ?_
         rintro e w6 ⟨rfl, b6⟩
         have hbl := step_below (a := W5) (by with_reducible assumption) b6
         obtain ⟨⟨x0, x1, x2, x3⟩, ⟨y0, y1, y2, y3⟩, _, _⟩ := HD.out _ hbl))
  all_goals
    have HBL := Lib.hid (HD.out _ hbl).2.2.2
    go_wp2
    go_ret
    exact ⟨rfl, HBL.out⟩
end Go.Proofs.YtgkmghhplepnnaaDoor
