/- Layer 8 (spans): the chapter's example: a contract. -/
import Derived.Test.YtppiibdeigjcjaaSpansGap
namespace Go.Proofs.Ytppiibdeigjcjaa
open Go.RowKit

def TrueBelow (w : World) (e : Ending) (w' : World) : Prop := e = .returned (.bool true) ∧ Below w.heap.size w w'
theorem w_add1 : addB [(4, 4)] (0, 4) = true ∧ addV [(4, 4)] (0, 4) = [(0, 4), (4, 4)] := ⟨by kernel_rfl, by kernel_rfl⟩
theorem w_add2 : addB [(0, 4), (4, 4)] (8, 2) = true ∧ addV [(0, 4), (4, 4)] (8, 2) = [(0, 4), (4, 4), (8, 2)] := ⟨by kernel_rfl, by kernel_rfl⟩
theorem w_add3 : addB [(0, 4), (4, 4), (8, 2)] (9, 1) = false ∧ addV [(0, 4), (4, 4), (8, 2)] (9, 1) = [] := ⟨by kernel_rfl, by kernel_rfl⟩
theorem w_tell : gapR [(0, 4), (4, 4), (8, 2)] 3 20 = 10 ∧ findR [(0, 4), (4, 4), (8, 2)] 5 = 1 ∧ totalR [(0, 4), (4, 4), (8, 2)] = 10 ∧ ordB 0 [(0, 4), (4, 4), (8, 2)] = true := ⟨by kernel_rfl, by kernel_rfl, by kernel_rfl, by kernel_rfl⟩
theorem in_int {x : Int} (h : -9223372036854775808 ≤ x ∧ x ≤ 9223372036854775807) : InInt x := h
set_option maxHeartbeats 400000 in
theorem works_any (w : World) : Calls Try.prog 8 #[] w (TrueBelow w) := by
  have hnot := not_any
  have A1 : Hid (∀ W : World, Calls Try.prog 9 #[.slice (some ⟨W.heap.size, 0, none⟩) 1 1, .agg #[.int .i64 0, .int .i64 4]] (W.alloc (.cells #[.int .i64 4, .int .i64 4] 24)) (MadeB (W.alloc (.cells #[.int .i64 4, .int .i64 4] 24)) [(0, 4), (4, 4)] true)) := fun W => by
    have := add_is (one_spans W 4 4 (in_int (by omega)) (in_int (by omega))) (by simp) (in_int (by omega)) (in_int (by omega)) w_add1.1
    rwa [w_add1.2] at this
  have A2 : Hid (∀ (W : World) (v : Value), SpansIn W v [(0, 4), (4, 4)] → Calls Try.prog 9 #[v, .agg #[.int .i64 8, .int .i64 2]] W (MadeB W [(0, 4), (4, 4), (8, 2)] true)) := fun W v h => by
    have := add_is h (by simp) (in_int (by omega)) (in_int (by omega)) w_add2.1
    rwa [w_add2.2] at this
  have A3 : Hid (∀ (W : World) (v : Value), SpansIn W v [(0, 4), (4, 4), (8, 2)] → Calls Try.prog 9 #[v, .agg #[.int .i64 9, .int .i64 1]] W (MadeB W [] false)) := fun W v h => by
    have := add_is h (by simp) (in_int (by omega)) (in_int (by omega)) w_add3.1
    rwa [w_add3.2] at this
  go_enter Try.func8, Try.ntmps8
  go_wp2_with fail
  refine (A1.out _).mono ?_
  rintro e w1 ⟨v1, rfl, s1, b1⟩
  have c1 := step_below (new_below w (.cells #[.int .i64 4, .int .i64 4] 24)) b1
  have S1 := Lib.hid s1
  clear b1 s1 A1
  go_wp2_with fail
  refine (A2.out _ _ S1.out).mono ?_
  rintro e w2 ⟨v2, rfl, s2, b2⟩
  have c2 := step_below c1 b2
  have S2 := Lib.hid s2
  clear b2 s2 c1 S1 A2
  go_wp2_with fail
  refine (A3.out _ _ S2.out).mono ?_
  rintro e w3 ⟨v3, rfl, s3, b3⟩
  have c3 := step_below c2 b3
  obtain ⟨⟨A, c, rfl, _⟩, _⟩ := S2.out
  have S3 := Lib.hid (S2.out.below b3)
  clear b3 s3 S2 A3 c2
  go_wp2_with fail
  refine (gap_is (r := 10) S3.out (by simp) (in_int (by omega)) w_tell.1).mono ?_
  rintro e w4 ⟨rfl, b4⟩
  have c4 := step_below c3 b4
  have S4 := Lib.hid (S3.out.below b4)
  clear b4 c3 S3
  go_wp2_with fail
  refine (find_is (r := 1) S4.out (by simp) w_tell.2.1).mono ?_
  rintro e w5 ⟨rfl, b5⟩
  have c5 := step_below c4 b5
  have S5 := Lib.hid (S4.out.below b5)
  clear b5 c4 S4
  go_wp2_with fail
  refine (total_is (r := 10) S5.out w_tell.2.2.1).mono ?_
  rintro e w6 ⟨rfl, b6⟩
  have c6 := step_below c5 b6
  have S6 := Lib.hid (S5.out.below b6)
  clear b6 c5 S5
  go_wp2_with fail
  refine (right_spans (r := true) S6.out w_tell.2.2.2).mono ?_
  rintro e w7 ⟨rfl, b7⟩
  have c7 := step_below c6 b7
  go_wp2
  go_ret
  exact ⟨rfl, c7⟩
end Go.Proofs.Ytppiibdeigjcjaa
