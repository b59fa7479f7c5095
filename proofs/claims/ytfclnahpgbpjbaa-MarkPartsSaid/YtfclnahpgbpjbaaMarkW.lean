/- Layer 13 (mark): the chapter's example; the walk of MarkOf. -/
import Derived.Test.YtfclnahpgbpjbaaMarkText
import Derived.Test.YtfclnahpgbpjbaaMarkMem
namespace Go.Proofs.Ytfclnahpgbpjbaa
open Go.RowKit

def TrueBelow (w : World) (e : Ending) (w' : World) : Prop := e = .returned (.bool true) ∧ Below w.heap.size w w'
theorem told_none : toldM (marksM firstM []) = 5472609002491880229 := by decide
theorem told_one : toldM (marksM firstM [1]) = 706274769219809188 := by decide
theorem told_two : toldM (marksM firstM [2]) = 7403220990122577415 := by decide
theorem works_is (w : World) : Calls Try.prog 5 #[] w (TrueBelow w) := by
  obtain ⟨r, hr⟩ : ∃ r, marksM firstM [1, 2] = r := ⟨_, rfl⟩
  obtain ⟨t, ht⟩ : ∃ t, toldM r = t := ⟨_, rfl⟩
  have HA : Hid (∀ (W : World) (q : Nat) (A : Option Addr), MarkAt W q true firstM → IntsAt W A [1, 2] → Calls Try.prog 11 #[.pointer (some ⟨q, 0, none⟩), .slice A 2 2] W fun e w' => e = .returned (.tuple #[]) ∧ MarkAt w' q true r ∧ W.grownBy w' (some q)) := fun W q A hM hl => add_is W hM (by decide) hl rfl (by simp) hr
  have HS : Hid (∀ (W : World) (q : Nat), MarkAt W q true r → Calls Try.prog 12 #[.pointer (some ⟨q, 0, none⟩)] W fun e w' => e = .returned (.int .i64 t) ∧ W = w') := fun W q hM => sum_is W hM ht
  have H0 : Hid (∀ W : World, Calls Try.prog 6 #[.slice none 0 0] W fun e w' => e = .returned (.int .i64 5472609002491880229) ∧ W = w') := fun W => of_is W (.inl rfl) rfl (by simp) told_none
  have H2 : Hid (∀ (W : World) (A : Option Addr), IntsAt W A [1, 2] → Calls Try.prog 6 #[.slice A 2 2] W fun e w' => e = .returned (.int .i64 t) ∧ W = w') := fun W A hl => of_is W hl rfl (by simp) (by rw [hr, ht])
  have H3 : Hid (∀ (W : World) (A : Option Addr), IntsAt W A [1] → Calls Try.prog 6 #[.slice A 1 1] W fun e w' => e = .returned (.int .i64 706274769219809188) ∧ W = w') := fun W A hl => of_is W hl rfl (by simp) told_one
  have H4 : Hid (∀ (W : World) (A : Option Addr), IntsAt W A [2] → Calls Try.prog 6 #[.slice A 1 1] W fun e w' => e = .returned (.int .i64 7403220990122577415) ∧ W = w') := fun W A hl => of_is W hl rfl (by simp) told_two
  have z : ((t : Int) == (t : Int)) = true := by simp
  clear hr ht
  go_enter Try.func5, Try.ntmps5
  go_wp2_with fail
  refine (new_is w).mono ?_
  rintro e w1 ⟨q, rfl, hq, M1, b1⟩
  have I1 : Hid (IntsAt (w1.alloc (.cells #[.int .i64 1, .int .i64 2] 3)) (some ⟨w1.heap.size, 0, none⟩) [1, 2]) := lit_ints w1 [1, 2]
  have M2 : Hid (MarkAt (w1.alloc (.cells #[.int .i64 1, .int .i64 2] 3)) q true firstM) := M1.below (new_below _ _)
  have B2 : Hid (Below w.heap.size w (w1.alloc (.cells #[.int .i64 1, .int .i64 2] 3))) := step_below b1 (new_below _ _)
  have HQ := Lib.hid hq
  clear M1 b1 hq
  go_wp2_with fail
  refine (HA.out _ _ _ M2.out I1.out).mono ?_
  rintro e w2 ⟨rfl, M3, g3⟩
  have B3 : Hid (Below w.heap.size w w2) := Below.grown B2.out g3 B2.out.size (fun k e => by injection e with e; rw [← e]; exact HQ.out)
  have M3 := Lib.hid M3
  clear g3 I1 M2 B2
  go_wp2_with fail
  refine (H0.out _).mono ?_
  rintro e w3 ⟨rfl, rfl⟩
  go_wp2_with fail
  refine (HS.out _ _ M3.out).mono ?_
  rintro e w3 ⟨rfl, rfl⟩
  have I1 : Hid (IntsAt (w2.alloc (.cells #[.int .i64 1, .int .i64 2] 3)) (some ⟨w2.heap.size, 0, none⟩) [1, 2]) := lit_ints w2 [1, 2]
  have B4 : Hid (Below w.heap.size w (w2.alloc (.cells #[.int .i64 1, .int .i64 2] 3))) := step_below B3.out (new_below _ _)
  clear M3 B3
  go_wp2_with fail
  refine (H2.out _ _ I1.out).mono ?_
  rintro e w3 ⟨rfl, rfl⟩
  generalize (w2.alloc (.cells #[.int .i64 1, .int .i64 2] 3)) = w3 at *
  have I1 : Hid (IntsAt (w3.alloc (.cells #[.int .i64 1] 3)) (some ⟨w3.heap.size, 0, none⟩) [1]) := lit_ints w3 [1]
  have B5 : Hid (Below w.heap.size w (w3.alloc (.cells #[.int .i64 1] 3))) := step_below B4.out (new_below _ _)
  clear B4
  go_wp2_with fail
  refine (H3.out _ _ I1.out).mono ?_
  rintro e w4 ⟨rfl, rfl⟩
  generalize (w3.alloc (.cells #[.int .i64 1] 3)) = w4 at *
  have I1 : Hid (IntsAt (w4.alloc (.cells #[.int .i64 2] 3)) (some ⟨w4.heap.size, 0, none⟩) [2]) := lit_ints w4 [2]
  have B6 : Hid (Below w.heap.size w (w4.alloc (.cells #[.int .i64 2] 3))) := step_below B5.out (new_below _ _)
  clear B5
  go_wp2_with fail
  refine (H4.out _ _ I1.out).mono ?_
  rintro e w5 ⟨rfl, rfl⟩
  clear I1
  go_wp2
  go_ret
  exact ⟨rfl, B6.out⟩

set_option maxHeartbeats 800000 in
theorem of_any {w : World} {A : Option Addr} {n c : Nat} {l : List Int} {s : ByteArray} (hl : IntsAt w A l) (hn : l.length = n) : Calls Try.prog 3 #[.slice A n c, .string s] w (TrueBelow w) := by
  by_cases hn2 : n ≤ 200
  · by_cases hs2 : s.size ≤ 300
    · have d1 : ¬ 200 < (n : Int) := by omega
      have d2 : ¬ 300 < (s.size : Int) := by omega
      obtain ⟨r, hr⟩ : ∃ r, toldM (marksM firstM l) = r := ⟨_, rfl⟩
      obtain ⟨t, ht⟩ : ∃ t, toldM (marksM firstM (textM s)) = t := ⟨_, rfl⟩
      have H1 := Lib.hid (of_is w (c := c) hl hn (by omega) hr)
      have H2 := Lib.hid (rof_is w (c := c) hl hn (by omega) hr)
      have H3 := Lib.hid fun W => text_is W s (by omega) ht
      have H4 := Lib.hid fun W => rtext_is W s (by omega) ht
      have z1 : ((r : Int) == (r : Int)) = true := by simp
      have z2 : ((t : Int) == (t : Int)) = true := by simp
      clear hr ht hl hn hn2 hs2
      go_enter Try.func3, Try.ntmps3
      go_wp2_with fail
      refine H1.out.mono ?_
      rintro e w1 ⟨rfl, rfl⟩
      go_wp2_with fail
      refine H2.out.mono ?_
      rintro e w1 ⟨rfl, rfl⟩
      go_wp2_with fail
      refine (H3.out _).mono ?_
      rintro e w1 ⟨rfl, b1⟩
      have B1 := Lib.hid b1
      clear b1
      go_wp2_with fail
      refine (H4.out _).mono ?_
      rintro e w2 ⟨rfl, b2⟩
      have B2 : Hid (Below w.heap.size w w2) := step_below B1.out b2
      clear b2
      go_wp2_with fail
      refine (works_is _).mono ?_
      rintro e w3 ⟨rfl, b3⟩
      have B3 : Hid (Below w.heap.size w w3) := step_below B2.out b3
      clear b3
      go_wp2
      go_ret
      exact ⟨rfl, B3.out⟩
    · have d1 : ¬ 200 < (n : Int) := by omega
      have d2 : 300 < (s.size : Int) := by omega
      clear hl hn hn2 hs2
      go_enter Try.func3, Try.ntmps3
      go_wp2_with fail
      refine (works_is _).mono ?_
      rintro e w3 ⟨rfl, b3⟩
      have B3 := Lib.hid b3
      clear b3
      go_wp2
      go_ret
      exact ⟨rfl, B3.out⟩
  · have d1 : 200 < (n : Int) := by omega
    clear hl hn hn2
    go_enter Try.func3, Try.ntmps3
    go_wp2_with fail
    refine (works_is _).mono ?_
    rintro e w3 ⟨rfl, b3⟩
    have B3 := Lib.hid b3
    clear b3
    go_wp2
    go_ret
    exact ⟨rfl, B3.out⟩
end Go.Proofs.Ytfclnahpgbpjbaa
