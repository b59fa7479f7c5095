/- The walk of SpansFinds. -/
import Derived.Test.YtppiibdeigjcjaaSpansGap
import Derived.Test.YtppiibdeigjcjaaSpansWorks
namespace Go.Proofs.Ytppiibdeigjcjaa
open Go.RowKit

set_option maxHeartbeats 1600000 in
theorem finds_any {w : World} {A : Option Addr} {len c : Nat} {l : List Sp} {x n0 n1 : Int} (h : SpansIn w (.slice A len c) l) (hx : InInt x) (hn : InInt n1) : Calls Try.prog 4 #[.slice A len c, .int .i64 x, .agg #[.int .i64 n0, .int .i64 n1]] w (TrueBelow w) := by
  have hnot := not_any
  have hlen : len = l.length := by
    obtain ⟨⟨A', c', e, _⟩, _⟩ := h
    injection e with _ e _
  have n0_ := two_lit w (.int .i64 n0) (.int .i64 n1) 33
  have b0 := new_below w (.cells #[.int .i64 n0, .int .i64 n1] 33)
  have HS0 : Hid (∀ W, Below w.heap.size w W → SpansIn W (.slice A len c) l) := fun W hW => h.below hW
  have HLN := Lib.hid hlen
  have HX := Lib.hid hx
  have HNN := Lib.hid hn
  clear h hlen hx hn
  go_enter Try.func4, Try.ntmps4
  go_upto_region 1 with fail
  generalize w.alloc (.cells #[.int .i64 n0, .int .i64 n1] 33) = W0 at *
  have HC : Hid (∀ W, Below W0.heap.size W0 W → (W.cell? ⟨w.heap.size, 0, none⟩ = some (.int .i64 n0) ∧ W.cell? ⟨w.heap.size, 1, none⟩ = some (.int .i64 n1)) ∧ Below w.heap.size w W) := fun W hW => ⟨two_any n0_ hW, b0.trans (hW.mono b0.size)⟩
  clear n0_ b0
  by_cases hbig : 40 < len
  · have hd : decide ((40 : Int) < (len : Int)) = true := decide_eq_true (by omega)
    have hd2 : decide (40 < len) = true := decide_eq_true hbig
    go_wp2_with fail
    refine (works_any _).mono ?_
    rintro e w1 ⟨rfl, b1⟩
    have HB := Lib.hid (HC.out _ b1).2
    go_wp2
    go_ret
    exact ⟨rfl, HB.out⟩
  · have hd : decide ((40 : Int) < (len : Int)) = false := decide_eq_false (by omega)
    have hd2 : decide (40 < len) = false := decide_eq_false hbig
    have HS : Hid (l.length ≤ 1048576) := by have := HLN.out; show _ ≤ _; omega
    obtain ⟨r1, e1⟩ : ∃ r, findR l x = r := ⟨_, rfl⟩
    obtain ⟨r2, e2⟩ : ∃ r, totalR l = r := ⟨_, rfl⟩
    obtain ⟨r3, e3⟩ : ∃ r, gapR l n0 n1 = r := ⟨_, rfl⟩
    have F1 : Hid (∀ p : From W0, Calls Try.prog 18 #[.slice A len c, .int .i64 x] p.W fun e w' => e = .returned (.int .i64 r1) ∧ Below p.W.heap.size p.W w') := fun p => find_is (HS0.out _ (HC.out _ p.bel).2) HS.out e1
    have F2 : Hid (∀ p : From W0, Calls Try.prog 19 #[.slice A len c, .int .i64 x] p.W fun e w' => e = .returned (.int .i64 r1) ∧ Below p.W.heap.size p.W w') := fun p => rfind_is (HS0.out _ (HC.out _ p.bel).2) HX.out e1
    have T1 : Hid (∀ p : From W0, Calls Try.prog 20 #[.slice A len c] p.W fun e w' => e = .returned (.int .i64 r2) ∧ Below p.W.heap.size p.W w') := fun p => total_is (HS0.out _ (HC.out _ p.bel).2) e2
    have T2 : Hid (∀ p : From W0, Calls Try.prog 21 #[.slice A len c] p.W fun e w' => e = .returned (.int .i64 r2) ∧ Below p.W.heap.size p.W w') := fun p => rtotal_is (HS0.out _ (HC.out _ p.bel).2) e2
    have G1 : Hid (∀ p : From W0, Calls Try.prog 22 #[.slice A len c, .int .i64 n0, .int .i64 n1] p.W fun e w' => e = .returned (.int .i64 r3) ∧ Below p.W.heap.size p.W w') := fun p => gap_is (HS0.out _ (HC.out _ p.bel).2) HS.out HNN.out e3
    have G2 : Hid (∀ p : From W0, Calls Try.prog 23 #[.slice A len c, .int .i64 n0, .int .i64 n1] p.W fun e w' => e = .returned (.int .i64 r3) ∧ Below p.W.heap.size p.W w') := fun p => rgap_is (HS0.out _ (HC.out _ p.bel).2) HS.out HNN.out e3
    have WK : Hid (∀ p : From W0, Calls Try.prog 8 #[] p.W fun e w' => e = .returned (.bool true) ∧ Below p.W.heap.size p.W w') := fun p => works_any p.W
    have z1 : (r1 == r1) = true := by simp
    have z2 : (r2 == r2) = true := by simp
    have z3 : (r3 == r3) = true := by simp
    have c2 : ∀ q : From W0, q.W.cell? ⟨w.heap.size, 0, none⟩ = some (.int .i64 n0) := fun q => (HC.out _ q.bel).1.1
    have c3 : ∀ q : From W0, q.W.cell? ⟨w.heap.size, 1, none⟩ = some (.int .i64 n1) := fun q => (HC.out _ q.bel).1.2
    have hb1 := Below.refl W0.heap.size W0
    clear e1 e2 e3
    go_wp2
    refine wp_region_from (w0 := W0) (by kernel_rfl) (by kernel_rfl) hb1 ?_
    repeat (go_big_quiet_step (first | (go_at_call 18; with_reducible refine from_of (F1.out _)) | (go_at_call 19; with_reducible refine from_of (F2.out _)) | (go_at_call 20; with_reducible refine from_of (T1.out _)) | (go_at_call 21; with_reducible refine from_of (T2.out _)) | (go_at_call 22; with_reducible refine from_of (G1.out _)) | (go_at_call 23; with_reducible refine from_of (G2.out _)) | (go_at_call 8; with_reducible refine from_of (WK.out _))))
    refine wpQuiet_nil ?_
    intro wq hw'
    obtain ⟨⟨wy, hq⟩, hw''⟩ := hw'
    subst hw''
    have HB := Lib.hid (HC.out _ hq).2
    go_wp2
    go_ret
    exact ⟨rfl, HB.out⟩
end Go.Proofs.Ytppiibdeigjcjaa
