/- Layer 7 (handle): what Get and Is return: contracts. -/
import Derived.Test.YtgkmghhplepnnaaDoorHandleDo
import Derived.Test.YtgkmghhplepnnaaDoorBaseBack
namespace Go.Proofs.YtgkmghhplepnnaaDoor
open Go.RowKit

def isB (h : Int) : Bool := decide (1152921504606846976 ≤ h ∧ h < 4611686018427387904)
/-- What is left of h behind i rounds. -/
def restV (h : Int) : Nat → Int
  | 0 => h
  | 1 => h % 1152921504606846976
  | 2 => h % 1099511627776
  | 3 => h % 1048576
  | _ => 0
/-- The numbers of h. -/
def quoV (h : Int) : Nat → Int
  | 0 => h / 1152921504606846976
  | 1 => h / 1099511627776 % 1048576
  | 2 => h / 1048576 % 1048576
  | _ => h % 1048576
def arrF (h : Int) (j i : Nat) : Value := .int .i64 (if i < j then quoV h i else 0)
/-- The numbers that Get tells. -/
def getN (h : Int) (i : Nat) : Int := if isB h = true then quoV h i else 0
theorem getN_yes {h : Int} (hh : isB h = true) (i : Nat) : getN h i = quoV h i := if_pos hh
theorem getN_no {h : Int} (hh : isB h = false) (i : Nat) : getN h i = 0 := if_neg (by simp [hh])
theorem isB_iff {h : Int} : isB h = true ↔ 1152921504606846976 ≤ h ∧ h < 4611686018427387904 := by unfold isB; simp
theorem quo_0 {h : Int} (hh : isB h = true) : 1 ≤ quoV h 0 ∧ quoV h 0 ≤ 3 := by
  have := isB_iff.1 hh
  show 1 ≤ h / 1152921504606846976 ∧ h / 1152921504606846976 ≤ 3
  omega
theorem step_get {h : Int} (hh : isB h = true) {j : Nat} (hj : j < 4) :
    Int.tdiv (restV h j) (partV (j * 4 + 2)) = quoV h j ∧ Int.tmod (restV h j) (partV (j * 4 + 2)) = restV h (j + 1) ∧ IntKind.i64.wrap (quoV h j) = quoV h j ∧ IntKind.i64.wrap (restV h (j + 1)) = restV h (j + 1) ∧ ¬ partV (j * 4 + 2) = 0 ∧ decide (partV (j * 4) ≤ quoV h j ∧ quoV h j ≤ partV (j * 4 + 1)) = true := by
  have h1 := isB_iff.1 hh
  match j, hj with
  | 0, _ =>
    refine ⟨Int.tdiv_eq_ediv_of_nonneg (show 0 ≤ h by omega), Int.tmod_eq_emod_of_nonneg (show 0 ≤ h by omega), IntWalk.i64_in _ ?_, IntWalk.i64_in _ ?_, by decide, decide_eq_true ?_⟩
    · simp only [quoV]; omega
    · simp only [restV]; omega
    · simp only [quoV, partV]; omega
  | 1, _ =>
    refine ⟨(Int.tdiv_eq_ediv_of_nonneg (show 0 ≤ h % 1152921504606846976 by omega)).trans ?_, (Int.tmod_eq_emod_of_nonneg (show 0 ≤ h % 1152921504606846976 by omega)).trans ?_, IntWalk.i64_in _ ?_, IntWalk.i64_in _ ?_, by decide, decide_eq_true ?_⟩
    · simp only [quoV, partV]; omega
    · simp only [restV, partV]; omega
    · simp only [quoV]; omega
    · simp only [restV]; omega
    · simp only [quoV, partV]; omega
  | 2, _ =>
    refine ⟨(Int.tdiv_eq_ediv_of_nonneg (show 0 ≤ h % 1099511627776 by omega)).trans ?_, (Int.tmod_eq_emod_of_nonneg (show 0 ≤ h % 1099511627776 by omega)).trans ?_, IntWalk.i64_in _ ?_, IntWalk.i64_in _ ?_, by decide, decide_eq_true ?_⟩
    · simp only [quoV, partV]; omega
    · simp only [restV, partV]; omega
    · simp only [quoV]; omega
    · simp only [restV]; omega
    · simp only [quoV, partV]; omega
  | 3, _ =>
    refine ⟨(Int.tdiv_eq_ediv_of_nonneg (show 0 ≤ h % 1048576 by omega)).trans ?_, (Int.tmod_eq_emod_of_nonneg (show 0 ≤ h % 1048576 by omega)).trans ?_, IntWalk.i64_in _ ?_, IntWalk.i64_in _ ?_, by decide, decide_eq_true ?_⟩
    · simp only [quoV, partV]; omega
    · simp only [restV, partV]; omega
    · simp only [quoV]; omega
    · simp only [restV]; omega
    · simp only [quoV, partV]; omega
theorem step_no {h : Int} (hh : isB h = false) (hi : InInt h) : ∃ q, Int.tdiv h 1152921504606846976 = q ∧ IntKind.i64.wrap q = q ∧ decide (1 ≤ q ∧ q ≤ 3) = false := by
  have h1 : ¬ (1152921504606846976 ≤ h ∧ h < 4611686018427387904) := fun e => by rw [isB_iff.2 e] at hh; cases hh
  have hi1 := hi.1
  have hi2 := hi.2
  refine ⟨_, rfl, IntWalk.i64_in _ ?_, decide_eq_false ?_⟩
  · rcases Int.le_total 0 h with hp | hp
    · rw [Int.tdiv_eq_ediv_of_nonneg hp]; omega
    · have e : Int.tdiv h 1152921504606846976 = - ((-h) / 1152921504606846976) := by
        rw [← Int.tdiv_eq_ediv_of_nonneg (show 0 ≤ -h by omega), Int.neg_tdiv]; omega
      rw [e]; omega
  · rcases Int.le_total 0 h with hp | hp
    · rw [Int.tdiv_eq_ediv_of_nonneg hp]; omega
    · have e : Int.tdiv h 1152921504606846976 = - ((-h) / 1152921504606846976) := by
        rw [← Int.tdiv_eq_ediv_of_nonneg (show 0 ≤ -h by omega), Int.neg_tdiv]; omega
      rw [e]; omega
theorem arr_alloc (w : World) (h : Int) (t : TypeId) : (w.alloc (.cells #[.int .i64 0, .int .i64 0, .int .i64 0, .int .i64 0] t)).rowIs w.heap.size t 4 (arrF h 0) := World.rowIs_alloc w #[.int .i64 0, .int .i64 0, .int .i64 0, .int .i64 0] t _ (by
  intro i hi
  match i, hi with
  | 0, _ => rfl
  | 1, _ => rfl
  | 2, _ => rfl
  | 3, _ => rfl)
theorem arr_set {w : World} {b j : Nat} {t : TypeId} {h : Int} (hr : w.rowIs b t 4 (arrF h j)) (v : Value) (hv : v = .int .i64 (quoV h j)) : (w.setCell ⟨b, j, none⟩ v).rowIs b t 4 (arrF h (j + 1)) := (hr.set j v).congr fun i _ => by
  subst hv
  unfold arrF
  by_cases e : i = j
  · subst e
    rw [if_pos rfl, if_pos (Nat.lt_succ_self _)]
  · rw [if_neg e]
    by_cases e1 : i < j
    · rw [if_pos e1, if_pos (by omega)]
    · rw [if_neg e1, if_neg (by omega)]
set_option maxHeartbeats 1600000 in
theorem get_yes {h : Int} (w : World) (hT : TabOk w) (hh : isB h = true) : Calls Tryd.prog 7 #[.int .i64 h] w fun e w' => e = .returned (.tuple #[.int .i64 (quoV h 0), .int .i64 (quoV h 1), .int .i64 (quoV h 2), .int .i64 (quoV h 3), .bool true]) ∧ Below w.heap.size w w' := by
  have hnot := not_any
  have n0 := arr_alloc w h 22
  have t0 := hT.alloc (.cells #[.int .i64 0, .int .i64 0, .int .i64 0, .int .i64 0] 22)
  have b0 : Below w.heap.size w (w.alloc (.cells #[.int .i64 0, .int .i64 0, .int .i64 0, .int .i64 0] 22)) := (Below.refl _ _).alloc (Nat.le_refl _) _
  have hg := hT.lt
  go_enter Tryd.func7, Tryd.ntmps7
  go_upto_region 2 with fail
  generalize w.alloc (.cells #[.int .i64 0, .int .i64 0, .int .i64 0, .int .i64 0] 22) = W at *
  go_wp2
  go_loopw [0, 9] (fun s i wr => ∃ j : Nat, j ≤ 4 ∧ i = .int .i64 j ∧ s = .int .i64 (restV h j) ∧ Below w.heap.size w wr ∧ wr.rowIs w.heap.size 22 4 (arrF h j) ∧ TabOk wr) (fun _ i _ => 4 - (intOf i).toNat)
  case atStart => exact ⟨0, by omega, rfl, rfl, b0, n0, t0⟩
  case round =>
    clear b0 n0 t0 hT
    obtain ⟨j, hj, rfl, rfl, b1, n1, t1⟩ := hrel
    by_cases hj4 : j < 4
    · obtain ⟨e1, e2, e3, e4, e5, e6⟩ := step_get hh hj4
      have f0 := n1.frozen j
      have g0 := n1.cell hj4
      simp only [arrF] at g0
      have d2 := t1 (j * 4 + 2) (by omega)
      have hjr : 0 ≤ (j : Int) ∧ (j : Int) < 4 := by omega
      have hlt : w.heap.size < wr.heap.size := n1.lt
      have n2 := arr_set n1 (.int .i64 (quoV h j)) rfl
      have b2 := b1.setCell (p := ⟨w.heap.size, j, none⟩) (Nat.le_refl _) (.int .i64 (quoV h j))
      have t2 : TabOk (wr.setCell ⟨w.heap.size, j, none⟩ (.int .i64 (quoV h j))) := t1.grown (grown_set _ _ _) (by simp; omega)
      have z2 : (wr.setCell ⟨w.heap.size, j, none⟩ (.int .i64 (quoV h j))).heap.size = wr.heap.size := by simp [World.setCell]
      have N2 := Lib.hid n2
      have T2 := Lib.hid t2
      have B2 := Lib.hid b2
      have E6 := Lib.hid e6
      have E2 := Lib.hid e2
      have E4 := Lib.hid e4
      clear n1 t1 b1 n2 t2 b2 e6 e2 e4 hh
      go_upto_region 6 with fail
      clear d2 f0 g0 e1 e3
      generalize wr.setCell ⟨w.heap.size, j, none⟩ (.int .i64 (quoV h j)) = W2 at *
      have c0 := N2.out.cell hj4
      unfold arrF at c0
      rw [if_pos (Nat.lt_succ_self _)] at c0
      have d0 := T2.out (j * 4) (by omega)
      have d1 := T2.out (j * 4 + 1) (by omega)
      have d2 := T2.out (j * 4 + 2) (by omega)
      have d3 := T2.out (j * 4 + 3) (by omega)
      refine wp_region_still_tail 6 (by kernel_rfl) (by kernel_rfl) ?_
      simp only [List.take_succ_cons, List.take_zero, List.drop_succ_cons, List.drop_zero]
      change wpStill _ _ (W2.drewN 1) _ _ _
      repeat still_step
      refine wpStill_nil ?_
      change wpList _ _ _ _ _ (W2.drewN 1)
      go_wp2_with fail
      refine (may_is (W2.drewN 1) E6.out).mono ?_
      rintro e w1 ⟨rfl, b2⟩
      have b3 := (below_drewN B2.out 1).trans (b2.mono (by show w.heap.size ≤ W2.heap.size; omega))
      have hg' : 0 < W2.heap.size := by omega
      have n2 := N2.out.of_block (b2.block _ (by show w.heap.size < W2.heap.size; omega))
      have t2 := (T2.out.drewN 1).below b2 hg'
      clear c0 d0 d1 d2 d3 B2 b2 N2 T2
      have d2 := t2 (j * 4 + 2) (by omega)
      have N3 := Lib.hid n2
      have T3 := Lib.hid t2
      have B3 := Lib.hid b3
      clear n2 t2 b3
      have e2 := E2.out
      have e4 := E4.out
      go_wp2
      go_roundw
      case rel => exact ⟨j + 1, by omega, by go_num, rfl, B3.out, N3.out, T3.out⟩
      case measure => simp [intOf]; omega
    · obtain rfl : j = 4 := by omega
      have c0 := n1.cell (i := 0) (by omega)
      have c1 := n1.cell (i := 1) (by omega)
      have c2 := n1.cell (i := 2) (by omega)
      have c3 := n1.cell (i := 3) (by omega)
      simp only [arrF] at c0 c1 c2 c3
      rw [if_pos (by omega)] at c0 c1 c2 c3
      clear n1 t1 hh
      go_upto_region 10 with fail
      go_quiet (fail)
      go_wp2
      refine bodyPost_ret (back_tmp5 rfl _ _ _) rfl ?_
      exact ⟨rfl, below_drewN b1 _⟩
theorem get_no {h : Int} (w : World) (hT : TabOk w) (hi : InInt h) (hh : isB h = false) : Calls Tryd.prog 7 #[.int .i64 h] w fun e w' => e = .returned (.tuple #[.int .i64 0, .int .i64 0, .int .i64 0, .int .i64 0, .bool false]) ∧ Below w.heap.size w w' := by
  have hnot := not_any
  obtain ⟨q, e1, e3, e6⟩ := step_no hh hi
  have n0 : (w.alloc (.cells #[.int .i64 0, .int .i64 0, .int .i64 0, .int .i64 0] 22)).rowIs w.heap.size 22 4 (fun _ => .int .i64 0) := World.rowIs_alloc w #[.int .i64 0, .int .i64 0, .int .i64 0, .int .i64 0] 22 (fun _ => .int .i64 0) (by
    intro i hi
    match i, hi with
    | 0, _ => rfl
    | 1, _ => rfl
    | 2, _ => rfl
    | 3, _ => rfl)
  have t0 := hT.alloc (.cells #[.int .i64 0, .int .i64 0, .int .i64 0, .int .i64 0] 22)
  have b0 : Below w.heap.size w (w.alloc (.cells #[.int .i64 0, .int .i64 0, .int .i64 0, .int .i64 0] 22)) := (Below.refl _ _).alloc (Nat.le_refl _) _
  have hg := hT.lt
  have E6 := Lib.hid e6
  clear e6 hh hi hT
  go_enter Tryd.func7, Tryd.ntmps7
  go_upto_region 2 with fail
  generalize w.alloc (.cells #[.int .i64 0, .int .i64 0, .int .i64 0, .int .i64 0] 22) = W at *
  go_wp2
  refine wp_loop_rounds 1 ?_; rw [rounds_succ]
  have f0 := n0.frozen 0
  have g0 := n0.cell (i := 0) (by omega)
  have d2 := t0 2 (by omega)
  simp only [partV] at d2
  have n2 := n0.set 0 (.int .i64 q)
  have b2 := b0.setCell (p := ⟨w.heap.size, 0, none⟩) (Nat.le_refl _) (.int .i64 q)
  have t2 : TabOk (W.setCell ⟨w.heap.size, 0, none⟩ (.int .i64 q)) := t0.grown (grown_set _ _ _) (by simp; omega)
  have hz : w.heap.size < (W.setCell ⟨w.heap.size, 0, none⟩ (.int .i64 q)).heap.size := by simpa [World.setCell] using n0.lt
  clear n0 t0 b0
  go_upto_region 6 with fail
  clear d2 f0 g0 e1 e3
  generalize W.setCell ⟨w.heap.size, 0, none⟩ (.int .i64 q) = W2 at *
  have c0 := n2.cell (i := 0) (by omega)
  rw [if_pos rfl] at c0
  have d0 := t2 0 (by omega)
  have d1 := t2 1 (by omega)
  have d2 := t2 2 (by omega)
  have d3 := t2 3 (by omega)
  simp only [partV] at d0 d1 d2 d3
  clear n2 t2
  refine wp_region_still_tail 6 (by kernel_rfl) (by kernel_rfl) ?_
  simp only [List.take_succ_cons, List.take_zero, List.drop_succ_cons, List.drop_zero]
  change wpStill _ _ (W2.drewN 1) _ _ _
  repeat still_step
  refine wpStill_nil ?_
  change wpList _ _ _ _ _ (W2.drewN 1)
  go_wp2_with fail
  refine (may_is (W2.drewN 1) E6.out).mono ?_
  rintro e w1 ⟨rfl, b3⟩
  have b4 := (below_drewN b2 1).trans (b3.mono (by show w.heap.size ≤ W2.heap.size; omega))
  clear c0 d0 d1 d2 d3
  go_wp2
  refine bodyPost_ret (back_tmp5 rfl _ _ _) rfl ?_
  exact ⟨rfl, b4⟩
theorem get_is {h q0 q1 q2 q3 : Int} {r : Bool} (w : World) (hT : TabOk w) (hi : InInt h) (hr : isB h = r) (h0 : getN h 0 = q0) (h1 : getN h 1 = q1) (h2 : getN h 2 = q2) (h3 : getN h 3 = q3) :
    Calls Tryd.prog 7 #[.int .i64 h] w fun e w' => e = .returned (.tuple #[.int .i64 q0, .int .i64 q1, .int .i64 q2, .int .i64 q3, .bool r]) ∧ Below w.heap.size w w' := by
  subst hr h0 h1 h2 h3
  cases hb : isB h with
  | true =>
    rw [getN_yes hb, getN_yes hb, getN_yes hb, getN_yes hb]
    exact get_yes w hT hb
  | false =>
    rw [getN_no hb, getN_no hb, getN_no hb, getN_no hb]
    exact get_no w hT hi hb
def ofB (h kind : Int) : Bool := isB h && decide (quoV h 0 = kind)
theorem is_is {h kind : Int} {r : Bool} (w : World) (hT : TabOk w) (hi : InInt h) (hr : ofB h kind = r) :
    Calls Tryd.prog 9 #[.int .i64 h, .int .i64 kind] w fun e w' => e = .returned (.bool r) ∧ Below w.heap.size w w' := by
  unfold ofB at hr
  cases hb : isB h with
  | true =>
    have h0 := getN_yes hb 0
    generalize quoV h 0 = q at *
    rw [hb, Bool.true_and] at hr
    by_cases e : q = kind
    · rw [decide_eq_true e] at hr
      subst hr e
      have hbb : (q == q) = true := by simp
      have HI := Lib.hid hi
      have HT := Lib.hid hT
      have HB := Lib.hid hb
      have H0 := Lib.hid h0
      clear hi hT hb h0
      go_enter Tryd.func9, Tryd.ntmps9
      go_wp2_with fail
      refine (get_is w HT.out HI.out HB.out H0.out rfl rfl rfl).mono ?_
      rintro e w' ⟨rfl, b1⟩
      go_wp2
      go_ret
      exact ⟨rfl, b1⟩
    · rw [decide_eq_false e] at hr
      subst hr
      have hbb : (q == kind) = false := by simp [e]
      have HI := Lib.hid hi
      have HT := Lib.hid hT
      have HB := Lib.hid hb
      have H0 := Lib.hid h0
      clear hi hT hb h0 e
      go_enter Tryd.func9, Tryd.ntmps9
      go_wp2_with fail
      refine (get_is w HT.out HI.out HB.out H0.out rfl rfl rfl).mono ?_
      rintro e w' ⟨rfl, b1⟩
      go_wp2
      go_ret
      exact ⟨rfl, b1⟩
  | false =>
    rw [hb, Bool.false_and] at hr
    subst hr
    have HI := Lib.hid hi
    have HT := Lib.hid hT
    have HB := Lib.hid hb
    clear hi hT hb
    go_enter Tryd.func9, Tryd.ntmps9
    go_wp2_with fail
    refine (get_is w HT.out HI.out HB.out rfl rfl rfl rfl).mono ?_
    rintro e w' ⟨rfl, b1⟩
    go_wp2
    go_ret
    exact ⟨rfl, b1⟩
end Go.Proofs.YtgkmghhplepnnaaDoor
