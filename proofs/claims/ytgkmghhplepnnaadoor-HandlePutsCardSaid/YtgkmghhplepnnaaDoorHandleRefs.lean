/- Layer 7 (handle): what the document's own Get and Is return, and the chapter's example: contracts. -/
import Derived.Test.YtgkmghhplepnnaaDoorHandleGet
namespace Go.Proofs.YtgkmghhplepnnaaDoor
open Go.RowKit

def zero4 : Value := .agg #[.int .i64 0, .int .i64 0, .int .i64 0, .int .i64 0]
set_option maxHeartbeats 1600000 in
theorem rget_no {h : Int} (w : World) (hi : InInt h) (hh : isB h = false) : Calls Tryd.prog 8 #[.int .i64 h] w fun e w' => e = .returned (.tuple #[.agg #[.int .i64 0, .int .i64 0, .int .i64 0, .int .i64 0], .bool false]) ∧ Below w.heap.size w w' := by
  have h1 : ¬ (1152921504606846976 ≤ h ∧ h < 4611686018427387904) := fun e => by rw [isB_iff.2 e] at hh; cases hh
  have hi1 := hi.1
  have hi2 := hi.2
  have n0 := four_lit w (.int .i64 0) (.int .i64 0) (.int .i64 0) (.int .i64 0) 22
  have b0 : Below w.heap.size w (w.alloc (.cells #[.int .i64 0, .int .i64 0, .int .i64 0, .int .i64 0] 22)) := (Below.refl _ _).alloc (Nat.le_refl _) _
  have c0 := n0.cell (i := 0) (by omega)
  have c1 := n0.cell (i := 1) (by omega)
  have c2 := n0.cell (i := 2) (by omega)
  have c3 := n0.cell (i := 3) (by omega)
  have f0 := n0.frozen 0
  have f1 := n0.frozen 1
  have f2 := n0.frozen 2
  have f3 := n0.frozen 3
  simp only [fourF] at c0 c1 c2 c3
  have N0 := Lib.hid n0
  have B0 := Lib.hid b0
  clear n0 b0 hh hi
  by_cases hn : h < 0
  · clear h1
    go_enter Tryd.func8, Tryd.ntmps8
    go_upto_region 1 with fail
    generalize w.alloc (.cells #[.int .i64 0, .int .i64 0, .int .i64 0, .int .i64 0] 22) = W at *
    go_wp2
    refine bodyPost_ret_by (back_cell_two rfl _ _ w.heap.size 22 _ (0, 0) _ rfl (four_block (four_all N0.out _ _ _ _)) Tryd.underlying22 rfl (by kernel_rfl) rfl) rfl ?_
    exact ⟨rfl, four_below B0.out (Nat.le_refl _) _ _ _ _⟩
  · have hn0 : 0 ≤ h := by omega
    have e1 : Int.tdiv h 1048576 = h / 1048576 := Int.tdiv_eq_ediv_of_nonneg hn0
    clear hn
    by_cases hk : h < 1152921504606846976
    · clear h1
      go_enter Tryd.func8, Tryd.ntmps8
      go_upto_region 1 with fail
      generalize w.alloc (.cells #[.int .i64 0, .int .i64 0, .int .i64 0, .int .i64 0] 22) = W at *
      go_wp2
      refine bodyPost_ret_by (back_cell_two rfl _ _ w.heap.size 22 _ (0, 0) _ rfl (four_block (four_all N0.out _ _ _ _)) Tryd.underlying22 rfl (by kernel_rfl) rfl) rfl ?_
      exact ⟨rfl, four_below B0.out (Nat.le_refl _) _ _ _ _⟩
    · have hk : 4611686018427387904 ≤ h := by omega
      clear h1
      go_enter Tryd.func8, Tryd.ntmps8
      go_upto_region 1 with fail
      generalize w.alloc (.cells #[.int .i64 0, .int .i64 0, .int .i64 0, .int .i64 0] 22) = W at *
      go_wp2
      refine bodyPost_ret_by (back_cell_two rfl _ _ w.heap.size 22 _ (0, 0) _ rfl (four_block (four_all N0.out _ _ _ _)) Tryd.underlying22 rfl (by kernel_rfl) rfl) rfl ?_
      exact ⟨rfl, four_below B0.out (Nat.le_refl _) _ _ _ _⟩
set_option maxHeartbeats 1600000 in
theorem rget_yes {h : Int} (w : World) (hh : isB h = true) : Calls Tryd.prog 8 #[.int .i64 h] w fun e w' => e = .returned (.tuple #[.agg #[.int .i64 (quoV h 0), .int .i64 (quoV h 1), .int .i64 (quoV h 2), .int .i64 (quoV h 3)], .bool true]) ∧ Below w.heap.size w w' := by
  have h1 := isB_iff.1 hh
  have n0 := four_lit w (.int .i64 0) (.int .i64 0) (.int .i64 0) (.int .i64 0) 22
  have b0 : Below w.heap.size w (w.alloc (.cells #[.int .i64 0, .int .i64 0, .int .i64 0, .int .i64 0] 22)) := (Below.refl _ _).alloc (Nat.le_refl _) _
  have c0 := n0.cell (i := 0) (by omega)
  have c1 := n0.cell (i := 1) (by omega)
  have c2 := n0.cell (i := 2) (by omega)
  have c3 := n0.cell (i := 3) (by omega)
  have f0 := n0.frozen 0
  have f1 := n0.frozen 1
  have f2 := n0.frozen 2
  have f3 := n0.frozen 3
  simp only [fourF] at c0 c1 c2 c3
  have N0 := Lib.hid n0
  have B0 := Lib.hid b0
  have hn0 : 0 ≤ h := by omega
  have E0 : Hid (h / 1048576 / 1048576 / 1048576 = quoV h 0) := by
    show _ = h / 1152921504606846976
    omega
  have E1 : Hid (h / 1048576 / 1048576 % 1048576 = quoV h 1) := by
    show _ = h / 1099511627776 % 1048576
    omega
  clear n0 b0 hh
  go_enter Tryd.func8, Tryd.ntmps8
  go_upto_region 1 with fail
  generalize w.alloc (.cells #[.int .i64 0, .int .i64 0, .int .i64 0, .int .i64 0] 22) = W at *
  go_wp2
  refine bodyPost_ret_by (back_cell_two rfl _ _ w.heap.size 22 _ (0, 0) _ rfl (four_block (four_all N0.out _ _ _ _)) Tryd.underlying22 rfl (by kernel_rfl) rfl) rfl ?_
  refine ⟨?_, four_below B0.out (Nat.le_refl _) _ _ _ _⟩
  rw [← E0.out, ← E1.out]
  rfl
theorem rget_is {h q0 q1 q2 q3 : Int} {r : Bool} (w : World) (hi : InInt h) (hr : isB h = r) (h0 : getN h 0 = q0) (h1 : getN h 1 = q1) (h2 : getN h 2 = q2) (h3 : getN h 3 = q3) :
    Calls Tryd.prog 8 #[.int .i64 h] w fun e w' => e = .returned (.tuple #[.agg #[.int .i64 q0, .int .i64 q1, .int .i64 q2, .int .i64 q3], .bool r]) ∧ Below w.heap.size w w' := by
  subst hr h0 h1 h2 h3
  cases hb : isB h with
  | true =>
    rw [getN_yes hb, getN_yes hb, getN_yes hb, getN_yes hb]
    exact rget_yes w hb
  | false =>
    rw [getN_no hb, getN_no hb, getN_no hb, getN_no hb]
    exact rget_no w hi hb
theorem ris_is {h kind : Int} {r : Bool} (w : World) (hi : InInt h) (hr : ofB h kind = r) :
    Calls Tryd.prog 10 #[.int .i64 h, .int .i64 kind] w fun e w' => e = .returned (.bool r) ∧ Below w.heap.size w w' := by
  unfold ofB at hr
  cases hb : isB h with
  | true =>
    have h0 := getN_yes hb 0
    generalize quoV h 0 = q at *
    rw [hb, Bool.true_and] at hr
    by_cases e : q = kind
    · rw [decide_eq_true e] at hr
      subst hr e
      have hbb : (q == q) = true := by simp
      have HI := Lib.hid hi
      have HB := Lib.hid hb
      have H0 := Lib.hid h0
      clear hi hb h0
      go_enter Tryd.func10, Tryd.ntmps10
      go_wp2_with fail
      refine (rget_is w HI.out HB.out H0.out rfl rfl rfl).mono ?_
      rintro e w' ⟨rfl, b1⟩
      go_wp2
      go_ret
      exact ⟨rfl, b1.alloc b1.size _⟩
    · rw [decide_eq_false e] at hr
      subst hr
      have hbb : (q == kind) = false := by simp [e]
      have HI := Lib.hid hi
      have HB := Lib.hid hb
      have H0 := Lib.hid h0
      clear hi hb h0 e
      go_enter Tryd.func10, Tryd.ntmps10
      go_wp2_with fail
      refine (rget_is w HI.out HB.out H0.out rfl rfl rfl).mono ?_
      rintro e w' ⟨rfl, b1⟩
      go_wp2
      go_ret
      exact ⟨rfl, b1.alloc b1.size _⟩
  | false =>
    rw [hb, Bool.false_and] at hr
    subst hr
    have HI := Lib.hid hi
    have HB := Lib.hid hb
    clear hi hb
    go_enter Tryd.func10, Tryd.ntmps10
    go_wp2_with fail
    refine (rget_is w HI.out HB.out rfl rfl rfl rfl).mono ?_
    rintro e w' ⟨rfl, b1⟩
    go_wp2
    go_ret
    exact ⟨rfl, b1.alloc b1.size _⟩

/-! ### the chapter's example -/
def TrueBelow (w : World) (e : Ending) (w' : World) : Prop := e = .returned (.bool true) ∧ Below w.heap.size w w'
theorem put_is {k p g o v x : Int} (w : World) (hT : TabOk w) (hv : putV k p g o = v) (hx : putE k p g o = x) : Calls Tryd.prog 5 #[.int .i64 k, .int .i64 p, .int .i64 g, .int .i64 o] w fun e w' => e = .returned (.tuple #[.int .i64 v, .int .i64 x]) ∧ Below w.heap.size w w' := by
  subst hv hx; exact put_any k p g o w hT
theorem rput_is {k p g o v x : Int} (w : World) (hv : putV k p g o = v) (hx : putE k p g o = x) : Calls Tryd.prog 6 #[.int .i64 k, .int .i64 p, .int .i64 g, .int .i64 o] w fun e w' => e = .returned (.tuple #[.int .i64 v, .int .i64 x]) ∧ w = w' := by
  subst hv hx; exact rput_any k p g o w
theorem works_any {w : World} (hT : TabOk w) : Calls Tryd.prog 11 #[] w (TrueBelow w) := by
  have hnot := not_any
  have hg := hT.lt
  go_enter Tryd.func11, Tryd.ntmps11
  go_wp2_with fail
  refine (put_is (v := 1152923703633248256) (x := 0) w hT (by decide) (by decide)).mono ?_
  rintro e w1 ⟨rfl, b1⟩
  have t1 := hT.below b1 hg
  go_wp2_with fail
  refine (get_is (q0 := 1) (q1 := 2) (q2 := 3) (q3 := 0) (r := true) w1 t1 ⟨by omega, by omega⟩ (by decide) (by decide) (by decide) (by decide) (by decide)).mono ?_
  rintro e w2 ⟨rfl, b2⟩
  have b3 := b1.trans (b2.mono b1.size)
  have t2 := hT.below b3 hg
  go_wp2_with fail
  refine (is_is (r := true) w2 t2 ⟨by omega, by omega⟩ (by decide)).mono ?_
  rintro e w3 ⟨rfl, b4⟩
  have b5 := b3.trans (b4.mono b3.size)
  have t3 := hT.below b5 hg
  go_wp2_with fail
  refine (is_is (r := false) w3 t3 ⟨by omega, by omega⟩ (by decide)).mono ?_
  rintro e w4 ⟨rfl, b6⟩
  have b7 := b5.trans (b6.mono b5.size)
  have t4 := hT.below b7 hg
  go_wp2_with fail
  refine (is_is (r := false) w4 t4 ⟨by omega, by omega⟩ (by decide)).mono ?_
  rintro e w5 ⟨rfl, b8⟩
  have b9 := b7.trans (b8.mono b7.size)
  go_wp2
  go_ret
  exact ⟨rfl, b9⟩
end Go.Proofs.YtgkmghhplepnnaaDoor
