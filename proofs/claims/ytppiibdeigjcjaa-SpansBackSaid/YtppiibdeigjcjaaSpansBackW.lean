/- The walk of SpansBack. -/
import Derived.Test.YtppiibdeigjcjaaSpansGap
import Derived.Test.YtppiibdeigjcjaaSpansAdd
import Derived.Test.YtppiibdeigjcjaaSpansSame
import Derived.Test.YtppiibdeigjcjaaSpansWorks
namespace Go.Proofs.Ytppiibdeigjcjaa
open Go.RowKit

theorem back_math {l : List Sp} {x y : Int} (h : addB l (x, y) = true) : ∃ k : Nat, k < l.length + 1 ∧ findR (insL (x, y) l) x = (k : Int) ∧ (insL (x, y) l)[k]? = some (x, y) ∧ dropB (insL (x, y) l) x = true ∧ dropV (insL (x, y) l) x = l ∧ ordB 0 (insL (x, y) l) = true ∧ addV l (x, y) = insL (x, y) l := by
  obtain ⟨h1, h2, h3⟩ := addB_iff.1 h
  obtain ⟨k, hk, hk2⟩ := find_ins 0 (Int.le_refl 0) h1 h2 h3
  obtain ⟨d1, d2⟩ := drop_ins (Int.le_refl 0) h1 h2 h3
  have ho := ord_ins (Int.le_refl 0) h1 h2 h3
  have hd : dropB (insL (x, y) l) x = true := by unfold dropB; rw [ho, d1]; rfl
  refine ⟨k, ?_, ?_, hk2, hd, ?_, ho, ?_⟩
  · obtain ⟨hlt, _⟩ := List.getElem?_eq_some_iff.1 hk2
    rw [insL_length] at hlt
    exact hlt
  · unfold findR
    rw [if_pos ho, hk, Nat.zero_add]
  · unfold dropV
    rw [if_pos hd]
    exact d2
  · unfold addV
    rw [if_pos h]
theorem gap_math {l : List Sp} {n0 n1 g : Int} (h : gapR l n0 n1 = g) (hn : n1 ≤ 9223372036854775807) (hg : ¬ g < 0) : addB l (g, n0) = true ∧ 0 ≤ g ∧ n0 ≤ n1 - g ∧ g ≤ n1 := by
  unfold gapR at h
  split at h
  · rename_i hc
    obtain ⟨h0, h1, h2⟩ := hc
    obtain ⟨g1, g2, g3⟩ := gap_fits h1 (Int.le_refl 0) h0 h (by omega)
    refine ⟨addB_iff.2 ⟨h0, okB_iff.2 ⟨by omega, by omega, by show g + n0 ≤ _; omega⟩, meets_none g3⟩, by omega, by omega, by omega⟩
  · omega
set_option maxHeartbeats 1600000 in
theorem back_any {w : World} {A : Option Addr} {len c : Nat} {l : List Sp} {x y n0 n1 : Int} (h : SpansIn w (.slice A len c) l) (hx : InInt x) (hy : InInt y) (h0 : InInt n0) (h1 : InInt n1) : Calls Try.prog 5 #[.slice A len c, .agg #[.int .i64 x, .int .i64 y], .agg #[.int .i64 n0, .int .i64 n1]] w (TrueBelow w) := by
  have hnot := not_any
  have hlen : len = l.length := by
    obtain ⟨⟨A', c', e, _⟩, _⟩ := h
    injection e with _ e _
  have b0 : Below w.heap.size w ((w.alloc (.cells #[.int .i64 x, .int .i64 y] 24)).alloc (.cells #[.int .i64 n0, .int .i64 n1] 33)) := step_below (new_below w (.cells #[.int .i64 x, .int .i64 y] 24)) (new_below _ (.cells #[.int .i64 n0, .int .i64 n1] 33))
  have hsz : (w.alloc (.cells #[.int .i64 x, .int .i64 y] 24)).heap.size = w.heap.size + 1 := by simp
  have m0 : ∀ W, Below ((w.alloc (.cells #[.int .i64 x, .int .i64 y] 24)).alloc (.cells #[.int .i64 n0, .int .i64 n1] 33)).heap.size ((w.alloc (.cells #[.int .i64 x, .int .i64 y] 24)).alloc (.cells #[.int .i64 n0, .int .i64 n1] 33)) W → W.cell? ⟨w.heap.size, 0, none⟩ = some (.int .i64 x) ∧ W.cell? ⟨w.heap.size, 1, none⟩ = some (.int .i64 y) ∧ W.cell? ⟨w.heap.size + 1, 0, none⟩ = some (.int .i64 n0) ∧ W.cell? ⟨w.heap.size + 1, 1, none⟩ = some (.int .i64 n1) := by
    intro W hW
    have k1 := two_any (two_lit w (.int .i64 x) (.int .i64 y) 24) (step_below (new_below _ (.cells #[.int .i64 n0, .int .i64 n1] 33)) hW)
    have k2 := two_any (two_lit (w.alloc (.cells #[.int .i64 x, .int .i64 y] 24)) (.int .i64 n0) (.int .i64 n1) 33) hW
    rw [hsz] at k2
    exact ⟨k1.1, k1.2, k2.1, k2.2⟩
  have HS0 : Hid (∀ W, Below w.heap.size w W → SpansIn W (.slice A len c) l) := fun W hW => h.below hW
  have HLN := Lib.hid hlen
  have HX := Lib.hid hx
  have HY := Lib.hid hy
  have H0 := Lib.hid h0
  have H1 := Lib.hid h1
  have M0 := Lib.hid m0
  clear h hlen hx hy h0 h1 m0 hsz
  go_enter Try.func5, Try.ntmps5
  go_upto_region 1 with fail
  generalize (w.alloc (.cells #[.int .i64 x, .int .i64 y] 24)).alloc (.cells #[.int .i64 n0, .int .i64 n1] 33) = W0 at *
  have HC : Hid (∀ W, Below W0.heap.size W0 W → (W.cell? ⟨w.heap.size, 0, none⟩ = some (.int .i64 x) ∧ W.cell? ⟨w.heap.size, 1, none⟩ = some (.int .i64 y) ∧ W.cell? ⟨w.heap.size + 1, 0, none⟩ = some (.int .i64 n0) ∧ W.cell? ⟨w.heap.size + 1, 1, none⟩ = some (.int .i64 n1)) ∧ Below w.heap.size w W) := fun W hW => ⟨M0.out W hW, b0.trans (hW.mono b0.size)⟩
  clear M0 b0
  by_cases hbig : 40 < len
  · have hd : decide ((40 : Int) < (len : Int)) = true := decide_eq_true (by omega)
    have hd2 : decide (40 < len) = true := decide_eq_true hbig
    go_wp2_with fail
    refine (works_any _).mono ?_
    rintro e w1 ⟨rfl, b1⟩
    have HB := Lib.hid (HC.out _ b1).2
    go_wp2
    go_ret
    exact ⟨rfl, HB.out⟩
  · have hd : decide ((40 : Int) < (len : Int)) = false := decide_eq_false (by omega)
    have hd2 : decide (40 < len) = false := decide_eq_false hbig
    have HS : Hid (l.length ≤ 40) := by have := HLN.out; show _ ≤ _; omega
    obtain ⟨p, ep⟩ : ∃ p, addB l (x, y) = p := ⟨_, rfl⟩
    have EP := Lib.hid ep
    clear ep
    obtain ⟨⟨d0, d1, _, _⟩, bw⟩ := HC.out _ (Below.refl _ _)
    go_wp2_with fail
    refine (add_is (HS0.out _ bw) (by have := HS.out; omega) HX.out HY.out EP.out).mono ?_
    rintro e w1 ⟨va, rfl, sa, b1⟩
    have SA := Lib.hid sa
    have B1 := Lib.hid b1
    clear d0 d1 bw sa b1
    cases p with
    | false =>
      obtain ⟨g, eg⟩ : ∃ g, gapR l n0 n1 = g := ⟨_, rfl⟩
      have EG := Lib.hid eg
      clear eg
      obtain ⟨⟨_, _, d2, d3⟩, bw⟩ := HC.out _ B1.out
      go_wp2_with fail
      refine (gap_is (HS0.out _ bw) (by have := HS.out; omega) H1.out EG.out).mono ?_
      rintro e w5 ⟨rfl, b5⟩
      have b6 := step_below B1.out b5
      clear d2 d3 bw b5
      by_cases hg : g < 0
      · have hg1 : decide (g < 0) = true := decide_eq_true hg
        go_wp2_with fail
        refine (works_any _).mono ?_
        rintro e w6 ⟨rfl, b7⟩
        have HB := Lib.hid (HC.out _ (step_below b6 b7)).2
        go_wp2
        go_ret
        exact ⟨rfl, HB.out⟩
      · have hg1 : decide (g < 0) = false := decide_eq_false hg
        obtain ⟨ga, gp, gq, gr⟩ := gap_math EG.out H1.out.2 hg
        obtain ⟨⟨_, _, d2, d3⟩, bw⟩ := HC.out _ b6
        go_wp2_with fail
        refine (add_is (HS0.out _ bw) (by have := HS.out; omega) (by have := H1.out; unfold InInt at this ⊢; omega) H0.out ga).mono ?_
        rintro e w6 ⟨va', rfl, _, b7⟩
        have b8 := step_below b6 b7
        clear d2 d3 bw b6 b7
        obtain ⟨⟨_, _, d2, d3⟩, bw⟩ := HC.out _ b8
        have hsub : IntKind.i64.wrap (n1 - g) = n1 - g := i64_is (by have := H1.out; unfold InInt at this; omega)
        have hge : decide (n0 ≤ n1 - g) = true := decide_eq_true gq
        go_wp2_with fail
        refine (works_any _).mono ?_
        rintro e w7 ⟨rfl, b9⟩
        have HB := Lib.hid (HC.out _ (step_below b8 b9)).2
        go_wp2
        go_ret
        exact ⟨rfl, HB.out⟩
    | true =>
      obtain ⟨k, q1, q2, q3, q4, q5, q6, q7⟩ := back_math EP.out
      rw [q7] at SA
      have hml : (insL (x, y) l).length = l.length + 1 := insL_length _ _
      obtain ⟨M, eM⟩ : ∃ M, (insL (x, y) l).length = M := ⟨_, rfl⟩
      obtain ⟨m, em⟩ : ∃ m, insL (x, y) l = m := ⟨_, rfl⟩
      rw [em] at SA q2 q3 q4 q5 q6 eM hml
      have sa := SA.out
      obtain ⟨⟨A1, c1_, e1, z1, z2, z3⟩, zi⟩ := sa
      subst e1
      rw [eM] at SA hml z1 ⊢
      have hkM : k < M := by omega
      have HM40 : Hid (m.length ≤ 41) := by have := HS.out; show _ ≤ _; omega
      have HLM : Hid (0 < m.length) := by show _ < _; omega
      have Q2 := Lib.hid q2
      have Q3 := Lib.hid q3
      have Q4 := Lib.hid q4
      have Q5 := Lib.hid q5
      have Q6 := Lib.hid q6
      have HPA := Lib.hid z3
      clear q1 q2 q3 q4 q5 q6 q7 em eM hml z1 z2 z3 zi EP
      obtain ⟨⟨d0, d1, _, _⟩, bw⟩ := HC.out _ B1.out
      go_wp2_with fail
      refine (drop_is SA.out (by have := HM40.out; omega) Q4.out).mono ?_
      rintro e w2 ⟨vc, rfl, sc, b2⟩
      rw [Q5.out] at sc
      have SC := Lib.hid sc
      have SA2 := Lib.hid (SA.out.below b2)
      have B2 := Lib.hid (step_below B1.out b2)
      have HP2 := Lib.hid (HPA.out.below b2)
      clear d0 d1 bw sc b2 SA HPA B1
      obtain ⟨⟨d0, d1, _, _⟩, bw⟩ := HC.out _ B2.out
      go_wp2_with fail
      refine (find_is SA2.out (by have := HM40.out; omega) Q2.out).mono ?_
      rintro e w3 ⟨rfl, b3⟩
      have SC3 := Lib.hid (SC.out.below b3)
      have SA3 := Lib.hid (SA2.out.below b3)
      have B3 := Lib.hid (step_below B2.out b3)
      have HP3 := Lib.hid (HP2.out.below b3)
      clear d0 d1 bw b3 SC SA2 B2 HP2
      obtain ⟨pb, off, rfl, hc⟩ := HP3.out.all HLM.out
      have c0 : ∀ q : From w3, q.W.cell? ⟨pb, off + k * 2, none⟩ = some (.int .i64 x) := fun q => (hc q.W q.bel k (x, y) Q3.out).1
      have c1 : ∀ q : From w3, q.W.cell? ⟨pb, off + k * 2 + 1, none⟩ = some (.int .i64 y) := fun q => (hc q.W q.bel k (x, y) Q3.out).2
      have c2 : ∀ q : From w3, q.W.cell? ⟨w.heap.size, 0, none⟩ = some (.int .i64 x) := fun q => (HC.out _ (step_below B3.out q.bel)).1.1
      have c3 : ∀ q : From w3, q.W.cell? ⟨w.heap.size, 1, none⟩ = some (.int .i64 y) := fun q => (HC.out _ (step_below B3.out q.bel)).1.2.1
      have hik : 0 ≤ (k : Int) ∧ (k : Int) < (M : Int) := by omega
      have hk0 : decide ((k : Int) < 0) = false := decide_eq_false (by omega)
      have hk1 : decide ((M : Int) ≤ (k : Int)) = false := decide_eq_false (by omega)
      have hk2 : decide (M ≤ k) = false := decide_eq_false (by omega)
      have hb1 := Below.refl w3.heap.size w3
      have z : ∀ W, (Op.equalIn 10000 24 (.agg #[.int .i64 x, .int .i64 y]) (.agg #[.int .i64 x, .int .i64 y])).run Try.prog W = .ok true W := fun W => eql_span_is W (decide_eq_true rfl)
      have R1 : Hid (∀ p : From w3, Calls Try.prog 13 #[.slice (some ⟨pb, off, none⟩) M c1_] p.W fun e w' => e = .returned (.bool true) ∧ Below p.W.heap.size p.W w') := fun p => right_spans (SA3.out.below p.bel) Q6.out
      have R2 : Hid (∀ p : From w3, Calls Try.prog 15 #[vc, .slice A len c] p.W fun e w' => e = .returned (.bool true) ∧ Below p.W.heap.size p.W w') := fun p => same_is (SC3.out.below p.bel) (HS0.out _ (HC.out _ (step_below B3.out p.bel)).2) (decide_eq_true rfl)
      clear hc hkM
      go_upto_region 7 with fail
      refine wp_region_from (w0 := w3) (by kernel_rfl) (by kernel_rfl) hb1 ?_
      repeat (go_big_quiet_step (first | (go_at_call 13; with_reducible refine from_of (R1.out _)) | (go_at_call 15; with_reducible refine from_of (R2.out _))))
      refine wpQuiet_nil ?_
      intro wq hw'
      obtain ⟨⟨wy, hq⟩, hw''⟩ := hw'
      subst hw''
      have B4 := Lib.hid (step_below B3.out hq)
      clear c0 c1 c2 c3 z R1 R2 hb1 hk0 hk1 hk2 hik
      obtain ⟨g, eg⟩ : ∃ g, gapR l n0 n1 = g := ⟨_, rfl⟩
      have EG := Lib.hid eg
      clear eg
      obtain ⟨⟨_, _, d2, d3⟩, bw⟩ := HC.out _ B4.out
      go_wp2_with fail
      refine (gap_is (HS0.out _ bw) (by have := HS.out; omega) H1.out EG.out).mono ?_
      rintro e w5 ⟨rfl, b5⟩
      have b6 := step_below B4.out b5
      clear d2 d3 bw b5
      by_cases hg : g < 0
      · have hg1 : decide (g < 0) = true := decide_eq_true hg
        go_wp2_with fail
        refine (works_any _).mono ?_
        rintro e w6 ⟨rfl, b7⟩
        have HB := Lib.hid (HC.out _ (step_below b6 b7)).2
        go_wp2
        go_ret
        exact ⟨rfl, HB.out⟩
      · have hg1 : decide (g < 0) = false := decide_eq_false hg
        obtain ⟨ga, gp, gq, gr⟩ := gap_math EG.out H1.out.2 hg
        obtain ⟨⟨_, _, d2, d3⟩, bw⟩ := HC.out _ b6
        go_wp2_with fail
        refine (add_is (HS0.out _ bw) (by have := HS.out; omega) (by have := H1.out; unfold InInt at this ⊢; omega) H0.out ga).mono ?_
        rintro e w6 ⟨va', rfl, _, b7⟩
        have b8 := step_below b6 b7
        clear d2 d3 bw b6 b7
        obtain ⟨⟨_, _, d2, d3⟩, bw⟩ := HC.out _ b8
        have hsub : IntKind.i64.wrap (n1 - g) = n1 - g := i64_is (by have := H1.out; unfold InInt at this; omega)
        have hge : decide (n0 ≤ n1 - g) = true := decide_eq_true gq
        go_wp2_with fail
        refine (works_any _).mono ?_
        rintro e w7 ⟨rfl, b9⟩
        have HB := Lib.hid (HC.out _ (step_below b8 b9)).2
        go_wp2
        go_ret
        exact ⟨rfl, HB.out⟩
end Go.Proofs.Ytppiibdeigjcjaa
