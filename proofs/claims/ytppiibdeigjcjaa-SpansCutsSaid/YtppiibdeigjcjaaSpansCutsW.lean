/- The walk of SpansCuts. -/
import Derived.Test.YtppiibdeigjcjaaSpansRCut
import Derived.Test.YtppiibdeigjcjaaSpansRMerge
import Derived.Test.YtppiibdeigjcjaaSpansRHoles
import Derived.Test.YtppiibdeigjcjaaSpansSame
import Derived.Test.YtppiibdeigjcjaaSpansWorks
namespace Go.Proofs.Ytppiibdeigjcjaa
open Go.RowKit

theorem same_self2 {w : World} {v u : Value} {xs : List Sp} (hx : SpansIn w v xs) (hy : SpansIn w u xs) : Calls Try.prog 15 #[v, u] w fun e w' => e = .returned (.bool true) ∧ Below w.heap.size w w' := same_is hx hy (decide_eq_true rfl)
set_option maxHeartbeats 1600000 in
theorem cuts_any {w : World} {A : Option Addr} {len c : Nat} {l : List Sp} {n0 n1 stop : Int} (h : SpansIn w (.slice A len c) l) (h0 : InInt n0) (h1 : InInt n1) (hst : InInt stop) : Calls Try.prog 6 #[.slice A len c, .agg #[.int .i64 n0, .int .i64 n1], .int .i64 stop] w (TrueBelow w) := by
  have hnot := not_any
  have hlen : len = l.length := by
    obtain ⟨⟨A', c', e, _⟩, _⟩ := h
    injection e with _ e _
  have n0_ := two_lit w (.int .i64 n0) (.int .i64 n1) 33
  have b0 := new_below w (.cells #[.int .i64 n0, .int .i64 n1] 33)
  have HS0 : Hid (∀ W, Below w.heap.size w W → SpansIn W (.slice A len c) l) := fun W hW => h.below hW
  have HLN := Lib.hid hlen
  have H0 := Lib.hid h0
  have H1 := Lib.hid h1
  have HST := Lib.hid hst
  clear h hlen h0 h1 hst
  go_enter Try.func6, Try.ntmps6
  go_upto_region 1 with fail
  generalize w.alloc (.cells #[.int .i64 n0, .int .i64 n1] 33) = W0 at *
  have HC : Hid (∀ W, Below W0.heap.size W0 W → (W.cell? ⟨w.heap.size, 0, none⟩ = some (.int .i64 n0) ∧ W.cell? ⟨w.heap.size, 1, none⟩ = some (.int .i64 n1)) ∧ Below w.heap.size w W) := fun W hW => ⟨two_any n0_ hW, b0.trans (hW.mono b0.size)⟩
  clear n0_ b0
  by_cases hbig : 40 < len
  · have hd : decide ((40 : Int) < (len : Int)) = true := decide_eq_true (by omega)
    have hd2 : decide (40 < len) = true := decide_eq_true hbig
    go_wp2_with fail
    refine (works_any _).mono ?_
    rintro e w1 ⟨rfl, b1⟩
    have HB := Lib.hid (HC.out _ b1).2
    go_wp2
    go_ret
    exact ⟨rfl, HB.out⟩
  · have hd : decide ((40 : Int) < (len : Int)) = false := decide_eq_false (by omega)
    have hd2 : decide (40 < len) = false := decide_eq_false hbig
    have HS : Hid (l.length ≤ 1048576) := by have := HLN.out; show _ ≤ _; omega
    obtain ⟨o, eo⟩ : ∃ o, ordB 0 l = o := ⟨_, rfl⟩
    obtain ⟨p, ep⟩ : ∃ p, cutB l n0 n1 = p := ⟨_, rfl⟩
    have EO := Lib.hid eo
    have EP := Lib.hid ep
    have hoe : (o == o) = true := by simp
    have hpe : (p == p) = true := by simp
    clear eo ep
    obtain ⟨⟨d0, d1⟩, bw⟩ := HC.out _ (Below.refl _ _)
    go_wp2_with fail
    refine (merge_is (HS0.out _ bw) HS.out EO.out).mono ?_
    rintro e w1 ⟨va, rfl, sa, b1⟩
    have SA := Lib.hid sa
    clear d0 d1 bw sa
    obtain ⟨⟨d0, d1⟩, bw⟩ := HC.out _ b1
    go_wp2_with fail
    refine (rmerge_is (HS0.out _ bw) HS.out EO.out).mono ?_
    rintro e w2 ⟨vb, rfl, sb, b2⟩
    have b3 := step_below b1 b2
    have SA2 := Lib.hid (SA.out.below b2)
    have SB := Lib.hid sb
    clear d0 d1 bw sb b1 b2 SA
    obtain ⟨⟨d0, d1⟩, bw⟩ := HC.out _ b3
    go_wp2_with fail
    refine (cut_is (HS0.out _ bw) HS.out H0.out H1.out EP.out).mono ?_
    rintro e w3 ⟨vc, rfl, sc, b4⟩
    have b5 := step_below b3 b4
    have SA3 := Lib.hid (SA2.out.below b4)
    have SB3 := Lib.hid (SB.out.below b4)
    have SC := Lib.hid sc
    clear d0 d1 bw sc b3 b4 SA2 SB
    obtain ⟨⟨d0, d1⟩, bw⟩ := HC.out _ b5
    go_wp2_with fail
    refine (rcut_is (HS0.out _ bw) HS.out H0.out H1.out EP.out).mono ?_
    rintro e w4 ⟨vd, rfl, sd, b6⟩
    have b7 := step_below b5 b6
    have SA4 := Lib.hid (SA3.out.below b6)
    have SB4 := Lib.hid (SB3.out.below b6)
    have SC4 := Lib.hid (SC.out.below b6)
    have SD := Lib.hid sd
    clear d0 d1 bw sd b5 b6 SA3 SB3 SC
    go_wp2_with fail
    refine (same_self2 SA4.out SB4.out).mono ?_
    rintro e w5 ⟨rfl, b8⟩
    have b9 := step_below b7 b8
    have SC5 := Lib.hid (SC4.out.below b8)
    have SD5 := Lib.hid (SD.out.below b8)
    clear b7 b8 SA4 SB4 SC4 SD
    go_wp2_with fail
    refine (same_self2 SC5.out SD5.out).mono ?_
    rintro e w6 ⟨rfl, b10⟩
    have b11 := step_below b9 b10
    have bw := (HC.out _ b11).2
    clear b9 b10 SC5 SD5
    go_wp2_with fail
    refine (holes_is (HS0.out _ bw) HS.out HST.out).mono ?_
    rintro e w7 ⟨ve, rfl, se, b12⟩
    have b13 := step_below b11 b12
    have SE := Lib.hid se
    clear bw b11 b12 se
    have bw := (HC.out _ b13).2
    go_wp2_with fail
    refine (rholes_is (HS0.out _ bw) HS.out HST.out).mono ?_
    rintro e w8 ⟨vf, rfl, sf, b14⟩
    have b15 := step_below b13 b14
    have SE2 := Lib.hid (SE.out.below b14)
    have SF := Lib.hid sf
    clear bw b13 b14 sf SE
    go_wp2_with fail
    refine (same_self2 SE2.out SF.out).mono ?_
    rintro e w9 ⟨rfl, b16⟩
    have b17 := step_below b15 b16
    clear b15 b16 SE2 SF
    go_wp2_with fail
    refine (works_any _).mono ?_
    rintro e w10 ⟨rfl, b18⟩
    have HB := Lib.hid (HC.out _ (step_below b17 b18)).2
    go_wp2
    go_ret
    exact ⟨rfl, HB.out⟩
end Go.Proofs.Ytppiibdeigjcjaa
