/- The walk of SpansJoins. -/
import Derived.Test.YtppiibdeigjcjaaSpansRefs
import Derived.Test.YtppiibdeigjcjaaSpansSame
import Derived.Test.YtppiibdeigjcjaaSpansWorks
namespace Go.Proofs.Ytppiibdeigjcjaa
open Go.RowKit

theorem same_self {w : World} {v u : Value} {xs : List Sp} (hx : SpansIn w v xs) (hy : SpansIn w u xs) : Calls Try.prog 15 #[v, u] w fun e w' => e = .returned (.bool true) ∧ Below w.heap.size w w' := same_is hx hy (decide_eq_true rfl)
theorem addV_ints {l : List Sp} {s : Sp} : (addV l s).length ≤ l.length + 1 := by
  unfold addV
  split
  · rw [insL_length]; exact Nat.le_refl _
  · simp
set_option maxHeartbeats 1600000 in
theorem joins_any {w : World} {A : Option Addr} {len c : Nat} {l : List Sp} {x y at_ : Int} (h : SpansIn w (.slice A len c) l) (hx : InInt x) (hy : InInt y) : Calls Try.prog 3 #[.slice A len c, .agg #[.int .i64 x, .int .i64 y], .int .i64 at_] w (TrueBelow w) := by
  have hnot := not_any
  have hlen : len = l.length := by
    obtain ⟨⟨A', c', e, _⟩, _⟩ := h
    injection e with _ e _
  have n0 := two_lit w (.int .i64 x) (.int .i64 y) 24
  have b0 := new_below w (.cells #[.int .i64 x, .int .i64 y] 24)
  have HS0 : Hid (∀ W, Below w.heap.size w W → SpansIn W (.slice A len c) l) := fun W hW => h.below hW
  have HLN := Lib.hid hlen
  have HX := Lib.hid hx
  have HY := Lib.hid hy
  have HI := Lib.hid h.ints
  have HPA : Hid (PairsAt w A l) := by
    obtain ⟨⟨A', c', e, _, _, hp⟩, _⟩ := h
    injection e with e1 _ _
    subst e1
    exact hp
  clear h hlen hx hy
  go_enter Try.func3, Try.ntmps3
  go_upto_region 1 with fail
  generalize w.alloc (.cells #[.int .i64 x, .int .i64 y] 24) = W0 at *
  have HC : Hid (∀ W, Below W0.heap.size W0 W → (W.cell? ⟨w.heap.size, 0, none⟩ = some (.int .i64 x) ∧ W.cell? ⟨w.heap.size, 1, none⟩ = some (.int .i64 y)) ∧ Below w.heap.size w W) := fun W hW => ⟨two_any n0 hW, b0.trans (hW.mono b0.size)⟩
  clear n0 b0
  by_cases hbig : 40 < len
  · have hd : decide ((40 : Int) < (len : Int)) = true := decide_eq_true (by omega)
    have hd2 : decide (40 < len) = true := decide_eq_true hbig
    go_wp2_with fail
    refine (works_any _).mono ?_
    rintro e w1 ⟨rfl, b1⟩
    have HB := Lib.hid (HC.out _ b1).2
    go_wp2
    go_ret
    exact ⟨rfl, HB.out⟩
  · have hd : decide ((40 : Int) < (len : Int)) = false := decide_eq_false (by omega)
    have hd2 : decide (40 < len) = false := decide_eq_false hbig
    have HS : Hid (l.length ≤ 40) := by have := HLN.out; show _ ≤ _; omega
    obtain ⟨p, ep⟩ : ∃ p, addB l (x, y) = p := ⟨_, rfl⟩
    obtain ⟨q, eq⟩ : ∃ q, dropB l at_ = q := ⟨_, rfl⟩
    obtain ⟨o, eo⟩ : ∃ o, ordB 0 l = o := ⟨_, rfl⟩
    have EP := Lib.hid ep
    have EQ := Lib.hid eq
    have EO := Lib.hid eo
    clear ep eq eo
    obtain ⟨⟨d0, d1⟩, bw⟩ := HC.out _ (Below.refl _ _)
    go_wp2_with fail
    refine (add_is (HS0.out _ bw) (by have := HS.out; omega) HX.out HY.out EP.out).mono ?_
    rintro e w1 ⟨va, rfl, sa, b1⟩
    have SA := Lib.hid sa
    clear d0 d1 bw sa
    obtain ⟨⟨d0, d1⟩, bw⟩ := HC.out _ b1
    go_wp2_with fail
    refine (radd_is (HS0.out _ bw) (by have := HS.out; omega) HX.out HY.out EP.out).mono ?_
    rintro e w2 ⟨vb, rfl, sb, b2⟩
    have b3 := step_below b1 b2
    have SA2 := Lib.hid (SA.out.below b2)
    have SB := Lib.hid sb
    clear d0 d1 bw sb b1 b2 SA
    have bw := (HC.out _ b3).2
    go_wp2_with fail
    refine (drop_is (HS0.out _ bw) (by have := HS.out; omega) EQ.out).mono ?_
    rintro e w3 ⟨vc, rfl, sc, b4⟩
    have b5 := step_below b3 b4
    have SA3 := Lib.hid (SA2.out.below b4)
    have SB3 := Lib.hid (SB.out.below b4)
    have SC := Lib.hid sc
    clear bw sc b3 b4 SA2 SB
    have bw := (HC.out _ b5).2
    go_wp2_with fail
    refine (rdrop_is (HS0.out _ bw) (by have := HS.out; omega) EQ.out).mono ?_
    rintro e w4 ⟨vd, rfl, sd, b6⟩
    have b7 := step_below b5 b6
    have SA4 := Lib.hid (SA3.out.below b6)
    have SB4 := Lib.hid (SB3.out.below b6)
    have SC4 := Lib.hid (SC.out.below b6)
    have SD := Lib.hid sd
    clear bw sd b5 b6 SA3 SB3 SC
    have bw := (HC.out _ b7).2
    go_wp2_with fail
    refine (right_spans (HS0.out _ bw) EO.out).mono ?_
    rintro e w5 ⟨rfl, b8⟩
    have b9 := step_below b7 b8
    have SA5 := Lib.hid (SA4.out.below b8)
    have SB5 := Lib.hid (SB4.out.below b8)
    have SC5 := Lib.hid (SC4.out.below b8)
    have SD5 := Lib.hid (SD.out.below b8)
    clear bw b7 b8 SA4 SB4 SC4 SD
    have bw := (HC.out _ b9).2
    have hoo : (o != o) = false := by simp
    have hpp : (p != p) = false := by simp
    have hqq : (q != q) = false := by simp
    have hoe : (o == o) = true := by simp
    go_wp2_with fail
    refine (rright_spans (HS0.out _ bw) EO.out).mono ?_
    rintro e w6 ⟨rfl, b10⟩
    have b11 := step_below b9 b10
    have SA6 := Lib.hid (SA5.out.below b10)
    have SB6 := Lib.hid (SB5.out.below b10)
    have SC6 := Lib.hid (SC5.out.below b10)
    have SD6 := Lib.hid (SD5.out.below b10)
    clear bw b9 b10 SA5 SB5 SC5 SD5
    go_wp2_with fail
    refine (same_self SA6.out SB6.out).mono ?_
    rintro e w7 ⟨rfl, b12⟩
    have b13 := step_below b11 b12
    have SC7 := Lib.hid (SC6.out.below b12)
    have SD7 := Lib.hid (SD6.out.below b12)
    clear b11 b12 SA6 SB6 SC6 SD6
    go_wp2_with fail
    refine (same_self SC7.out SD7.out).mono ?_
    rintro e w8 ⟨rfl, b14⟩
    have b15 := step_below b13 b14
    clear b13 b14 SC7 SD7
    have WK : Hid (∀ p : From w8, Calls Try.prog 8 #[] p.W fun e w' => e = .returned (.bool true) ∧ Below p.W.heap.size p.W w') := fun p => works_any p.W
    have hb1 := Below.refl w8.heap.size w8
    have c2 : ∀ q : From w8, q.W.cell? ⟨w.heap.size, 0, none⟩ = some (.int .i64 x) := fun q => (HC.out _ (step_below b15 q.bel)).1.1
    have c3 : ∀ q : From w8, q.W.cell? ⟨w.heap.size, 1, none⟩ = some (.int .i64 y) := fun q => (HC.out _ (step_below b15 q.bel)).1.2
    go_upto_region 9 with fail
    cases l with
    | nil =>
      have hl0 : len = 0 := by have := HLN.out; simpa using this
      subst hl0
      refine wp_region_from (w0 := w8) (by kernel_rfl) (by kernel_rfl) hb1 ?_
      repeat (go_big_quiet_step (first | (go_at_call 8; with_reducible refine from_of (WK.out _))))
      refine wpQuiet_nil ?_
      intro wq hw'
      obtain ⟨⟨wy, hq⟩, hw''⟩ := hw'
      subst hw''
      have HB := Lib.hid (HC.out _ (step_below b15 hq)).2
      go_wp2
      go_ret
      exact ⟨rfl, HB.out⟩
    | cons s r =>
      have hln : 0 < len := by have := HLN.out; simp at this; omega
      have bw8 := (HC.out _ b15).2
      obtain ⟨pb, off, rfl, hc⟩ := (HPA.out.below bw8).all (by simp)
      have hsi := HI.out s (by simp)
      have c0 : ∀ q : From w8, q.W.cell? ⟨pb, off, none⟩ = some (.int .i64 s.1) := fun q => by have := (hc q.W q.bel 0 s rfl).1; simpa using this
      have c1 : ∀ q : From w8, q.W.cell? ⟨pb, off + 1, none⟩ = some (.int .i64 s.2) := fun q => by have := (hc q.W q.bel 0 s rfl).2; simpa using this
      obtain ⟨u, t⟩ := s
      simp only at c0 c1 hsi
      obtain ⟨m, em⟩ : ∃ m, meetB (u, t) (x, y) = m := ⟨_, rfl⟩
      have M1 : Hid (∀ p : From w8, Calls Try.prog 16 #[.agg #[.int .i64 u, .int .i64 t], .agg #[.int .i64 x, .int .i64 y]] p.W fun e w' => e = .returned (.bool m) ∧ Below p.W.heap.size p.W w') := fun p => meet_is p.W hsi.1 hsi.2 HX.out HY.out em
      have M2 : Hid (∀ p : From w8, Calls Try.prog 17 #[.agg #[.int .i64 u, .int .i64 t], .agg #[.int .i64 x, .int .i64 y]] p.W fun e w' => e = .returned (.bool m) ∧ Below p.W.heap.size p.W w') := fun p => rmeet_is p.W hsi.1 hsi.2 HX.out HY.out em
      have hik : 0 ≤ (0 : Int) ∧ (0 : Int) < (len : Int) := by omega
      have hl0 : ((len : Int) == 0) = false := by simp; omega
      have hmm : (m == m) = true := by simp
      clear em hc hsi bw8
      refine wp_region_from (w0 := w8) (by kernel_rfl) (by kernel_rfl) hb1 ?_
      repeat (go_big_quiet_step (first | (go_at_call 16; with_reducible refine from_of (M1.out _)) | (go_at_call 17; with_reducible refine from_of (M2.out _)) | (go_at_call 8; with_reducible refine from_of (WK.out _))))
      refine wpQuiet_nil ?_
      intro wq hw'
      obtain ⟨⟨wy, hq⟩, hw''⟩ := hw'
      subst hw''
      have HB := Lib.hid (HC.out _ (step_below b15 hq)).2
      go_wp2
      go_ret
      exact ⟨rfl, HB.out⟩
end Go.Proofs.Ytppiibdeigjcjaa
