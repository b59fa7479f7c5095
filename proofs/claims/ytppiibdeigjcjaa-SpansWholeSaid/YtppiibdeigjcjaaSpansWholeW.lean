/- The walk of SpansWhole. -/
import Derived.Test.YtppiibdeigjcjaaSpansCut
import Derived.Test.YtppiibdeigjcjaaSpansMerge
import Derived.Test.YtppiibdeigjcjaaSpansHoles
import Derived.Test.YtppiibdeigjcjaaSpansFind
import Derived.Test.YtppiibdeigjcjaaSpansAdd
import Derived.Test.YtppiibdeigjcjaaSpansSame
import Derived.Test.YtppiibdeigjcjaaSpansWorks
namespace Go.Proofs.Ytppiibdeigjcjaa
open Go.RowKit

/-- Where nothing lies behind e, nothing is cut. -/
theorem cut_off {e : Int} : ∀ {l : List Sp}, (∀ p ∈ l, 1 ≤ p.2 ∧ p.1 + p.2 ≤ e) → cutL e e l = l
  | [], _ => rfl
  | p :: r, h => by
    have h1 := h p (by simp)
    have h2 := cut_off (l := r) (fun q hq => h q (by simp [hq]))
    rw [cutL, h2, headP, if_pos (by omega), tailP, if_neg (by omega), show min p.2 (e - p.1) = p.2 by omega]
    rfl
theorem whole_cut {l : List Sp} {n0 n1 : Int} (ho : ordB 0 l = true) (h0 : 0 ≤ n0) (h0' : n0 ≤ 9223372036854775807) (h1 : 0 ≤ n1) : ordB 0 (cutR l n0 n1) = true ∧ (0 < n1 → findR (cutR l n0 n1) n0 = -1) := by
  unfold cutR
  by_cases hn : n1 = 0
  · rw [if_pos hn]
    exact ⟨ho, fun h => by omega⟩
  · rw [if_neg hn]
    have key : ordB 0 (cutL n0 (stopI n0 n1) l) = true ∧ ∀ p ∈ cutL n0 (stopI n0 n1) l, ¬ (p.1 ≤ n0 ∧ n0 < p.1 + p.2) := by
      by_cases hlt : n0 < stopI n0 n1
      · exact cut_ok hlt ho
      · have he : stopI n0 n1 = n0 := by unfold stopI at hlt ⊢; split at hlt <;> omega
        have hm : n0 = 9223372036854775807 := by unfold stopI at he; split at he <;> omega
        rw [he, cut_off (fun p hp => by have := ordB_mem ho p hp; omega)]
        exact ⟨ho, fun p hp => by have := ordB_mem ho p hp; omega⟩
    refine ⟨key.1, fun _ => ?_⟩
    unfold findR
    rw [if_pos key.1, find_none 0 key.2]
theorem whole_sum {l : List Sp} (ho : ordB 0 l = true) : ordB 0 (mergeL l) = true ∧ totalR (mergeL l) = sumL l ∧ totalR l = sumL l := by
  obtain ⟨h1, h2⟩ := mergeL_ok ho
  refine ⟨h1, ?_, if_pos ho⟩
  unfold totalR
  rw [if_pos h1, h2]
set_option maxHeartbeats 3200000 in
theorem whole_any {w : World} {A : Option Addr} {len c : Nat} {l : List Sp} {n0 n1 : Int} (h : SpansIn w (.slice A len c) l) (h0 : InInt n0) (h1 : InInt n1) : Calls Try.prog 7 #[.slice A len c, .agg #[.int .i64 n0, .int .i64 n1]] w (TrueBelow w) := by
  have hnot := not_any
  have hlen : len = l.length := by
    obtain ⟨⟨A', c', e, _⟩, _⟩ := h
    injection e with _ e _
  have n0_ := two_lit w (.int .i64 n0) (.int .i64 n1) 33
  have b0 := new_below w (.cells #[.int .i64 n0, .int .i64 n1] 33)
  have HS0 : Hid (∀ W, Below w.heap.size w W → SpansIn W (.slice A len c) l) := fun W hW => h.below hW
  have HLN := Lib.hid hlen
  have H0 := Lib.hid h0
  have H1 := Lib.hid h1
  have HI := Lib.hid h.ints
  have HPA : Hid (∀ W, Below w.heap.size w W → PairsAt W A l) := by
    obtain ⟨⟨A', c', e, _, _, hp⟩, _⟩ := h
    injection e with e1 _ _
    subst e1
    exact fun W hW => hp.below hW
  clear h hlen h0 h1
  go_enter Try.func7, Try.ntmps7
  go_upto_region 1 with fail
  generalize w.alloc (.cells #[.int .i64 n0, .int .i64 n1] 33) = W0 at *
  have HC : Hid (∀ W, Below W0.heap.size W0 W → (W.cell? ⟨w.heap.size, 0, none⟩ = some (.int .i64 n0) ∧ W.cell? ⟨w.heap.size, 1, none⟩ = some (.int .i64 n1)) ∧ Below w.heap.size w W) := fun W hW => ⟨two_any n0_ hW, b0.trans (hW.mono b0.size)⟩
  clear n0_ b0
  by_cases hbig : 40 < len
  · have hd : decide ((40 : Int) < (len : Int)) = true := decide_eq_true (by omega)
    have hd2 : decide (40 < len) = true := decide_eq_true hbig
    go_wp2_with fail
    refine (works_any _).mono ?_
    rintro e w1 ⟨rfl, b1⟩
    have HB := Lib.hid (HC.out _ b1).2
    go_wp2
    go_ret
    exact ⟨rfl, HB.out⟩
  · have hd : decide ((40 : Int) < (len : Int)) = false := decide_eq_false (by omega)
    have hd2 : decide (40 < len) = false := decide_eq_false hbig
    have HS : Hid (l.length ≤ 40) := by have := HLN.out; show _ ≤ _; omega
    obtain ⟨o, eo⟩ : ∃ o, ordB 0 l = o := ⟨_, rfl⟩
    have EO := Lib.hid eo
    clear eo
    obtain ⟨_, bw⟩ := HC.out _ (Below.refl _ _)
    go_wp2_with fail
    refine (rright_spans (HS0.out _ bw) EO.out).mono ?_
    rintro e w1 ⟨rfl, b1⟩
    have B1 := Lib.hid b1
    clear bw b1
    cases o with
    | false =>
      go_wp2_with fail
      refine (works_any _).mono ?_
      rintro e w2 ⟨rfl, b2⟩
      have HB := Lib.hid (HC.out _ (step_below B1.out b2)).2
      go_wp2
      go_ret
      exact ⟨rfl, HB.out⟩
    | true =>
      clear hd hd2
      obtain ⟨g1, g2, g3⟩ := whole_sum EO.out
      obtain ⟨s, es⟩ : ∃ s, sumL l = s := ⟨_, rfl⟩
      rw [es] at g2 g3
      have G1 := Lib.hid g1
      have G2 := Lib.hid g2
      have G3 := Lib.hid g3
      have hss : (s != s) = false := by simp
      clear g1 g2 g3 es
      have bw := (HC.out _ B1.out).2
      go_wp2_with fail
      refine (merge_is (HS0.out _ bw) (by have := HS.out; omega) EO.out).mono ?_
      rintro e w2 ⟨va, rfl, sa, b2⟩
      have SA : Hid (SpansIn w2 va (mergeL l)) := by
        have : mergeV l true = mergeL l := rfl
        rw [this] at sa
        exact sa
      have B2 := Lib.hid (step_below B1.out b2)
      clear bw sa b2 B1
      go_wp2_with fail
      refine (right_spans SA.out G1.out).mono ?_
      rintro e w3 ⟨rfl, b3⟩
      have SA2 := Lib.hid (SA.out.below b3)
      have B3 := Lib.hid (step_below B2.out b3)
      clear b3 SA B2
      go_wp2_with fail
      refine (total_is SA2.out G2.out).mono ?_
      rintro e w4 ⟨rfl, b4⟩
      have B4 := Lib.hid (step_below B3.out b4)
      clear b4 SA2 B3
      have bw := (HC.out _ B4.out).2
      go_wp2_with fail
      refine (total_is (HS0.out _ bw) G3.out).mono ?_
      rintro e w5 ⟨rfl, b5⟩
      have B5 := Lib.hid (step_below B4.out b5)
      clear bw b5 B4 G1 G2 G3
      obtain ⟨⟨d0, d1⟩, _⟩ := HC.out _ B5.out
      by_cases hn0 : 0 ≤ n0
      · have hx0 : decide (0 ≤ n0) = true := decide_eq_true hn0
        by_cases hn1 : 0 ≤ n1
        · have hx1 : decide (0 ≤ n1) = true := decide_eq_true hn1
          obtain ⟨k1, k2⟩ := whole_cut EO.out hn0 H0.out.2 hn1
          have EP : Hid (cutB l n0 n1 = true) := cutB_iff.2 ⟨EO.out, hn0, hn1⟩
          have K1 := Lib.hid k1
          have K2 := Lib.hid k2
          have HCL : Hid ((cutR l n0 n1).length ≤ 1048576) := by have := cutR_length l n0 n1; have := HS.out; show _ ≤ _; omega
          have bw := (HC.out _ B5.out).2
          clear k1 k2
          go_wp2_with fail
          refine (cut_is (HS0.out _ bw) (by have := HS.out; omega) H0.out H1.out EP.out).mono ?_
          rintro e w6 ⟨vc, rfl, sc, b6⟩
          have SC : Hid (SpansIn w6 vc (cutR l n0 n1)) := by
            have : cutV l n0 n1 true = cutR l n0 n1 := rfl
            rw [this] at sc
            exact sc
          have B6 := Lib.hid (step_below B5.out b6)
          clear bw sc b6 d0 d1 B5
          go_wp2_with fail
          refine (right_spans SC.out K1.out).mono ?_
          rintro e w7 ⟨rfl, b7⟩
          have SC2 := Lib.hid (SC.out.below b7)
          have B7 := Lib.hid (step_below B6.out b7)
          clear b7 B6 SC
          obtain ⟨⟨d0, d1⟩, _⟩ := HC.out _ B7.out
          obtain ⟨r, er⟩ : ∃ r, findR (cutR l n0 n1) n0 = r := ⟨_, rfl⟩
          have ER := Lib.hid er
          clear er
          go_wp2_with fail
          refine (find_is SC2.out HCL.out ER.out).mono ?_
          rintro e w8 ⟨rfl, b8⟩
          have B8 := Lib.hid (step_below B7.out b8)
          clear b8 B7 SC2 d0 d1 HCL
          obtain ⟨⟨d0, d1⟩, _⟩ := HC.out _ B8.out
          by_cases hr : 0 ≤ r
          · have hr1 : decide (0 ≤ r) = true := decide_eq_true hr
            have hn2 : decide (0 < n1) = false := decide_eq_false (fun hh => by have := K2.out hh; rw [ER.out] at this; omega)
            go_upto_region 10 with fail
            clear hr1 hn2 d0 d1 K1 K2 ER EP
            by_cases hz : len = 0
            · have hl0 : ((len : Int) == 0) = true := by simp [hz]
              go_wp2_with fail
              refine (works_any _).mono ?_
              rintro e w6 ⟨rfl, b7⟩
              have HB := Lib.hid (HC.out _ (step_below B8.out b7)).2
              go_wp2
              go_ret
              exact ⟨rfl, HB.out⟩
            · have hl0 : ((len : Int) == 0) = false := by simp; omega
              obtain ⟨j, hj⟩ : ∃ j, len = j + 1 := ⟨len - 1, by omega⟩
              have hw : IntKind.i64.wrap ((len : Int) - 1) = (j : Int) := by rw [i64_is (by have := HS.out; have := HLN.out; omega)]; omega
              have hik : 0 ≤ (j : Int) ∧ (j : Int) < (len : Int) := by omega
              have hlj : l.length - 1 = j := by have := HLN.out; omega
              obtain ⟨p, hp⟩ : ∃ p, l[j]? = some p := ⟨_, List.getElem?_eq_getElem (by have := HLN.out; omega)⟩
              have hpi := ordB_mem EO.out p (List.mem_of_getElem? hp)
              have hen := endL_last (a := 0) (p := p) (by rw [hlj]; exact hp)
              have HPW := Lib.hid (HPA.out _ (HC.out _ B8.out).2)
              obtain ⟨pb, off, eA, hc⟩ := HPW.out.all (by have := HLN.out; omega)
              obtain ⟨u, t⟩ := p
              have c0 : ∀ q : From w8, q.W.cell? ⟨pb, off + j * 2, none⟩ = some (.int .i64 u) := fun q => (hc q.W q.bel j (u, t) hp).1
              have c1 : ∀ q : From w8, q.W.cell? ⟨pb, off + j * 2 + 1, none⟩ = some (.int .i64 t) := fun q => (hc q.W q.bel j (u, t) hp).2
              subst eA
              obtain ⟨e, ee⟩ : ∃ e, u + t = e := ⟨_, rfl⟩
              simp only at hpi hen
              have hadd : IntKind.i64.wrap (u + t) = e := by rw [i64_is ⟨by omega, by omega⟩]; exact ee
              rw [ee] at hen
              have HEN := Lib.hid hen
              have HEE : Hid (0 < e ∧ e ≤ 9223372036854775807) := ⟨by omega, by omega⟩
              have hb1 := Below.refl w8.heap.size w8
              clear hp hc hj hlj hpi hen ee
              go_upto_region 12 with fail
              refine wp_region_from (w0 := w8) (by kernel_rfl) (by kernel_rfl) hb1 ?_
              repeat (go_big_quiet_step (fail))
              refine wpQuiet_nil ?_
              intro wq hw'
              obtain ⟨⟨wy, hq⟩, hw''⟩ := hw'
              subst hw''
              have B9 := Lib.hid (step_below B8.out hq)
              clear c0 c1 hw hik hb1 hadd
              have H3 := Lib.hid ((HPW.out.below hq).below (new_below wq (.cells #[] 24)))
              have hd0 : Head (wq.alloc (.cells #[] 24)) wq.heap.size (.slice (some ⟨wq.heap.size, 0, none⟩) 0 0) [] := ⟨.inl ⟨_, rfl, .inl rfl⟩⟩
              have HD := Lib.hid hd0
              have HZ : Hid (l.length ≤ 4194304) := by have := HS.out; show _ ≤ _; omega
              clear hd0 hq HPW
              go_wp2_with (at_builtin; refine wpList_head (by rfl) (.tmp 100) (.tmp 101) rfl (v := .slice (some ⟨wq.heap.size, 0, none⟩) 0 0) (xs := []) rfl HD.out (by simp) (some ⟨pb, off, none⟩) len c (zs := l) rfl H3.out HLN.out (by simpa using HZ.out) ?_; intro v' w' hh hb' _)
              rw [List.nil_append] at hh
              have SL := Lib.hid (hh.spans HZ.out HI.out)
              have B10 := Lib.hid (step_below B9.out ((new_below wq (.cells #[] 24)).trans hb'))
              clear hh hb' HD H3
              have bw := (HC.out _ B10.out).2
              refine (holes_is (HS0.out _ bw) (by have := HZ.out; have := HS.out; omega) (by have := HEE.out; unfold InInt; omega)).mono ?_
              rintro e_ ws ⟨vh, rfl, sh, b11⟩
              have SL2 := Lib.hid (SL.out.below b11)
              have B11 := Lib.hid (step_below B10.out b11)
              have HNN : Hid ((holesR l e).length ≤ l.length + 1) := holesR_length l e
              have HFL : Hid (Fill e l (holesR l e)) := by
                show Fill _ _ _
                rw [holes_less EO.out, ← HEN.out]
                exact fill_start EO.out
              obtain ⟨H, eH⟩ : ∃ H, holesR l e = H := ⟨_, rfl⟩
              rw [eH] at sh HNN HFL
              obtain ⟨⟨Bh, ch, e1, z1, z2, z3⟩, zi⟩ := sh
              subst e1
              obtain ⟨n, en⟩ : ∃ n, H.length = n := ⟨_, rfl⟩
              rw [en] at z1 HNN ⊢
              have HHP := Lib.hid z3
              have HHI := Lib.hid zi
              have HN := Lib.hid en
              clear bw b11 eH z1 z2 z3 zi en SL
              have hnm : n ≤ 41 := by have := HNN.out; have := HS.out; omega
              go_wp2
              go_loopw [10, 12] (fun a i wr => ∃ (k : Nat) (m : List Sp), k ≤ n ∧ i = .int .i64 k ∧ Hid (SpansIn wr a m) ∧ Below ws.heap.size ws wr ∧ Hid (Fill e m (H.drop k)) ∧ Hid (m.length ≤ 40 + k)) (fun _ i _ => n - (intOf i).toNat)
              case atStart => exact ⟨0, l, by omega, rfl, SL2, Below.refl _ _, HFL, HS⟩
              case round =>
                obtain ⟨k, m, hk, rfl, sm, hb, hf, hl⟩ := hrel
                by_cases hlt : k < n
                · obtain ⟨p, hp⟩ : ∃ p, H[k]? = some p := ⟨_, List.getElem?_eq_getElem (by rw [HN.out]; exact hlt)⟩
                  obtain ⟨qb, qoff, rfl, hbl, c0, c1⟩ := (HHP.out.below hb).one hp
                  have HXY := Lib.hid (HHI.out _ (List.mem_of_getElem? hp))
                  have HST : Hid (addB m p = true ∧ Fill e (insL p m) (H.drop (k + 1))) := by
                    have := hf.out
                    rw [drop_at hp] at this
                    exact this.step HEE.out.2
                  obtain ⟨x, y⟩ := p
                  have hik : 0 ≤ (k : Int) ∧ (k : Int) < (n : Int) := by omega
                  simp only at c0 c1
                  have HLM : Hid (m.length ≤ 1048576) := by have := hl.out; show _ ≤ _; omega
                  clear hp hf hbl
                  go_wp2_with fail
                  refine (add_is sm.out HLM.out HXY.out.1 HXY.out.2 HST.out.1).mono ?_
                  rintro e_ w2 ⟨vb, rfl, sb, b2⟩
                  have SB : Hid (SpansIn w2 vb (insL (x, y) m)) := by
                    have : addV m (x, y) = insL (x, y) m := if_pos HST.out.1
                    rw [this] at sb
                    exact sb
                  have hb3 := Lib.hid (step_below hb b2)
                  clear sb b2 c0 c1 hik
                  go_wp2
                  go_roundw
                  case rel => exact ⟨k + 1, insL (x, y) m, by omega, by go_num, SB, hb3.out, HST.out.2, by have := hl.out; show _ ≤ _; rw [insL_length]; omega⟩
                  case measure => simp [intOf]; omega
                · have hk2 : H.drop k = [] := List.drop_eq_nil_of_le (by rw [HN.out]; omega)
                  have hf2 := hf.out
                  rw [hk2] at hf2
                  obtain ⟨m1, m2⟩ := hf2.done HEE.out.1 HEE.out.2
                  have HM1 := Lib.hid m1
                  have HM2 := Lib.hid m2
                  have HLM : Hid (m.length ≤ 1048576) := by have := hl.out; show _ ≤ _; omega
                  have B12 := Lib.hid (step_below B11.out hb)
                  clear m1 m2 hf2 hk2 hb
                  go_wp2_with fail
                  refine (merge_is sm.out HLM.out HM1.out).mono ?_
                  rintro e_ w2 ⟨vb, rfl, sb, b2⟩
                  have SB : Hid (SpansIn (w2.alloc (.cells #[.int .i64 0, .int .i64 e] 24)) vb [(0, e)]) := by
                    have : mergeV m true = [(0, e)] := HM2.out
                    rw [this] at sb
                    exact sb.below (new_below _ _)
                  have S1 := Lib.hid (one_spans w2 0 e (by unfold InInt; omega) (by have := HEE.out; unfold InInt; omega))
                  have B13 := Lib.hid (step_below (step_below B12.out b2) (new_below w2 (.cells #[.int .i64 0, .int .i64 e] 24)))
                  clear sb b2
                  go_wp2_with fail
                  refine (same_is SB.out S1.out (decide_eq_true rfl)).mono ?_
                  rintro e_ w3 ⟨rfl, b3⟩
                  have B14 := Lib.hid (step_below B13.out b3)
                  clear b3
                  go_wp2_with fail
                  refine (works_any _).mono ?_
                  rintro e_ w4 ⟨rfl, b4⟩
                  have HB := Lib.hid (HC.out _ (step_below B14.out b4)).2
                  go_wp2
                  go_ret
                  exact ⟨rfl, HB.out⟩
          · have hr1 : decide (0 ≤ r) = false := decide_eq_false hr
            go_upto_region 10 with fail
            clear hr1 d0 d1 K1 K2 ER EP
            by_cases hz : len = 0
            · have hl0 : ((len : Int) == 0) = true := by simp [hz]
              go_wp2_with fail
              refine (works_any _).mono ?_
              rintro e w6 ⟨rfl, b7⟩
              have HB := Lib.hid (HC.out _ (step_below B8.out b7)).2
              go_wp2
              go_ret
              exact ⟨rfl, HB.out⟩
            · have hl0 : ((len : Int) == 0) = false := by simp; omega
              obtain ⟨j, hj⟩ : ∃ j, len = j + 1 := ⟨len - 1, by omega⟩
              have hw : IntKind.i64.wrap ((len : Int) - 1) = (j : Int) := by rw [i64_is (by have := HS.out; have := HLN.out; omega)]; omega
              have hik : 0 ≤ (j : Int) ∧ (j : Int) < (len : Int) := by omega
              have hlj : l.length - 1 = j := by have := HLN.out; omega
              obtain ⟨p, hp⟩ : ∃ p, l[j]? = some p := ⟨_, List.getElem?_eq_getElem (by have := HLN.out; omega)⟩
              have hpi := ordB_mem EO.out p (List.mem_of_getElem? hp)
              have hen := endL_last (a := 0) (p := p) (by rw [hlj]; exact hp)
              have HPW := Lib.hid (HPA.out _ (HC.out _ B8.out).2)
              obtain ⟨pb, off, eA, hc⟩ := HPW.out.all (by have := HLN.out; omega)
              obtain ⟨u, t⟩ := p
              have c0 : ∀ q : From w8, q.W.cell? ⟨pb, off + j * 2, none⟩ = some (.int .i64 u) := fun q => (hc q.W q.bel j (u, t) hp).1
              have c1 : ∀ q : From w8, q.W.cell? ⟨pb, off + j * 2 + 1, none⟩ = some (.int .i64 t) := fun q => (hc q.W q.bel j (u, t) hp).2
              subst eA
              obtain ⟨e, ee⟩ : ∃ e, u + t = e := ⟨_, rfl⟩
              simp only at hpi hen
              have hadd : IntKind.i64.wrap (u + t) = e := by rw [i64_is ⟨by omega, by omega⟩]; exact ee
              rw [ee] at hen
              have HEN := Lib.hid hen
              have HEE : Hid (0 < e ∧ e ≤ 9223372036854775807) := ⟨by omega, by omega⟩
              have hb1 := Below.refl w8.heap.size w8
              clear hp hc hj hlj hpi hen ee
              go_upto_region 12 with fail
              refine wp_region_from (w0 := w8) (by kernel_rfl) (by kernel_rfl) hb1 ?_
              repeat (go_big_quiet_step (fail))
              refine wpQuiet_nil ?_
              intro wq hw'
              obtain ⟨⟨wy, hq⟩, hw''⟩ := hw'
              subst hw''
              have B9 := Lib.hid (step_below B8.out hq)
              clear c0 c1 hw hik hb1 hadd
              have H3 := Lib.hid ((HPW.out.below hq).below (new_below wq (.cells #[] 24)))
              have hd0 : Head (wq.alloc (.cells #[] 24)) wq.heap.size (.slice (some ⟨wq.heap.size, 0, none⟩) 0 0) [] := ⟨.inl ⟨_, rfl, .inl rfl⟩⟩
              have HD := Lib.hid hd0
              have HZ : Hid (l.length ≤ 4194304) := by have := HS.out; show _ ≤ _; omega
              clear hd0 hq HPW
              go_wp2_with (at_builtin; refine wpList_head (by rfl) (.tmp 100) (.tmp 101) rfl (v := .slice (some ⟨wq.heap.size, 0, none⟩) 0 0) (xs := []) rfl HD.out (by simp) (some ⟨pb, off, none⟩) len c (zs := l) rfl H3.out HLN.out (by simpa using HZ.out) ?_; intro v' w' hh hb' _)
              rw [List.nil_append] at hh
              have SL := Lib.hid (hh.spans HZ.out HI.out)
              have B10 := Lib.hid (step_below B9.out ((new_below wq (.cells #[] 24)).trans hb'))
              clear hh hb' HD H3
              have bw := (HC.out _ B10.out).2
              refine (holes_is (HS0.out _ bw) (by have := HZ.out; have := HS.out; omega) (by have := HEE.out; unfold InInt; omega)).mono ?_
              rintro e_ ws ⟨vh, rfl, sh, b11⟩
              have SL2 := Lib.hid (SL.out.below b11)
              have B11 := Lib.hid (step_below B10.out b11)
              have HNN : Hid ((holesR l e).length ≤ l.length + 1) := holesR_length l e
              have HFL : Hid (Fill e l (holesR l e)) := by
                show Fill _ _ _
                rw [holes_less EO.out, ← HEN.out]
                exact fill_start EO.out
              obtain ⟨H, eH⟩ : ∃ H, holesR l e = H := ⟨_, rfl⟩
              rw [eH] at sh HNN HFL
              obtain ⟨⟨Bh, ch, e1, z1, z2, z3⟩, zi⟩ := sh
              subst e1
              obtain ⟨n, en⟩ : ∃ n, H.length = n := ⟨_, rfl⟩
              rw [en] at z1 HNN ⊢
              have HHP := Lib.hid z3
              have HHI := Lib.hid zi
              have HN := Lib.hid en
              clear bw b11 eH z1 z2 z3 zi en SL
              have hnm : n ≤ 41 := by have := HNN.out; have := HS.out; omega
              go_wp2
              go_loopw [10, 12] (fun a i wr => ∃ (k : Nat) (m : List Sp), k ≤ n ∧ i = .int .i64 k ∧ Hid (SpansIn wr a m) ∧ Below ws.heap.size ws wr ∧ Hid (Fill e m (H.drop k)) ∧ Hid (m.length ≤ 40 + k)) (fun _ i _ => n - (intOf i).toNat)
              case atStart => exact ⟨0, l, by omega, rfl, SL2, Below.refl _ _, HFL, HS⟩
              case round =>
                obtain ⟨k, m, hk, rfl, sm, hb, hf, hl⟩ := hrel
                by_cases hlt : k < n
                · obtain ⟨p, hp⟩ : ∃ p, H[k]? = some p := ⟨_, List.getElem?_eq_getElem (by rw [HN.out]; exact hlt)⟩
                  obtain ⟨qb, qoff, rfl, hbl, c0, c1⟩ := (HHP.out.below hb).one hp
                  have HXY := Lib.hid (HHI.out _ (List.mem_of_getElem? hp))
                  have HST : Hid (addB m p = true ∧ Fill e (insL p m) (H.drop (k + 1))) := by
                    have := hf.out
                    rw [drop_at hp] at this
                    exact this.step HEE.out.2
                  obtain ⟨x, y⟩ := p
                  have hik : 0 ≤ (k : Int) ∧ (k : Int) < (n : Int) := by omega
                  simp only at c0 c1
                  have HLM : Hid (m.length ≤ 1048576) := by have := hl.out; show _ ≤ _; omega
                  clear hp hf hbl
                  go_wp2_with fail
                  refine (add_is sm.out HLM.out HXY.out.1 HXY.out.2 HST.out.1).mono ?_
                  rintro e_ w2 ⟨vb, rfl, sb, b2⟩
                  have SB : Hid (SpansIn w2 vb (insL (x, y) m)) := by
                    have : addV m (x, y) = insL (x, y) m := if_pos HST.out.1
                    rw [this] at sb
                    exact sb
                  have hb3 := Lib.hid (step_below hb b2)
                  clear sb b2 c0 c1 hik
                  go_wp2
                  go_roundw
                  case rel => exact ⟨k + 1, insL (x, y) m, by omega, by go_num, SB, hb3.out, HST.out.2, by have := hl.out; show _ ≤ _; rw [insL_length]; omega⟩
                  case measure => simp [intOf]; omega
                · have hk2 : H.drop k = [] := List.drop_eq_nil_of_le (by rw [HN.out]; omega)
                  have hf2 := hf.out
                  rw [hk2] at hf2
                  obtain ⟨m1, m2⟩ := hf2.done HEE.out.1 HEE.out.2
                  have HM1 := Lib.hid m1
                  have HM2 := Lib.hid m2
                  have HLM : Hid (m.length ≤ 1048576) := by have := hl.out; show _ ≤ _; omega
                  have B12 := Lib.hid (step_below B11.out hb)
                  clear m1 m2 hf2 hk2 hb
                  go_wp2_with fail
                  refine (merge_is sm.out HLM.out HM1.out).mono ?_
                  rintro e_ w2 ⟨vb, rfl, sb, b2⟩
                  have SB : Hid (SpansIn (w2.alloc (.cells #[.int .i64 0, .int .i64 e] 24)) vb [(0, e)]) := by
                    have : mergeV m true = [(0, e)] := HM2.out
                    rw [this] at sb
                    exact sb.below (new_below _ _)
                  have S1 := Lib.hid (one_spans w2 0 e (by unfold InInt; omega) (by have := HEE.out; unfold InInt; omega))
                  have B13 := Lib.hid (step_below (step_below B12.out b2) (new_below w2 (.cells #[.int .i64 0, .int .i64 e] 24)))
                  clear sb b2
                  go_wp2_with fail
                  refine (same_is SB.out S1.out (decide_eq_true rfl)).mono ?_
                  rintro e_ w3 ⟨rfl, b3⟩
                  have B14 := Lib.hid (step_below B13.out b3)
                  clear b3
                  go_wp2_with fail
                  refine (works_any _).mono ?_
                  rintro e_ w4 ⟨rfl, b4⟩
                  have HB := Lib.hid (HC.out _ (step_below B14.out b4)).2
                  go_wp2
                  go_ret
                  exact ⟨rfl, HB.out⟩
        · have hx1 : decide (0 ≤ n1) = false := decide_eq_false hn1
          go_upto_region 10 with fail
          clear hx1 d0 d1
          by_cases hz : len = 0
          · have hl0 : ((len : Int) == 0) = true := by simp [hz]
            go_wp2_with fail
            refine (works_any _).mono ?_
            rintro e w6 ⟨rfl, b7⟩
            have HB := Lib.hid (HC.out _ (step_below B5.out b7)).2
            go_wp2
            go_ret
            exact ⟨rfl, HB.out⟩
          · have hl0 : ((len : Int) == 0) = false := by simp; omega
            obtain ⟨j, hj⟩ : ∃ j, len = j + 1 := ⟨len - 1, by omega⟩
            have hw : IntKind.i64.wrap ((len : Int) - 1) = (j : Int) := by rw [i64_is (by have := HS.out; have := HLN.out; omega)]; omega
            have hik : 0 ≤ (j : Int) ∧ (j : Int) < (len : Int) := by omega
            have hlj : l.length - 1 = j := by have := HLN.out; omega
            obtain ⟨p, hp⟩ : ∃ p, l[j]? = some p := ⟨_, List.getElem?_eq_getElem (by have := HLN.out; omega)⟩
            have hpi := ordB_mem EO.out p (List.mem_of_getElem? hp)
            have hen := endL_last (a := 0) (p := p) (by rw [hlj]; exact hp)
            have HPW := Lib.hid (HPA.out _ (HC.out _ B5.out).2)
            obtain ⟨pb, off, eA, hc⟩ := HPW.out.all (by have := HLN.out; omega)
            obtain ⟨u, t⟩ := p
            have c0 : ∀ q : From w5, q.W.cell? ⟨pb, off + j * 2, none⟩ = some (.int .i64 u) := fun q => (hc q.W q.bel j (u, t) hp).1
            have c1 : ∀ q : From w5, q.W.cell? ⟨pb, off + j * 2 + 1, none⟩ = some (.int .i64 t) := fun q => (hc q.W q.bel j (u, t) hp).2
            subst eA
            obtain ⟨e, ee⟩ : ∃ e, u + t = e := ⟨_, rfl⟩
            simp only at hpi hen
            have hadd : IntKind.i64.wrap (u + t) = e := by rw [i64_is ⟨by omega, by omega⟩]; exact ee
            rw [ee] at hen
            have HEN := Lib.hid hen
            have HEE : Hid (0 < e ∧ e ≤ 9223372036854775807) := ⟨by omega, by omega⟩
            have hb1 := Below.refl w5.heap.size w5
            clear hp hc hj hlj hpi hen ee
            go_upto_region 12 with fail
            refine wp_region_from (w0 := w5) (by kernel_rfl) (by kernel_rfl) hb1 ?_
            repeat (go_big_quiet_step (fail))
            refine wpQuiet_nil ?_
            intro wq hw'
            obtain ⟨⟨wy, hq⟩, hw''⟩ := hw'
            subst hw''
            have B9 := Lib.hid (step_below B5.out hq)
            clear c0 c1 hw hik hb1 hadd
            have H3 := Lib.hid ((HPW.out.below hq).below (new_below wq (.cells #[] 24)))
            have hd0 : Head (wq.alloc (.cells #[] 24)) wq.heap.size (.slice (some ⟨wq.heap.size, 0, none⟩) 0 0) [] := ⟨.inl ⟨_, rfl, .inl rfl⟩⟩
            have HD := Lib.hid hd0
            have HZ : Hid (l.length ≤ 4194304) := by have := HS.out; show _ ≤ _; omega
            clear hd0 hq HPW
            go_wp2_with (at_builtin; refine wpList_head (by rfl) (.tmp 100) (.tmp 101) rfl (v := .slice (some ⟨wq.heap.size, 0, none⟩) 0 0) (xs := []) rfl HD.out (by simp) (some ⟨pb, off, none⟩) len c (zs := l) rfl H3.out HLN.out (by simpa using HZ.out) ?_; intro v' w' hh hb' _)
            rw [List.nil_append] at hh
            have SL := Lib.hid (hh.spans HZ.out HI.out)
            have B10 := Lib.hid (step_below B9.out ((new_below wq (.cells #[] 24)).trans hb'))
            clear hh hb' HD H3
            have bw := (HC.out _ B10.out).2
            refine (holes_is (HS0.out _ bw) (by have := HZ.out; have := HS.out; omega) (by have := HEE.out; unfold InInt; omega)).mono ?_
            rintro e_ ws ⟨vh, rfl, sh, b11⟩
            have SL2 := Lib.hid (SL.out.below b11)
            have B11 := Lib.hid (step_below B10.out b11)
            have HNN : Hid ((holesR l e).length ≤ l.length + 1) := holesR_length l e
            have HFL : Hid (Fill e l (holesR l e)) := by
              show Fill _ _ _
              rw [holes_less EO.out, ← HEN.out]
              exact fill_start EO.out
            obtain ⟨H, eH⟩ : ∃ H, holesR l e = H := ⟨_, rfl⟩
            rw [eH] at sh HNN HFL
            obtain ⟨⟨Bh, ch, e1, z1, z2, z3⟩, zi⟩ := sh
            subst e1
            obtain ⟨n, en⟩ : ∃ n, H.length = n := ⟨_, rfl⟩
            rw [en] at z1 HNN ⊢
            have HHP := Lib.hid z3
            have HHI := Lib.hid zi
            have HN := Lib.hid en
            clear bw b11 eH z1 z2 z3 zi en SL
            have hnm : n ≤ 41 := by have := HNN.out; have := HS.out; omega
            go_wp2
            go_loopw [10, 12] (fun a i wr => ∃ (k : Nat) (m : List Sp), k ≤ n ∧ i = .int .i64 k ∧ Hid (SpansIn wr a m) ∧ Below ws.heap.size ws wr ∧ Hid (Fill e m (H.drop k)) ∧ Hid (m.length ≤ 40 + k)) (fun _ i _ => n - (intOf i).toNat)
            case atStart => exact ⟨0, l, by omega, rfl, SL2, Below.refl _ _, HFL, HS⟩
            case round =>
              obtain ⟨k, m, hk, rfl, sm, hb, hf, hl⟩ := hrel
              by_cases hlt : k < n
              · obtain ⟨p, hp⟩ : ∃ p, H[k]? = some p := ⟨_, List.getElem?_eq_getElem (by rw [HN.out]; exact hlt)⟩
                obtain ⟨qb, qoff, rfl, hbl, c0, c1⟩ := (HHP.out.below hb).one hp
                have HXY := Lib.hid (HHI.out _ (List.mem_of_getElem? hp))
                have HST : Hid (addB m p = true ∧ Fill e (insL p m) (H.drop (k + 1))) := by
                  have := hf.out
                  rw [drop_at hp] at this
                  exact this.step HEE.out.2
                obtain ⟨x, y⟩ := p
                have hik : 0 ≤ (k : Int) ∧ (k : Int) < (n : Int) := by omega
                simp only at c0 c1
                have HLM : Hid (m.length ≤ 1048576) := by have := hl.out; show _ ≤ _; omega
                clear hp hf hbl
                go_wp2_with fail
                refine (add_is sm.out HLM.out HXY.out.1 HXY.out.2 HST.out.1).mono ?_
                rintro e_ w2 ⟨vb, rfl, sb, b2⟩
                have SB : Hid (SpansIn w2 vb (insL (x, y) m)) := by
                  have : addV m (x, y) = insL (x, y) m := if_pos HST.out.1
                  rw [this] at sb
                  exact sb
                have hb3 := Lib.hid (step_below hb b2)
                clear sb b2 c0 c1 hik
                go_wp2
                go_roundw
                case rel => exact ⟨k + 1, insL (x, y) m, by omega, by go_num, SB, hb3.out, HST.out.2, by have := hl.out; show _ ≤ _; rw [insL_length]; omega⟩
                case measure => simp [intOf]; omega
              · have hk2 : H.drop k = [] := List.drop_eq_nil_of_le (by rw [HN.out]; omega)
                have hf2 := hf.out
                rw [hk2] at hf2
                obtain ⟨m1, m2⟩ := hf2.done HEE.out.1 HEE.out.2
                have HM1 := Lib.hid m1
                have HM2 := Lib.hid m2
                have HLM : Hid (m.length ≤ 1048576) := by have := hl.out; show _ ≤ _; omega
                have B12 := Lib.hid (step_below B11.out hb)
                clear m1 m2 hf2 hk2 hb
                go_wp2_with fail
                refine (merge_is sm.out HLM.out HM1.out).mono ?_
                rintro e_ w2 ⟨vb, rfl, sb, b2⟩
                have SB : Hid (SpansIn (w2.alloc (.cells #[.int .i64 0, .int .i64 e] 24)) vb [(0, e)]) := by
                  have : mergeV m true = [(0, e)] := HM2.out
                  rw [this] at sb
                  exact sb.below (new_below _ _)
                have S1 := Lib.hid (one_spans w2 0 e (by unfold InInt; omega) (by have := HEE.out; unfold InInt; omega))
                have B13 := Lib.hid (step_below (step_below B12.out b2) (new_below w2 (.cells #[.int .i64 0, .int .i64 e] 24)))
                clear sb b2
                go_wp2_with fail
                refine (same_is SB.out S1.out (decide_eq_true rfl)).mono ?_
                rintro e_ w3 ⟨rfl, b3⟩
                have B14 := Lib.hid (step_below B13.out b3)
                clear b3
                go_wp2_with fail
                refine (works_any _).mono ?_
                rintro e_ w4 ⟨rfl, b4⟩
                have HB := Lib.hid (HC.out _ (step_below B14.out b4)).2
                go_wp2
                go_ret
                exact ⟨rfl, HB.out⟩
      · have hx0 : decide (0 ≤ n0) = false := decide_eq_false hn0
        go_upto_region 10 with fail
        clear hx0 d0 d1
        by_cases hz : len = 0
        · have hl0 : ((len : Int) == 0) = true := by simp [hz]
          go_wp2_with fail
          refine (works_any _).mono ?_
          rintro e w6 ⟨rfl, b7⟩
          have HB := Lib.hid (HC.out _ (step_below B5.out b7)).2
          go_wp2
          go_ret
          exact ⟨rfl, HB.out⟩
        · have hl0 : ((len : Int) == 0) = false := by simp; omega
          obtain ⟨j, hj⟩ : ∃ j, len = j + 1 := ⟨len - 1, by omega⟩
          have hw : IntKind.i64.wrap ((len : Int) - 1) = (j : Int) := by rw [i64_is (by have := HS.out; have := HLN.out; omega)]; omega
          have hik : 0 ≤ (j : Int) ∧ (j : Int) < (len : Int) := by omega
          have hlj : l.length - 1 = j := by have := HLN.out; omega
          obtain ⟨p, hp⟩ : ∃ p, l[j]? = some p := ⟨_, List.getElem?_eq_getElem (by have := HLN.out; omega)⟩
          have hpi := ordB_mem EO.out p (List.mem_of_getElem? hp)
          have hen := endL_last (a := 0) (p := p) (by rw [hlj]; exact hp)
          have HPW := Lib.hid (HPA.out _ (HC.out _ B5.out).2)
          obtain ⟨pb, off, eA, hc⟩ := HPW.out.all (by have := HLN.out; omega)
          obtain ⟨u, t⟩ := p
          have c0 : ∀ q : From w5, q.W.cell? ⟨pb, off + j * 2, none⟩ = some (.int .i64 u) := fun q => (hc q.W q.bel j (u, t) hp).1
          have c1 : ∀ q : From w5, q.W.cell? ⟨pb, off + j * 2 + 1, none⟩ = some (.int .i64 t) := fun q => (hc q.W q.bel j (u, t) hp).2
          subst eA
          obtain ⟨e, ee⟩ : ∃ e, u + t = e := ⟨_, rfl⟩
          simp only at hpi hen
          have hadd : IntKind.i64.wrap (u + t) = e := by rw [i64_is ⟨by omega, by omega⟩]; exact ee
          rw [ee] at hen
          have HEN := Lib.hid hen
          have HEE : Hid (0 < e ∧ e ≤ 9223372036854775807) := ⟨by omega, by omega⟩
          have hb1 := Below.refl w5.heap.size w5
          clear hp hc hj hlj hpi hen ee
          go_upto_region 12 with fail
          refine wp_region_from (w0 := w5) (by kernel_rfl) (by kernel_rfl) hb1 ?_
          repeat (go_big_quiet_step (fail))
          refine wpQuiet_nil ?_
          intro wq hw'
          obtain ⟨⟨wy, hq⟩, hw''⟩ := hw'
          subst hw''
          have B9 := Lib.hid (step_below B5.out hq)
          clear c0 c1 hw hik hb1 hadd
          have H3 := Lib.hid ((HPW.out.below hq).below (new_below wq (.cells #[] 24)))
          have hd0 : Head (wq.alloc (.cells #[] 24)) wq.heap.size (.slice (some ⟨wq.heap.size, 0, none⟩) 0 0) [] := ⟨.inl ⟨_, rfl, .inl rfl⟩⟩
          have HD := Lib.hid hd0
          have HZ : Hid (l.length ≤ 4194304) := by have := HS.out; show _ ≤ _; omega
          clear hd0 hq HPW
          go_wp2_with (at_builtin; refine wpList_head (by rfl) (.tmp 100) (.tmp 101) rfl (v := .slice (some ⟨wq.heap.size, 0, none⟩) 0 0) (xs := []) rfl HD.out (by simp) (some ⟨pb, off, none⟩) len c (zs := l) rfl H3.out HLN.out (by simpa using HZ.out) ?_; intro v' w' hh hb' _)
          rw [List.nil_append] at hh
          have SL := Lib.hid (hh.spans HZ.out HI.out)
          have B10 := Lib.hid (step_below B9.out ((new_below wq (.cells #[] 24)).trans hb'))
          clear hh hb' HD H3
          have bw := (HC.out _ B10.out).2
          refine (holes_is (HS0.out _ bw) (by have := HZ.out; have := HS.out; omega) (by have := HEE.out; unfold InInt; omega)).mono ?_
          rintro e_ ws ⟨vh, rfl, sh, b11⟩
          have SL2 := Lib.hid (SL.out.below b11)
          have B11 := Lib.hid (step_below B10.out b11)
          have HNN : Hid ((holesR l e).length ≤ l.length + 1) := holesR_length l e
          have HFL : Hid (Fill e l (holesR l e)) := by
            show Fill _ _ _
            rw [holes_less EO.out, ← HEN.out]
            exact fill_start EO.out
          obtain ⟨H, eH⟩ : ∃ H, holesR l e = H := ⟨_, rfl⟩
          rw [eH] at sh HNN HFL
          obtain ⟨⟨Bh, ch, e1, z1, z2, z3⟩, zi⟩ := sh
          subst e1
          obtain ⟨n, en⟩ : ∃ n, H.length = n := ⟨_, rfl⟩
          rw [en] at z1 HNN ⊢
          have HHP := Lib.hid z3
          have HHI := Lib.hid zi
          have HN := Lib.hid en
          clear bw b11 eH z1 z2 z3 zi en SL
          have hnm : n ≤ 41 := by have := HNN.out; have := HS.out; omega
          go_wp2
          go_loopw [10, 12] (fun a i wr => ∃ (k : Nat) (m : List Sp), k ≤ n ∧ i = .int .i64 k ∧ Hid (SpansIn wr a m) ∧ Below ws.heap.size ws wr ∧ Hid (Fill e m (H.drop k)) ∧ Hid (m.length ≤ 40 + k)) (fun _ i _ => n - (intOf i).toNat)
          case atStart => exact ⟨0, l, by omega, rfl, SL2, Below.refl _ _, HFL, HS⟩
          case round =>
            obtain ⟨k, m, hk, rfl, sm, hb, hf, hl⟩ := hrel
            by_cases hlt : k < n
            · obtain ⟨p, hp⟩ : ∃ p, H[k]? = some p := ⟨_, List.getElem?_eq_getElem (by rw [HN.out]; exact hlt)⟩
              obtain ⟨qb, qoff, rfl, hbl, c0, c1⟩ := (HHP.out.below hb).one hp
              have HXY := Lib.hid (HHI.out _ (List.mem_of_getElem? hp))
              have HST : Hid (addB m p = true ∧ Fill e (insL p m) (H.drop (k + 1))) := by
                have := hf.out
                rw [drop_at hp] at this
                exact this.step HEE.out.2
              obtain ⟨x, y⟩ := p
              have hik : 0 ≤ (k : Int) ∧ (k : Int) < (n : Int) := by omega
              simp only at c0 c1
              have HLM : Hid (m.length ≤ 1048576) := by have := hl.out; show _ ≤ _; omega
              clear hp hf hbl
              go_wp2_with fail
              refine (add_is sm.out HLM.out HXY.out.1 HXY.out.2 HST.out.1).mono ?_
              rintro e_ w2 ⟨vb, rfl, sb, b2⟩
              have SB : Hid (SpansIn w2 vb (insL (x, y) m)) := by
                have : addV m (x, y) = insL (x, y) m := if_pos HST.out.1
                rw [this] at sb
                exact sb
              have hb3 := Lib.hid (step_below hb b2)
              clear sb b2 c0 c1 hik
              go_wp2
              go_roundw
              case rel => exact ⟨k + 1, insL (x, y) m, by omega, by go_num, SB, hb3.out, HST.out.2, by have := hl.out; show _ ≤ _; rw [insL_length]; omega⟩
              case measure => simp [intOf]; omega
            · have hk2 : H.drop k = [] := List.drop_eq_nil_of_le (by rw [HN.out]; omega)
              have hf2 := hf.out
              rw [hk2] at hf2
              obtain ⟨m1, m2⟩ := hf2.done HEE.out.1 HEE.out.2
              have HM1 := Lib.hid m1
              have HM2 := Lib.hid m2
              have HLM : Hid (m.length ≤ 1048576) := by have := hl.out; show _ ≤ _; omega
              have B12 := Lib.hid (step_below B11.out hb)
              clear m1 m2 hf2 hk2 hb
              go_wp2_with fail
              refine (merge_is sm.out HLM.out HM1.out).mono ?_
              rintro e_ w2 ⟨vb, rfl, sb, b2⟩
              have SB : Hid (SpansIn (w2.alloc (.cells #[.int .i64 0, .int .i64 e] 24)) vb [(0, e)]) := by
                have : mergeV m true = [(0, e)] := HM2.out
                rw [this] at sb
                exact sb.below (new_below _ _)
              have S1 := Lib.hid (one_spans w2 0 e (by unfold InInt; omega) (by have := HEE.out; unfold InInt; omega))
              have B13 := Lib.hid (step_below (step_below B12.out b2) (new_below w2 (.cells #[.int .i64 0, .int .i64 e] 24)))
              clear sb b2
              go_wp2_with fail
              refine (same_is SB.out S1.out (decide_eq_true rfl)).mono ?_
              rintro e_ w3 ⟨rfl, b3⟩
              have B14 := Lib.hid (step_below B13.out b3)
              clear b3
              go_wp2_with fail
              refine (works_any _).mono ?_
              rintro e_ w4 ⟨rfl, b4⟩
              have HB := Lib.hid (HC.out _ (step_below B14.out b4)).2
              go_wp2
              go_ret
              exact ⟨rfl, HB.out⟩
end Go.Proofs.Ytppiibdeigjcjaa
