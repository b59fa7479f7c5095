/- Layer 8 (spans): what Add and Drop return: contracts. -/
import Derived.Test.YtppiibdeigjcjaaSpansPut
namespace Go.Proofs.Ytppiibdeigjcjaa
open Go.RowKit

def addV (l : List Sp) (s : Sp) : List Sp := if addB l s = true then insL s l else []
def dropV (l : List Sp) (x : Int) : List Sp := if dropB l x = true then lessL x l else []
theorem addV_no {l : List Sp} {s : Sp} (h : addB l s = false) : addV l s = [] := by unfold addV; rw [if_neg (by rw [h]; decide)]
theorem addV_yes {l : List Sp} {s : Sp} (h : addB l s = true) : addV l s = insL s l := by unfold addV; rw [if_pos h]
theorem dropV_no {l : List Sp} {x : Int} (h : dropB l x = false) : dropV l x = [] := by unfold dropV; rw [if_neg (by rw [h]; decide)]
theorem dropV_yes {l : List Sp} {x : Int} (h : dropB l x = true) : dropV l x = lessL x l := by unfold dropV; rw [if_pos h]
theorem one_spans (w : World) (x y : Int) (hx : InInt x) (hy : InInt y) : SpansIn (w.alloc (.cells #[.int .i64 x, .int .i64 y] 24)) (.slice (some ⟨w.heap.size, 0, none⟩) 1 1) [(x, y)] :=
  ⟨⟨_, 1, rfl, Nat.le_refl _, by unfold maxLen; omega, one_pairs w x y⟩, fun p hp => by rw [List.mem_singleton.1 hp]; exact ⟨hx, hy⟩⟩
set_option maxHeartbeats 1600000 in
theorem add_is {w : World} {v : Value} {l : List Sp} {x y : Int} {b : Bool} (h : SpansIn w v l) (hs : l.length ≤ 1048576) (hx : InInt x) (hy : InInt y) (hb : addB l (x, y) = b) : Calls Try.prog 9 #[v, .agg #[.int .i64 x, .int .i64 y]] w (MadeB w (addV l (x, y)) b) := by
  have h0 := h
  obtain ⟨⟨A, c, rfl, h1, h2, h3⟩, hi⟩ := h
  have hnot := not_any
  obtain ⟨n, en⟩ : ∃ n, l.length = n := ⟨_, rfl⟩
  obtain ⟨o, eo⟩ : ∃ o, ordB 0 l = o := ⟨_, rfl⟩
  obtain ⟨q, eq⟩ : ∃ q, okB 0 (x, y) = q := ⟨_, rfl⟩
  obtain ⟨k, ek⟩ : ∃ k, firstL x l = k := ⟨_, rfl⟩
  have hkl := firstL_le x l
  rw [ek, en] at hkl
  have n0 := two_lit w (.int .i64 x) (.int .i64 y) 24
  have b0 := new_below w (.cells #[.int .i64 x, .int .i64 y] 24)
  have HS0 : Hid (∀ W, Below w.heap.size w W → SpansIn W (.slice A n c) l) := fun W hW => by have := h0.below hW; rwa [en] at this
  have HS := Lib.hid hs
  have HX := Lib.hid hx
  have HY := Lib.hid hy
  have HI := Lib.hid hi
  have H3 := Lib.hid h3
  have HN := Lib.hid en
  have HO := Lib.hid eo
  have HQ := Lib.hid eq
  have HK := Lib.hid ek
  have HB' : Hid (addB l (x, y) = b) := hb
  rw [en]
  clear h0 h1 h2 h3 hi hs hx hy hb en eo eq ek
  go_enter Try.func9, Try.ntmps9
  go_upto_region 1 with fail
  generalize w.alloc (.cells #[.int .i64 x, .int .i64 y] 24) = W0 at *
  have HC : Hid (∀ W, Below W0.heap.size W0 W → (W.cell? ⟨w.heap.size, 0, none⟩ = some (.int .i64 x) ∧ W.cell? ⟨w.heap.size, 1, none⟩ = some (.int .i64 y)) ∧ Below w.heap.size w W) := fun W hW => ⟨two_any n0 hW, b0.trans (hW.mono b0.size)⟩
  clear n0 b0
  obtain ⟨⟨d0, d1⟩, bw⟩ := HC.out _ (Below.refl _ _)
  cases o with
  | false =>
    have HB : Hid (b = false) := by show _ = _; rw [← HB'.out]; unfold addB; rw [HO.out]; rfl
    have HV : Hid (addV l (x, y) = []) := addV_no (HB'.out.trans HB.out)
    go_wp2_with fail
    refine (right_spans (HS0.out _ bw) HO.out).mono ?_
    rintro e w1 ⟨rfl, b1⟩
    have BW := Lib.hid (HC.out _ b1).2
    have hbb := HB.out
    subst hbb
    clear HB
    go_wp2
    go_ret2
    exact ⟨_, rfl, by rw [HV.out]; exact SpansIn.nil _, BW.out⟩
  | true =>
    go_wp2_with fail
    refine (right_spans (HS0.out _ bw) HO.out).mono ?_
    rintro e w1 ⟨rfl, b1⟩
    clear d0 d1 bw
    obtain ⟨⟨d0, d1⟩, bw⟩ := HC.out _ b1
    cases q with
    | false =>
      have HB : Hid (b = false) := by show _ = _; rw [← HB'.out]; unfold addB; rw [HO.out, HQ.out]; rfl
      have HV : Hid (addV l (x, y) = []) := addV_no (HB'.out.trans HB.out)
      go_wp2_with fail
      refine (right_is _ (Int.le_refl 0) HX.out HY.out HQ.out).mono ?_
      rintro e w2 ⟨rfl, b2⟩
      have BW := Lib.hid (HC.out _ (step_below b1 b2)).2
      have hbb := HB.out
      subst hbb
      clear HB
      go_wp2
      go_ret2
      exact ⟨_, rfl, by rw [HV.out]; exact SpansIn.nil _, BW.out⟩
    | true =>
      go_wp2_with fail
      refine (right_is _ (Int.le_refl 0) HX.out HY.out HQ.out).mono ?_
      rintro e w2 ⟨rfl, b2⟩
      clear d0 d1 bw
      have b3 := step_below b1 b2
      obtain ⟨⟨d0, d1⟩, bw⟩ := HC.out _ b3
      clear b1 b2
      go_wp2_with fail
      refine (first_is (HS0.out _ bw) HO.out HS.out HK.out).mono ?_
      rintro e w3 ⟨rfl, b4⟩
      clear d0 d1 bw
      have b5 := step_below b3 b4
      obtain ⟨⟨d0, d1⟩, bw⟩ := HC.out _ b5
      clear b3 b4
      have HEND : Hid (meetsL (x, y) l = false → l.take k ++ [(x, y)] ++ l.drop k = addV l (x, y) ∧ b = true) := fun hm => by
        have hbt : addB l (x, y) = true := addB_iff.2 ⟨HO.out, HQ.out, hm⟩
        have := (add_first (a := 0) HQ.out (Int.le_refl 0) HO.out fun p hp => meets_off hm p (List.mem_of_getElem? hp)).2
        rw [show ((x, y) : Sp).1 = x from rfl, HK.out] at this
        exact ⟨by rw [addV_yes hbt, ← this]; simp, HB'.out.symm.trans hbt⟩
      have hkn : (k : Int) ≤ (n : Int) := by omega
      by_cases hk : k = n
      · have HM : Hid (meetsL (x, y) l = false) := (add_first (a := 0) HQ.out (Int.le_refl 0) HO.out fun p hp => by
          rw [show ((x, y) : Sp).1 = x from rfl, HK.out, List.getElem?_eq_none (by rw [HN.out]; omega)] at hp
          cases hp).1
        subst hk
        have hkk : decide ((k : Int) < (k : Int)) = false := by simp
        have hb1 := Below.refl w3.heap.size w3
        clear d0 d1
        go_wp2
        refine wp_region_from (w0 := w3) (by kernel_rfl) (by kernel_rfl) hb1 ?_
        repeat (go_big_quiet_step (first | (go_at_call 16; with_reducible refine from_of (M1.out _))))
        refine wpQuiet_nil ?_
        intro wq hw'
        obtain ⟨⟨wy, hq⟩, hw''⟩ := hw'
        subst hw''
        have b7 := step_below b5 hq
        clear b5 bw
        obtain ⟨⟨d0, d1⟩, bw⟩ := HC.out _ b7
        generalize wq = wz at *
        obtain ⟨HV, HB⟩ := HEND.out HM.out
        have s0 := one_spans wz x y HX.out HY.out
        have S0 := Lib.hid s0
        have bz := new_below wz (.cells #[.int .i64 x, .int .i64 y] 24)
        have HL := Lib.hid ((HS0.out _ bw).below bz)
        have BZ := Lib.hid (bw.trans (bz.mono bw.size))
        have HVV := Lib.hid HV
        subst HB
        have HLE : Hid (k ≤ l.length) := by show _ ≤ _; rw [HN.out]; omega
        clear HV s0 bz
        go_wp2_with fail
        refine (instead_is HL.out S0.out HS.out (by simp) HLE.out HLE.out).mono ?_
        rintro e w6 ⟨v6, rfl, hv, b6⟩
        rw [HVV.out] at hv
        go_wp2
        go_ret2
        exact ⟨_, rfl, hv, BZ.out.trans (b6.mono BZ.out.size)⟩
      · have hkk : decide ((k : Int) < (n : Int)) = true := decide_eq_true (by omega)
        have hkk2 : decide (k < n) = true := decide_eq_true (by omega)
        obtain ⟨p, hp⟩ : ∃ p, l[k]? = some p := ⟨_, List.getElem?_eq_getElem (by rw [HN.out]; omega)⟩
        obtain ⟨pb, off, rfl, hc⟩ := (H3.out.below bw).all (by rw [HN.out]; omega)
        have hpi := HI.out p (List.mem_of_getElem? hp)
        have c0 : ∀ q : From w3, q.W.cell? ⟨pb, off + k * 2, none⟩ = some (.int .i64 p.1) := fun q => (hc q.W q.bel k p hp).1
        have c1 : ∀ q : From w3, q.W.cell? ⟨pb, off + k * 2 + 1, none⟩ = some (.int .i64 p.2) := fun q => (hc q.W q.bel k p hp).2
        have c2 : ∀ q : From w3, q.W.cell? ⟨w.heap.size, 0, none⟩ = some (.int .i64 x) := fun q => (HC.out _ (step_below b5 q.bel)).1.1
        have c3 : ∀ q : From w3, q.W.cell? ⟨w.heap.size, 1, none⟩ = some (.int .i64 y) := fun q => (HC.out _ (step_below b5 q.bel)).1.2
        obtain ⟨m, em⟩ : ∃ m, meetB p (x, y) = m := ⟨_, rfl⟩
        have HP := Lib.hid hp
        obtain ⟨u, t⟩ := p
        simp only at c0 c1 hpi
        have M1 : Hid (∀ W, Calls Try.prog 16 #[.agg #[.int .i64 u, .int .i64 t], .agg #[.int .i64 x, .int .i64 y]] W fun e w' => e = .returned (.bool m) ∧ Below W.heap.size W w') := fun W => meet_is W hpi.1 hpi.2 HX.out HY.out em
        have EM := Lib.hid em
        have hik : 0 ≤ (k : Int) ∧ (k : Int) < (n : Int) := by omega
        have hb1 := Below.refl w3.heap.size w3
        clear hp hc em hpi d0 d1
        cases m with
        | true =>
          have HB : Hid (b = false) := by show _ = _; rw [← HB'.out]; unfold addB; rw [meets_at HP.out EM.out, Bool.not_true, Bool.and_false]
          have HV : Hid (addV l (x, y) = []) := addV_no (HB'.out.trans HB.out)
          go_wp2
          refine wp_region_from (w0 := w3) (by kernel_rfl) (by kernel_rfl) hb1 ?_
          repeat (go_big_quiet_step (first | (go_at_call 16; with_reducible refine from_of (M1.out _))))
          refine wpQuiet_nil ?_
          intro wq hw'
          obtain ⟨⟨wy, hq⟩, hw''⟩ := hw'
          subst hw''
          have BW := Lib.hid (HC.out _ (step_below b5 hq)).2
          have hbb := HB.out
          subst hbb
          clear HB
          go_wp2
          go_ret2
          exact ⟨_, rfl, by rw [HV.out]; exact SpansIn.nil _, BW.out⟩
        | false =>
          have HM : Hid (meetsL (x, y) l = false) := (add_first (a := 0) HQ.out (Int.le_refl 0) HO.out fun p' hp' => by
            rw [show ((x, y) : Sp).1 = x from rfl, HK.out, HP.out] at hp'
            injection hp' with hp'
            rw [← hp']; exact EM.out).1
          go_wp2
          refine wp_region_from (w0 := w3) (by kernel_rfl) (by kernel_rfl) hb1 ?_
          repeat (go_big_quiet_step (first | (go_at_call 16; with_reducible refine from_of (M1.out _))))
          refine wpQuiet_nil ?_
          intro wq hw'
          obtain ⟨⟨wy, hq⟩, hw''⟩ := hw'
          subst hw''
          have b7 := step_below b5 hq
          clear b5 bw c0 c1 c2 c3
          obtain ⟨⟨d0, d1⟩, bw⟩ := HC.out _ b7
          generalize wq = wz at *
          obtain ⟨HV, HB⟩ := HEND.out HM.out
          have s0 := one_spans wz x y HX.out HY.out
          have S0 := Lib.hid s0
          have bz := new_below wz (.cells #[.int .i64 x, .int .i64 y] 24)
          have HL := Lib.hid ((HS0.out _ bw).below bz)
          have BZ := Lib.hid (bw.trans (bz.mono bw.size))
          have HVV := Lib.hid HV
          subst HB
          have HLE : Hid (k ≤ l.length) := by show _ ≤ _; rw [HN.out]; omega
          clear HV s0 bz
          go_wp2_with fail
          refine (instead_is HL.out S0.out HS.out (by simp) HLE.out HLE.out).mono ?_
          rintro e w6 ⟨v6, rfl, hv, b6⟩
          rw [HVV.out] at hv
          go_wp2
          go_ret2
          exact ⟨_, rfl, hv, BZ.out.trans (b6.mono BZ.out.size)⟩
set_option maxHeartbeats 1600000 in
theorem drop_is {w : World} {v : Value} {l : List Sp} {x : Int} {b : Bool} (h : SpansIn w v l) (hs : l.length ≤ 1048576) (hb : dropB l x = b) : Calls Try.prog 11 #[v, .int .i64 x] w (MadeB w (dropV l x) b) := by
  have h0 := h
  obtain ⟨⟨A, c, rfl, h1, h2, h3⟩, hi⟩ := h
  have hnot := not_any
  obtain ⟨n, en⟩ : ∃ n, l.length = n := ⟨_, rfl⟩
  obtain ⟨k, ek⟩ : ∃ k, firstL x l = k := ⟨_, rfl⟩
  obtain ⟨r, er⟩ : ∃ r, findR l x = r := ⟨_, rfl⟩
  have hkl := firstL_le x l
  rw [ek, en] at hkl
  have FI : Hid (Calls Try.prog 18 #[.slice A l.length c, .int .i64 x] w fun e w' => e = .returned (.int .i64 r) ∧ Below w.heap.size w w') := find_is h0 hs er
  rw [en] at FI
  have HS0 : Hid (∀ W, Below w.heap.size w W → SpansIn W (.slice A n c) l) := fun W hW => by have := h0.below hW; rwa [en] at this
  have HS := Lib.hid hs
  have H3 := Lib.hid h3
  have HN := Lib.hid en
  have HR := Lib.hid er
  have HK := Lib.hid ek
  have HB' : Hid (dropB l x = b) := hb
  rw [en]
  clear h0 h1 h2 h3 hi hs hb en er ek
  have hno : ∀ p, l[k]? = some p → p.1 ≠ x → ordB 0 l = true → b = false := fun p hp hpx ho => by
    rw [← HB'.out]
    unfold dropB
    rcases drop_first (x := x) ho with ⟨_, g2⟩ | ⟨⟨q, g1, g2⟩, _⟩
    · rw [g2]; rfl
    · rw [HK.out, hp] at g1
      injection g1 with g1
      rw [g1] at hpx
      exact absurd g2 hpx
  have HNO := Lib.hid hno
  clear hno
  go_enter Try.func11, Try.ntmps11
  go_wp2_with fail
  refine FI.out.mono ?_
  rintro e w1 ⟨rfl, b1⟩
  by_cases hr : r = -1
  · subst hr
    have HB : Hid (b = false) := by
      show _ = _
      rw [← HB'.out]
      unfold dropB
      cases ho : ordB 0 l with
      | false => rw [Bool.and_false]
      | true =>
        have hf := HR.out
        unfold findR at hf
        rw [if_pos ho] at hf
        rcases find_first (x := x) 0 ho with ⟨_, g2⟩ | ⟨g1, _⟩
        · rcases drop_first (x := x) ho with ⟨_, g3⟩ | ⟨⟨q, g3, g4⟩, _⟩
          · rw [g3]; rfl
          · have := g2 q g3; omega
        · rw [g1] at hf; omega
    have HV : Hid (dropV l x = []) := dropV_no (HB'.out.trans HB.out)
    have BW := Lib.hid b1
    have hbb := HB.out
    subst hbb
    clear HB
    go_wp2
    go_ret2
    exact ⟨_, rfl, by rw [HV.out]; exact SpansIn.nil _, BW.out⟩
  · obtain ⟨ho, p, hp, hpx, hrk⟩ : ordB 0 l = true ∧ ∃ p, l[k]? = some p ∧ p.1 ≤ x ∧ r = (k : Int) := by
      have hf := HR.out
      unfold findR at hf
      cases ho : ordB 0 l with
      | false => rw [if_neg (by rw [ho]; decide)] at hf; omega
      | true =>
        rw [if_pos ho] at hf
        rcases find_first (x := x) 0 ho with ⟨g1, _⟩ | ⟨g1, q, g2, g3, _⟩
        · rw [g1] at hf; omega
        · rw [HK.out] at g1 g2
          exact ⟨rfl, q, g2, g3, by rw [← hf, g1]; congr 1; omega⟩
    subst hrk
    have hkn : k < n := by
      have := (List.getElem?_eq_some_iff.1 hp).1
      rwa [HN.out] at this
    obtain ⟨pb, off, rfl, hbl, c0, c1⟩ := (H3.out.below b1).one hp
    have hik : 0 ≤ (k : Int) ∧ (k : Int) < (n : Int) := by omega
    have hd0 : decide ((k : Int) < 0) = false := by simp
    have HP := Lib.hid hp
    have HO := Lib.hid ho
    clear hp ho hpx hr
    by_cases hx : p.1 = x
    · have hnx : (p.1 != x) = false := by simp [hx]
      obtain ⟨HB, HV⟩ : Hid (b = true) ∧ Hid (l.take k ++ [] ++ l.drop (k + 1) = dropV l x) := by
        rcases drop_first (x := x) HO.out with ⟨g1, _⟩ | ⟨_, g3, g4⟩
        · rw [HK.out] at g1
          exact absurd hx (g1 p HP.out)
        · rw [HK.out] at g4
          have hbt : dropB l x = true := by unfold dropB; rw [g3, HO.out]; rfl
          exact ⟨HB'.out.symm.trans hbt, by show _ = _; rw [dropV_yes hbt, ← g4, List.append_nil]⟩
      have hbb := HB.out
      subst hbb
      have hw : IntKind.i64.wrap ((k : Int) + 1) = ((k + 1 : Nat) : Int) := i64_is (by have := HS.out; have := HN.out; omega)
      have HL := Lib.hid (HS0.out _ b1)
      have HK1 : Hid (k ≤ l.length ∧ k + 1 ≤ l.length) := by have := HN.out; exact ⟨by omega, by omega⟩
      have BZ := Lib.hid b1
      clear HB hx
      go_wp2_with fail
      refine (instead_is HL.out (SpansIn.nil _) HS.out (by simp) HK1.out.1 HK1.out.2).mono ?_
      rintro e w6 ⟨v6, rfl, hv, b6⟩
      rw [HV.out] at hv
      go_wp2
      go_ret2
      exact ⟨_, rfl, hv, step_below BZ.out b6⟩
    · have hnx : (p.1 != x) = true := by simp [hx]
      have HB : Hid (b = false) := HNO.out p HP.out hx HO.out
      have HV : Hid (dropV l x = []) := dropV_no (HB'.out.trans HB.out)
      have BW := Lib.hid b1
      have hbb := HB.out
      subst hbb
      clear HB
      go_wp2
      go_ret2
      exact ⟨_, rfl, by rw [HV.out]; exact SpansIn.nil _, BW.out⟩
end Go.Proofs.Ytppiibdeigjcjaa
