/- Layer 8 (spans): what Find and Total return, the program's and the document's own: contracts. -/
import Derived.Test.YtppiibdeigjcjaaSpansFirst
namespace Go.Proofs.Ytppiibdeigjcjaa
open Go.RowKit

set_option maxHeartbeats 800000 in
theorem find_is {w : World} {v : Value} {l : List Sp} {x r : Int} (h : SpansIn w v l) (hs : l.length ≤ 1048576) (hr : findR l x = r) : Calls Try.prog 18 #[v, .int .i64 x] w fun e w' => e = .returned (.int .i64 r) ∧ Below w.heap.size w w' := by
  have h0 := h
  obtain ⟨⟨A, c, rfl, h1, h2, h3⟩, hi⟩ := h
  obtain ⟨n, en⟩ : ∃ n, l.length = n := ⟨_, rfl⟩
  have hnot := not_any
  obtain ⟨o, eo⟩ : ∃ o, ordB 0 l = o := ⟨_, rfl⟩
  have hf := firstL_le x l
  obtain ⟨k, ek⟩ : ∃ k, firstL x l = k := ⟨_, rfl⟩
  rw [ek, en] at hf
  have RS : Hid (Calls Try.prog 13 #[.slice A l.length c] w fun e w' => e = .returned (.bool o) ∧ Below w.heap.size w w') := right_spans h0 eo
  have FS : Hid (∀ W, Below w.heap.size w W → o = true → Calls Try.prog 31 #[.slice A l.length c, .int .i64 x] W fun e w' => e = .returned (.int .i64 (k : Nat)) ∧ Below W.heap.size W w') := fun W hb ho => first_is (h0.below hb) (eo.trans ho) hs ek
  rw [en] at RS FS h1 ⊢
  have H3 := Lib.hid h3
  have HN := Lib.hid en
  have HR := Lib.hid hr
  have HO := Lib.hid eo
  have HK := Lib.hid ek
  clear h0 h1 h2 h3 hi hr eo ek en hs
  go_enter Try.func18, Try.ntmps18
  go_wp2_with fail
  refine RS.out.mono ?_
  rintro e w1 ⟨rfl, b1⟩
  cases o with
  | false =>
    have HE : Hid (-1 = r) := by
      show _ = _
      rw [← HR.out]
      unfold findR
      rw [if_neg (by rw [HO.out]; decide)]
    go_wp2
    go_ret
    exact ⟨ret_int HE.out, b1⟩
  | true =>
    have hfr : findL x 0 l = r := by
      have := HR.out
      unfold findR at this
      rwa [if_pos HO.out] at this
    go_wp2_with fail
    refine (FS.out _ b1 (by trivial)).mono ?_
    rintro e w2 ⟨rfl, b2⟩
    have B2 := Lib.hid (step_below b1 b2)
    clear b1 b2
    by_cases hk : k = n
    · subst hk
      have HE : Hid (-1 = r) := by
        show _ = _
        rcases find_first (x := x) 0 HO.out with ⟨g1, _⟩ | ⟨_, p, g2, _⟩
        · rw [← hfr, g1]
        · rw [HK.out, List.getElem?_eq_none (by rw [HN.out]; exact Nat.le_refl _)] at g2
          cases g2
      have hkk : ((k : Int) == (k : Int)) = true := by simp
      clear hfr
      go_wp2
      go_ret
      exact ⟨ret_int HE.out, B2.out⟩
    · have hkn : ((k : Int) == (n : Int)) = false := by simp; omega
      obtain ⟨p, hp⟩ : ∃ p, l[k]? = some p := ⟨_, List.getElem?_eq_getElem (by rw [HN.out]; omega)⟩
      obtain ⟨b, off, rfl, hbl, c0, c1⟩ := (H3.out.below B2.out).one hp
      have hik : 0 ≤ (k : Int) ∧ (k : Int) < (n : Int) := by omega
      rcases find_first (x := x) 0 HO.out with ⟨g1, g2⟩ | ⟨g1, q, g2, g3, _⟩
      · rw [HK.out] at g2
        have hx := g2 p hp
        have HE : Hid (-1 = r) := by show _ = _; rw [← hfr, g1]
        have hd : decide (x < p.1) = true := decide_eq_true hx
        clear hfr g1 g2 hp
        go_wp2
        go_ret
        exact ⟨ret_int HE.out, B2.out⟩
      · rw [HK.out, hp] at g2
        injection g2 with g2
        subst g2
        have HE : Hid ((k : Int) = r) := by show _ = _; rw [← hfr, g1, HK.out, Nat.zero_add]
        have hd : decide (x < p.1) = false := decide_eq_false (by omega)
        clear hfr g1 hp
        go_wp2
        go_ret
        exact ⟨ret_int HE.out, B2.out⟩
set_option maxHeartbeats 800000 in
theorem total_is {w : World} {v : Value} {l : List Sp} {r : Int} (h : SpansIn w v l) (hr : totalR l = r) : Calls Try.prog 20 #[v] w fun e w' => e = .returned (.int .i64 r) ∧ Below w.heap.size w w' := by
  have h0 := h
  obtain ⟨⟨A, c, rfl, h1, h2, h3⟩, hi⟩ := h
  obtain ⟨n, en⟩ : ∃ n, l.length = n := ⟨_, rfl⟩
  have hnot := not_any
  obtain ⟨o, eo⟩ : ∃ o, ordB 0 l = o := ⟨_, rfl⟩
  have RS : Hid (Calls Try.prog 13 #[.slice A l.length c] w fun e w' => e = .returned (.bool o) ∧ Below w.heap.size w w') := right_spans h0 eo
  have hn63 : n ≤ 9223372036854775807 := by unfold maxLen at h2; omega
  rw [en] at RS h1 ⊢
  have H3 := Lib.hid h3
  have HN := Lib.hid en
  have HR := Lib.hid hr
  have HO := Lib.hid eo
  clear h0 h1 h2 h3 hi hr eo en
  go_enter Try.func20, Try.ntmps20
  go_wp2_with fail
  refine RS.out.mono ?_
  rintro e w1 ⟨rfl, b1⟩
  cases o with
  | false =>
    have HE : Hid (0 = r) := by
      show _ = _
      rw [← HR.out]
      unfold totalR
      rw [if_neg (by rw [HO.out]; decide)]
    go_wp2
    go_ret
    exact ⟨ret_int HE.out, b1⟩
  | true =>
    have HF : Hid (sumL l = r) := by
      have := HR.out
      unfold totalR at this
      rwa [if_pos HO.out] at this
    go_wp2
    go_loopw [3, 11] (fun u i wr => ∃ (k : Nat) (a s : Int), k ≤ n ∧ i = .int .i64 k ∧ u = .int .i64 s ∧ Below w.heap.size w wr ∧ Hid (0 ≤ s ∧ s ≤ a ∧ a ≤ 9223372036854775807 ∧ ordB a (l.drop k) = true) ∧ Hid (s + sumL (l.drop k) = r)) (fun _ i _ => n - (intOf i).toNat)
    case atStart => exact ⟨0, 0, 0, by omega, rfl, rfl, b1, ⟨Int.le_refl 0, Int.le_refl 0, by omega, HO⟩, by show 0 + sumL l = r; rw [HF.out]; omega⟩
    case round =>
      clear b1
      obtain ⟨k, a, s, hk, rfl, rfl, hb, ha, hh⟩ := hrel
      by_cases hlt : k < n
      · obtain ⟨p, hp⟩ : ∃ p, l[k]? = some p := ⟨_, List.getElem?_eq_getElem (by rw [HN.out]; exact hlt)⟩
        obtain ⟨b, off, rfl, hbl, c0, c1⟩ := (H3.out.below hb).one hp
        obtain ⟨x, y⟩ := p
        obtain ⟨a1, a2, a3, a4⟩ := ha.out
        rw [drop_at hp] at a4
        obtain ⟨a5, a6⟩ := ordB_cons.1 a4
        have a7 := okB_iff.1 a5
        simp only at a6 a7 c0 c1
        have HD : Hid (s + y + sumL (l.drop (k + 1)) = r) := by
          have := hh.out
          rw [drop_at hp] at this
          rw [← this]
          show _ = s + (y + sumL (l.drop (k + 1)))
          omega
        have HA : Hid (0 ≤ s + y ∧ s + y ≤ x + y ∧ x + y ≤ 9223372036854775807 ∧ ordB (x + y) (l.drop (k + 1)) = true) := ⟨by omega, by omega, by omega, a6⟩
        have hw : IntKind.i64.wrap (s + y) = s + y := i64_is (by omega)
        have hik : 0 ≤ (k : Int) ∧ (k : Int) < (n : Int) := by omega
        clear hp hh ha a1 a2 a3 a4 a5 a6 a7
        go_upto_region 7 with fail
        have v0 := two_lit wr (.int .i64 x) (.int .i64 y) 24
        have v1 := step_below hb (new_below wr (.cells #[.int .i64 x, .int .i64 y] 24))
        obtain ⟨d0, d1⟩ := two_any v0 (Below.refl _ _)
        simp only [twoF] at d0 d1
        clear c0 c1 v0 hb
        generalize wr.alloc (.cells #[.int .i64 x, .int .i64 y] 24) = W1 at *
        go_wp2
        go_roundw
        case rel => exact ⟨k + 1, x + y, s + y, by omega, by go_num, rfl, v1, HA, HD⟩
        case measure => simp [intOf]; omega
      · have HE : Hid (s = r) := by
          show _ = _
          rw [← hh.out, List.drop_eq_nil_of_le (by rw [HN.out]; omega)]
          show s = s + 0
          omega
        go_wp2
        go_ret
        exact ⟨ret_int HE.out, hb⟩
set_option maxHeartbeats 800000 in
theorem rtotal_is {w : World} {v : Value} {l : List Sp} {r : Int} (h : SpansIn w v l) (hr : totalR l = r) : Calls Try.prog 21 #[v] w fun e w' => e = .returned (.int .i64 r) ∧ Below w.heap.size w w' := by
  have h0 := h
  obtain ⟨⟨A, c, rfl, h1, h2, h3⟩, hi⟩ := h
  obtain ⟨n, en⟩ : ∃ n, l.length = n := ⟨_, rfl⟩
  have hnot := not_any
  obtain ⟨o, eo⟩ : ∃ o, ordB 0 l = o := ⟨_, rfl⟩
  have RS : Hid (∀ W, Below w.heap.size w W → Calls Try.prog 14 #[.slice A l.length c] W fun e w' => e = .returned (.bool o) ∧ Below W.heap.size W w') := fun W hb => rright_spans (h0.below hb) eo
  have hn63 : n ≤ 9223372036854775807 := by unfold maxLen at h2; omega
  rw [en] at RS h1 ⊢
  have H3 := Lib.hid h3
  have HN := Lib.hid en
  have HR := Lib.hid hr
  have HO := Lib.hid eo
  clear h0 h1 h2 h3 hi hr eo en
  go_enter Try.func21, Try.ntmps21
  go_wp2
  go_loopw [3, 4] (fun u i wr => ∃ (k : Nat) (a s : Int), k ≤ n ∧ i = .int .i64 k ∧ u = .int .i64 s ∧ Below w.heap.size w wr ∧ Hid (o = true → 0 ≤ s ∧ s ≤ a ∧ a ≤ 9223372036854775807 ∧ ordB a (l.drop k) = true) ∧ Hid (o = true → s + sumL (l.drop k) = r) ∧ Hid (o = false → s = 0)) (fun _ i _ => n - (intOf i).toNat)
  case atStart => exact ⟨0, 0, 0, by omega, rfl, rfl, Below.refl _ _, fun ho => ⟨Int.le_refl 0, Int.le_refl 0, by omega, HO.out.trans ho⟩, fun ho => by have := HR.out; unfold totalR at this; rw [if_pos (HO.out.trans ho)] at this; show 0 + sumL l = r; rw [this]; omega, fun _ => rfl⟩
  case round =>
    obtain ⟨k, a, s, hk, rfl, rfl, hb, ha, hh, hz⟩ := hrel
    go_wp2_with fail
    refine (RS.out _ hb).mono ?_
    rintro e w1 ⟨rfl, b1⟩
    have hb := step_below hb b1
    clear b1
    cases o with
    | false =>
      have HE : Hid (s = r) := by
        show _ = _
        rw [hz.out rfl, ← HR.out]
        unfold totalR
        rw [if_neg (by rw [HO.out]; decide)]
      go_wp2
      go_ret
      exact ⟨ret_int HE.out, hb⟩
    | true =>
      by_cases hlt : k < n
      · obtain ⟨p, hp⟩ : ∃ p, l[k]? = some p := ⟨_, List.getElem?_eq_getElem (by rw [HN.out]; exact hlt)⟩
        obtain ⟨b, off, rfl, hbl, c0, c1⟩ := (H3.out.below hb).one hp
        obtain ⟨x, y⟩ := p
        obtain ⟨a1, a2, a3, a4⟩ := ha.out rfl
        rw [drop_at hp] at a4
        obtain ⟨a5, a6⟩ := ordB_cons.1 a4
        have a7 := okB_iff.1 a5
        simp only at a6 a7 c0 c1
        have HD : Hid (s + y + sumL (l.drop (k + 1)) = r) := by
          have := hh.out rfl
          rw [drop_at hp] at this
          rw [← this]
          show _ = s + (y + sumL (l.drop (k + 1)))
          omega
        have HA : Hid (0 ≤ s + y ∧ s + y ≤ x + y ∧ x + y ≤ 9223372036854775807 ∧ ordB (x + y) (l.drop (k + 1)) = true) := ⟨by omega, by omega, by omega, a6⟩
        have hw : IntKind.i64.wrap (s + y) = s + y := i64_is (by omega)
        have hik : 0 ≤ (k : Int) ∧ (k : Int) < (n : Int) := by omega
        clear hp hh ha a1 a2 a3 a4 a5 a6 a7
        go_wp2
        go_roundw
        case rel => exact ⟨k + 1, x + y, s + y, by omega, by go_num, rfl, hb, fun _ => HA.out, fun _ => HD.out, fun h => by cases h⟩
        case measure => simp [intOf]; omega
      · have HE : Hid (s = r) := by
          show _ = _
          rw [← hh.out rfl, List.drop_eq_nil_of_le (by rw [HN.out]; omega)]
          show s = s + 0
          omega
        go_wp2
        go_ret
        exact ⟨ret_int HE.out, hb⟩
theorem findL_step (x : Int) (k : Nat) (p : Sp) (r : List Sp) : findL x k (p :: r) = if p.1 ≤ x ∧ x < p.1 + p.2 then (k : Int) else findL x (k + 1) r := rfl
set_option maxHeartbeats 800000 in
theorem rfind_is {w : World} {v : Value} {l : List Sp} {x r : Int} (h : SpansIn w v l) (hx : InInt x) (hr : findR l x = r) : Calls Try.prog 19 #[v, .int .i64 x] w fun e w' => e = .returned (.int .i64 r) ∧ Below w.heap.size w w' := by
  have h0 := h
  obtain ⟨⟨A, c, rfl, h1, h2, h3⟩, hi⟩ := h
  obtain ⟨n, en⟩ : ∃ n, l.length = n := ⟨_, rfl⟩
  have hnot := not_any
  obtain ⟨o, eo⟩ : ∃ o, ordB 0 l = o := ⟨_, rfl⟩
  have RS : Hid (∀ W, Below w.heap.size w W → Calls Try.prog 14 #[.slice A l.length c] W fun e w' => e = .returned (.bool o) ∧ Below W.heap.size W w') := fun W hb => rright_spans (h0.below hb) eo
  have hn63 : n ≤ 9223372036854775807 := by unfold maxLen at h2; omega
  rw [en] at RS h1 ⊢
  have H3 := Lib.hid h3
  have HN := Lib.hid en
  have HR := Lib.hid hr
  have HO := Lib.hid eo
  have HX := Lib.hid hx
  clear h0 h1 h2 h3 hi hr eo en hx
  go_enter Try.func19, Try.ntmps19
  go_wp2
  go_loopw [5] (fun i wr => ∃ (k : Nat), k ≤ n ∧ i = .int .i64 k ∧ Below w.heap.size w wr ∧ Hid (o = true → findL x k (l.drop k) = r)) (fun i _ => n - (intOf i).toNat)
  case atStart => exact ⟨0, by omega, rfl, Below.refl _ _, fun ho => by have := HR.out; unfold findR at this; rw [if_pos (HO.out.trans ho)] at this; exact this⟩
  case round =>
    obtain ⟨k, hk, rfl, hb, hh⟩ := hrel
    go_wp2_with fail
    refine (RS.out _ hb).mono ?_
    rintro e w1 ⟨rfl, b1⟩
    have hb := step_below hb b1
    clear b1
    cases o with
    | false =>
      have HE : Hid (-1 = r) := by
        show _ = _
        rw [← HR.out]
        unfold findR
        rw [if_neg (by rw [HO.out]; decide)]
      go_wp2
      go_ret
      exact ⟨ret_int HE.out, hb⟩
    | true =>
      by_cases hlt : k < n
      · obtain ⟨p, hp⟩ : ∃ p, l[k]? = some p := ⟨_, List.getElem?_eq_getElem (by rw [HN.out]; exact hlt)⟩
        obtain ⟨b, off, rfl, hc⟩ := (H3.out.below hb).all (by rw [HN.out]; omega)
        have hpo := ordB_mem HO.out p (List.mem_of_getElem? hp)
        have c0 : ∀ q : From w1, q.W.cell? ⟨b, off + k * 2, none⟩ = some (.int .i64 p.1) := fun q => (hc q.W q.bel k p hp).1
        have c1 : ∀ q : From w1, q.W.cell? ⟨b, off + k * 2 + 1, none⟩ = some (.int .i64 p.2) := fun q => (hc q.W q.bel k p hp).2
        have HD : Hid ((if p.1 ≤ x ∧ x < p.1 + p.2 then (k : Int) else findL x (k + 1) (l.drop (k + 1))) = r) := by
          have := hh.out rfl
          rw [drop_at hp, findL_step] at this
          exact this
        have hik : 0 ≤ (k : Int) ∧ (k : Int) < (n : Int) := by omega
        have hb1 := Below.refl w1.heap.size w1
        obtain ⟨u, t⟩ := p
        simp only at c0 c1 hpo HD
        have hx := HX.out
        have HBB := Lib.hid hb
        clear hh hp hc hb
        by_cases h1 : u ≤ x
        · have hd1 : decide (u ≤ x) = true := decide_eq_true h1
          have hw : IntKind.i64.wrap (x - u) = x - u := i64_is ⟨by omega, by have := hx.2; omega⟩
          by_cases h2 : x - u < t
          · have HE : Hid ((k : Int) = r) := by show _ = _; rw [← HD.out, if_pos (by omega)]
            have hd2 : decide (x - u < t) = true := decide_eq_true h2
            clear hpo hx h1 h2
            go_wp2
            refine wp_region_from (w0 := w1) (by kernel_rfl) (by kernel_rfl) hb1 ?_
            repeat (go_big_quiet_step (fail))
            refine wpQuiet_nil ?_
            intro _ hw'
            obtain ⟨⟨wq, hq⟩, hw''⟩ := hw'
            subst hw''
            go_wp2
            go_ret
            exact ⟨ret_int HE.out, step_below HBB.out hq⟩
          · have HE : Hid (findL x (k + 1) (l.drop (k + 1)) = r) := by show _ = _; rw [← HD.out, if_neg (by omega)]
            have hd2 : decide (x - u < t) = false := decide_eq_false h2
            clear hpo hx h1 h2
            go_wp2
            refine wp_region_from (w0 := w1) (by kernel_rfl) (by kernel_rfl) hb1 ?_
            repeat (go_big_quiet_step (fail))
            refine wpQuiet_nil ?_
            intro _ hw'
            obtain ⟨⟨wq, hq⟩, hw''⟩ := hw'
            subst hw''
            go_wp2
            go_roundw
            case rel => exact ⟨k + 1, by omega, by go_num, step_below HBB.out hq, fun _ => HE.out⟩
            case measure => simp [intOf]; omega
        · have HE : Hid (findL x (k + 1) (l.drop (k + 1)) = r) := by show _ = _; rw [← HD.out, if_neg (by omega)]
          have hd1 : decide (u ≤ x) = false := decide_eq_false h1
          clear hpo hx h1
          go_wp2
          refine wp_region_from (w0 := w1) (by kernel_rfl) (by kernel_rfl) hb1 ?_
          repeat (go_big_quiet_step (fail))
          refine wpQuiet_nil ?_
          intro _ hw'
          obtain ⟨⟨wq, hq⟩, hw''⟩ := hw'
          subst hw''
          go_wp2
          go_roundw
          case rel => exact ⟨k + 1, by omega, by go_num, step_below HBB.out hq, fun _ => HE.out⟩
          case measure => simp [intOf]; omega
      · have HE : Hid (-1 = r) := by
          show _ = _
          rw [← hh.out rfl, List.drop_eq_nil_of_le (by rw [HN.out]; omega)]
          rfl
        go_wp2
        go_ret
        exact ⟨ret_int HE.out, hb⟩
end Go.Proofs.Ytppiibdeigjcjaa
