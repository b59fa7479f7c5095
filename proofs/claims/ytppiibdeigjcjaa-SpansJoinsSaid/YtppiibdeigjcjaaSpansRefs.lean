/- Layer 8 (spans): what the document's own Drop and Add return: contracts. -/
import Derived.Test.YtppiibdeigjcjaaSpansAdd
namespace Go.Proofs.Ytppiibdeigjcjaa
open Go.RowKit

theorem drop_ints {l : List Sp} {x : Int} (h : ∀ p ∈ l, InInt p.1 ∧ InInt p.2) : ∀ p ∈ lessL x l, InInt p.1 ∧ InInt p.2 := fun p hp => h p (List.mem_filter.1 hp).1
theorem mem_ins {s : Sp} : ∀ {l : List Sp} {p : Sp}, p ∈ insL s l → p = s ∨ p ∈ l
  | [], p, h => .inl (List.mem_singleton.1 h)
  | q :: r, p, h => by
    unfold insL at h
    split at h
    · rcases List.mem_cons.1 h with e | e
      · exact .inl e
      · exact .inr e
    · rcases List.mem_cons.1 h with e | e
      · exact .inr (by rw [e]; simp)
      · rcases mem_ins e with e | e
        · exact .inl e
        · exact .inr (by simp [e])
theorem pairs_at {w : World} {b off k : Nat} {l : List Sp} {p : Sp} (h : PairsAt w (some ⟨b, off, none⟩) l) (hk : l[k]? = some p) : w.cell? ⟨b, off + k * 2, none⟩ = some (.int .i64 p.1) ∧ w.cell? ⟨b, off + k * 2 + 1, none⟩ = some (.int .i64 p.2) := by
  obtain ⟨b', off', e, _, h1, h2⟩ := h.one hk
  injection e with e
  injection e with e1 e2
  subst e1 e2
  exact ⟨h1, h2⟩
set_option maxHeartbeats 1600000 in
theorem rdrop_is {w : World} {v : Value} {l : List Sp} {x : Int} {b : Bool} (h : SpansIn w v l) (hs : l.length ≤ 1048576) (hb : dropB l x = b) : Calls Try.prog 12 #[v, .int .i64 x] w (MadeB w (dropV l x) b) := by
  have h0 := h
  obtain ⟨⟨A, c, rfl, h1, h2, h3⟩, hi⟩ := h
  have hnot := not_any
  obtain ⟨n, en⟩ : ∃ n, l.length = n := ⟨_, rfl⟩
  obtain ⟨o, eo⟩ : ∃ o, ordB 0 l = o := ⟨_, rfl⟩
  have RS : Hid (∀ W, Below w.heap.size w W → Calls Try.prog 14 #[.slice A l.length c] W fun e w' => e = .returned (.bool o) ∧ Below W.heap.size W w') := fun W hb => rright_spans (h0.below hb) eo
  rw [en] at RS hs ⊢
  have H3 := Lib.hid h3
  have HN := Lib.hid en
  have HO := Lib.hid eo
  have HI := Lib.hid (drop_ints (x := x) hi)
  have HLL : Hid ((lessL x l).length ≤ 1048576) := by have := less_length x l; show _ ≤ _; omega
  have HB' : Hid (dropB l x = b) := hb
  clear h0 h1 h2 h3 hi en eo hb
  go_enter Try.func12, Try.ntmps12
  go_wp2
  go_loopw [6, 7, 8] (fun u d i wr => ∃ (k : Nat) (acc : List Sp) (was : Bool), k ≤ n ∧ i = .int .i64 k ∧ d = .bool was ∧ Own wr w.heap.size u acc ∧ Below w.heap.size w wr ∧ Hid (acc ++ lessL x (l.drop k) = lessL x l) ∧ Hid ((was || hasL x (l.drop k)) = hasL x l) ∧ Hid (acc.length ≤ k)) (fun _ _ i _ => n - (intOf i).toNat)
  case atStart => exact ⟨0, [], false, by omega, rfl, rfl, Own.nil _ _, Below.refl _ _, rfl, rfl, Nat.le_refl _⟩
  case round =>
    obtain ⟨k, acc, was, hk, rfl, rfl, own, hb, hl, hw, HAC⟩ := hrel
    by_cases hlt : k < n
    · obtain ⟨p, hp⟩ : ∃ p, l[k]? = some p := ⟨_, List.getElem?_eq_getElem (by rw [HN.out]; exact hlt)⟩
      obtain ⟨pb, off, rfl, hbl, c0, c1⟩ := (H3.out.below hb).one hp
      have hik : 0 ≤ (k : Int) ∧ (k : Int) < (n : Int) := by omega
      obtain ⟨u, t⟩ := p
      simp only at c0 c1
      have HL2 : Hid (acc ++ (if isAt x (u, t) = true then lessL x (l.drop (k + 1)) else (u, t) :: lessL x (l.drop (k + 1))) = lessL x l) := by have := hl.out; rw [drop_at hp, less_cons] at this; exact this
      have HW2 : Hid ((was || (isAt x (u, t) || hasL x (l.drop (k + 1)))) = hasL x l) := by have := hw.out; rw [drop_at hp, has_cons] at this; exact this
      clear hp hl hw
      by_cases hux : u = x
      · have hd : (u == x) = true := by simp [hux]
        have HL3 : Hid (acc ++ lessL x (l.drop (k + 1)) = lessL x l) := by have := HL2.out; rwa [if_pos (isAt_yes hux)] at this
        have HW3 : Hid ((true || hasL x (l.drop (k + 1))) = hasL x l) := by have := HW2.out; rw [isAt_yes hux, Bool.true_or, Bool.or_true] at this; rw [Bool.true_or]; exact this
        go_wp2
        go_roundw
        case rel => exact ⟨k + 1, acc, true, by omega, by go_num, rfl, own, hb, HL3, HW3, Nat.le_trans HAC.out (by omega)⟩
        case measure => simp [intOf]; omega
      · have hd : (u == x) = false := by simp [hux]
        have HL3 : Hid ((acc ++ [(u, t)]) ++ lessL x (l.drop (k + 1)) = lessL x l) := by have := HL2.out; rw [if_neg (by rw [isAt_no hux]; decide)] at this; rw [List.append_assoc]; exact this
        have HW3 : Hid ((was || hasL x (l.drop (k + 1))) = hasL x l) := by have := HW2.out; rwa [isAt_no hux, Bool.false_or] at this
        go_wp2_with (at_builtin; refine wpList_one (by rfl) (.tmp 22) (.tmp 27) (by rfl) (base := w.heap.size) (v := _) (xs := acc) (by rfl) ((own).below (new_below wr _)) (by have := hb.size; simp; omega) ⟨wr.heap.size, 0, none⟩ 1 (z := (u, t)) (by rfl) (one_pairs wr (u) (t)) (by have := HAC.out; omega) ?_; intro vy wy owny hby hgy)
        have b2 := (hb.alloc hb.size (.cells #[.int .i64 u, .int .i64 t] 24)).trans hby
        go_roundw
        case rel => exact ⟨k + 1, _, was, by omega, by go_num, rfl, owny, b2, HL3, HW3, by have := HAC.out; rw [List.length_append]; show _ + 1 ≤ _; omega⟩
        case measure => simp [intOf]; omega
    · have hdr : l.drop k = [] := List.drop_eq_nil_of_le (by rw [HN.out]; omega)
      have HL3 : Hid (acc = lessL x l) := by have := hl.out; rw [hdr] at this; rw [← this]; exact (List.append_nil _).symm
      have HW3 : Hid (was = hasL x l) := by have := hw.out; rw [hdr] at this; rw [← this]; exact (Bool.or_false _).symm
      clear hdr hl hw
      cases was with
      | false =>
        have HB : Hid (b = false) := by show _ = _; rw [← HB'.out]; unfold dropB; rw [← HW3.out]; rfl
        have HV : Hid (dropV l x = []) := dropV_no (HB'.out.trans HB.out)
        have hbb := HB.out
        subst hbb
        clear HB
        go_wp2
        go_ret2
        exact ⟨_, rfl, by rw [HV.out]; exact SpansIn.nil _, hb⟩
      | true =>
        go_wp2_with fail
        refine (RS.out _ hb).mono ?_
        rintro e w2 ⟨rfl, b2⟩
        have b3 := step_below hb b2
        have own2 := own.below b2
        cases o with
        | false =>
          have HB : Hid (b = false) := by show _ = _; rw [← HB'.out]; unfold dropB; rw [HO.out, Bool.and_false]
          have HV : Hid (dropV l x = []) := dropV_no (HB'.out.trans HB.out)
          have hbb := HB.out
          subst hbb
          clear HB
          go_wp2
          go_ret2
          exact ⟨_, rfl, by rw [HV.out]; exact SpansIn.nil _, b3⟩
        | true =>
          have HB : Hid (b = true) := by show _ = _; rw [← HB'.out]; unfold dropB; rw [HO.out, ← HW3.out]; rfl
          have HV : Hid (dropV l x = lessL x l) := dropV_yes (HB'.out.trans HB.out)
          have hbb := HB.out
          subst hbb
          clear HB
          have own3 := own2
          rw [HL3.out] at own3
          go_wp2
          go_ret2
          exact ⟨_, rfl, by rw [HV.out]; exact own3.spans (by have := HLL.out; omega) HI.out, b3⟩
set_option maxHeartbeats 3200000 in
theorem radd_is {w : World} {v : Value} {l : List Sp} {x y : Int} {b : Bool} (h : SpansIn w v l) (hs : l.length ≤ 1048576) (hx : InInt x) (hy : InInt y) (hb : addB l (x, y) = b) : Calls Try.prog 10 #[v, .agg #[.int .i64 x, .int .i64 y]] w (MadeB w (addV l (x, y)) b) := by
  have h0 := h
  obtain ⟨⟨A, c, rfl, h1, h2, h3⟩, hi⟩ := h
  have hnot := not_any
  obtain ⟨n, en⟩ : ∃ n, l.length = n := ⟨_, rfl⟩
  obtain ⟨o, eo⟩ : ∃ o, ordB 0 l = o := ⟨_, rfl⟩
  obtain ⟨q, eq⟩ : ∃ q, okB 0 (x, y) = q := ⟨_, rfl⟩
  have n0 := two_lit w (.int .i64 x) (.int .i64 y) 24
  have b0 := new_below w (.cells #[.int .i64 x, .int .i64 y] 24)
  have HS0 : Hid (∀ W, Below w.heap.size w W → SpansIn W (.slice A n c) l) := fun W hW => by have := h0.below hW; rwa [en] at this
  have HII : Hid (∀ p ∈ insL (x, y) l, InInt p.1 ∧ InInt p.2) := fun p hp => by
    rcases mem_ins hp with e | e
    · rw [e]; exact ⟨hx, hy⟩
    · exact hi p e
  have HLL : Hid ((insL (x, y) l).length ≤ 1048577) := by show _ ≤ _; rw [insL_length]; omega
  rw [en] at hs
  have HX := Lib.hid hx
  have HY := Lib.hid hy
  have HI := Lib.hid hi
  have H3 := Lib.hid h3
  have HN := Lib.hid en
  have HO := Lib.hid eo
  have HQ := Lib.hid eq
  have HB' : Hid (addB l (x, y) = b) := hb
  rw [en]
  clear h0 h1 h2 h3 hi hx hy hb en eo eq
  go_enter Try.func10, Try.ntmps10
  go_upto_region 1 with fail
  generalize w.alloc (.cells #[.int .i64 x, .int .i64 y] 24) = W0 at *
  have HC : Hid (∀ W, Below W0.heap.size W0 W → (W.cell? ⟨w.heap.size, 0, none⟩ = some (.int .i64 x) ∧ W.cell? ⟨w.heap.size, 1, none⟩ = some (.int .i64 y)) ∧ Below w.heap.size w W) := fun W hW => ⟨two_any n0 hW, b0.trans (hW.mono b0.size)⟩
  clear n0 b0
  obtain ⟨⟨d0, d1⟩, bw⟩ := HC.out _ (Below.refl _ _)
  cases o with
  | false =>
    have HB : Hid (b = false) := by show _ = _; rw [← HB'.out]; unfold addB; rw [HO.out]; rfl
    have HV : Hid (addV l (x, y) = []) := addV_no (HB'.out.trans HB.out)
    go_wp2_with fail
    refine (rright_spans (HS0.out _ bw) HO.out).mono ?_
    rintro e w1 ⟨rfl, b1⟩
    have BW := Lib.hid (HC.out _ b1).2
    have hbb := HB.out
    subst hbb
    clear HB
    go_wp2
    go_ret2
    exact ⟨_, rfl, by rw [HV.out]; exact SpansIn.nil _, BW.out⟩
  | true =>
    go_wp2_with fail
    refine (rright_spans (HS0.out _ bw) HO.out).mono ?_
    rintro e w1 ⟨rfl, b1⟩
    clear d0 d1 bw
    obtain ⟨⟨d0, d1⟩, bw⟩ := HC.out _ b1
    cases q with
    | false =>
      have HB : Hid (b = false) := by show _ = _; rw [← HB'.out]; unfold addB; rw [HO.out, HQ.out]; rfl
      have HV : Hid (addV l (x, y) = []) := addV_no (HB'.out.trans HB.out)
      go_wp2_with fail
      refine (one_is _ HX.out HY.out HQ.out).mono ?_
      rintro e w2 ⟨rfl, b2⟩
      have BW := Lib.hid (HC.out _ (step_below b1 b2)).2
      have hbb := HB.out
      subst hbb
      clear HB
      go_wp2
      go_ret2
      exact ⟨_, rfl, by rw [HV.out]; exact SpansIn.nil _, BW.out⟩
    | true =>
      go_wp2_with fail
      refine (one_is _ HX.out HY.out HQ.out).mono ?_
      rintro e w2 ⟨rfl, b2⟩
      clear d0 d1 bw
      have b3 := step_below b1 b2
      clear b1 b2
      go_wp2
      go_loopw [6, 7, 8] (fun u d i wr => ∃ (k : Nat) (acc : List Sp) (dn : Bool), k ≤ n ∧ i = .int .i64 k ∧ d = .bool dn ∧ Own wr W0.heap.size u acc ∧ Below W0.heap.size W0 wr ∧ Hid (acc ++ (if dn = true then l.drop k else insL (x, y) (l.drop k)) = insL (x, y) l) ∧ Hid (meetsL (x, y) (l.drop k) = meetsL (x, y) l) ∧ Hid (acc.length ≤ 2 * k)) (fun _ _ i _ => n - (intOf i).toNat)
      case atStart => exact ⟨0, [], false, by omega, rfl, rfl, Own.nil _ _, b3, rfl, rfl, Nat.zero_le _⟩
      case round =>
        clear b3
        obtain ⟨k, acc, dn, hk, rfl, rfl, own, hb, hl, hm, HAC⟩ := hrel
        obtain ⟨⟨d0, d1⟩, bw⟩ := HC.out _ hb
        by_cases hlt : k < n
        · obtain ⟨p, hp⟩ : ∃ p, l[k]? = some p := ⟨_, List.getElem?_eq_getElem (by rw [HN.out]; exact hlt)⟩
          obtain ⟨pb, off, rfl, hc⟩ := (H3.out.below bw).all (by rw [HN.out]; omega)
          have hik : 0 ≤ (k : Int) ∧ (k : Int) < (n : Int) := by omega
          have hpi := HI.out p (List.mem_of_getElem? hp)
          have hpo := ordB_mem HO.out p (List.mem_of_getElem? hp)
          have HM2 : Hid ((meetB p (x, y) || meetsL (x, y) (l.drop (k + 1))) = meetsL (x, y) l) := by have := hm.out; rw [drop_at hp, meetsL_cons] at this; exact this
          have HL2 : Hid (acc ++ (if dn = true then p :: l.drop (k + 1) else insL (x, y) (p :: l.drop (k + 1))) = insL (x, y) l) := by have := hl.out; rw [drop_at hp] at this; exact this
          have HPC : Hid (∀ W, Below wr.heap.size wr W → W.cell? ⟨pb, off + k * 2, none⟩ = some (.int .i64 p.1) ∧ W.cell? ⟨pb, off + k * 2 + 1, none⟩ = some (.int .i64 p.2)) := fun W hW => hc W hW k p hp
          have HPCX : Hid (∀ W, Below W0.heap.size W0 W → W.cell? ⟨pb, off + k * 2, none⟩ = some (.int .i64 p.1) ∧ W.cell? ⟨pb, off + k * 2 + 1, none⟩ = some (.int .i64 p.2)) := fun W hW => pairs_at (H3.out.below (HC.out W hW).2) hp
          clear hp hl hm hc
          obtain ⟨u, t⟩ := p
          simp only at hpi hpo HPC HPCX
          obtain ⟨m, em⟩ : ∃ m, meetB (u, t) (x, y) = m := ⟨_, rfl⟩
          rw [em] at HM2
          have M1 : Hid (∀ W, Calls Try.prog 17 #[.agg #[.int .i64 u, .int .i64 t], .agg #[.int .i64 x, .int .i64 y]] W fun e w' => e = .returned (.bool m) ∧ Below W.heap.size W w') := fun W => rmeet_is W hpi.1 hpi.2 HX.out HY.out em
          clear em
          have c0 : ∀ q : From wr, q.W.cell? ⟨pb, off + k * 2, none⟩ = some (.int .i64 u) := fun q => (HPC.out q.W q.bel).1
          have c1 : ∀ q : From wr, q.W.cell? ⟨pb, off + k * 2 + 1, none⟩ = some (.int .i64 t) := fun q => (HPC.out q.W q.bel).2
          have c2 : ∀ q : From wr, q.W.cell? ⟨w.heap.size, 0, none⟩ = some (.int .i64 x) := fun q => (HC.out _ (step_below hb q.bel)).1.1
          have c3 : ∀ q : From wr, q.W.cell? ⟨w.heap.size, 1, none⟩ = some (.int .i64 y) := fun q => (HC.out _ (step_below hb q.bel)).1.2
          have hb1 := Below.refl wr.heap.size wr
          clear d0 d1 bw
          cases m with
          | true =>
            have HB : Hid (b = false) := by show _ = _; rw [← HB'.out]; unfold addB; rw [← HM2.out, Bool.true_or, Bool.not_true, Bool.and_false]
            have HV : Hid (addV l (x, y) = []) := addV_no (HB'.out.trans HB.out)
            have hbb := HB.out
            subst hbb
            clear HB
            go_wp2
            refine wp_region_from (w0 := wr) (by kernel_rfl) (by kernel_rfl) hb1 ?_
            repeat (go_big_quiet_step (first | (go_at_call 17; with_reducible refine from_of (M1.out _))))
            refine wpQuiet_nil ?_
            intro wq hw'
            obtain ⟨⟨wy, hq⟩, hw''⟩ := hw'
            subst hw''
            have BW := Lib.hid (HC.out _ (step_below hb hq)).2
            go_wp2
            go_ret2
            exact ⟨_, rfl, by rw [HV.out]; exact SpansIn.nil _, BW.out⟩
          | false =>
            have HM3 : Hid (meetsL (x, y) (l.drop (k + 1)) = meetsL (x, y) l) := by have := HM2.out; rwa [Bool.false_or] at this
            go_upto_region 8 with fail
            refine wp_region_from (w0 := wr) (by kernel_rfl) (by kernel_rfl) hb1 ?_
            repeat (go_big_quiet_step (first | (go_at_call 17; with_reducible refine from_of (M1.out _))))
            refine wpQuiet_nil ?_
            intro wq hw'
            obtain ⟨⟨wy, hq⟩, hw''⟩ := hw'
            subst hw''
            have hb2 := step_below hb hq
            have own2 := own.below hq
            have HPC2 : Hid (∀ W, Below wq.heap.size wq W → W.cell? ⟨pb, off + k * 2, none⟩ = some (.int .i64 u) ∧ W.cell? ⟨pb, off + k * 2 + 1, none⟩ = some (.int .i64 t)) := fun W hW => HPC.out W (step_below hq hW)
            clear c0 c1 c2 c3 hb1 hb own HPC M1 hq
            have c0 : ∀ q : From wq, q.W.cell? ⟨pb, off + k * 2, none⟩ = some (.int .i64 u) := fun q => (HPC2.out q.W q.bel).1
            have c1 : ∀ q : From wq, q.W.cell? ⟨pb, off + k * 2 + 1, none⟩ = some (.int .i64 t) := fun q => (HPC2.out q.W q.bel).2
            have c2 : ∀ q : From wq, q.W.cell? ⟨w.heap.size, 0, none⟩ = some (.int .i64 x) := fun q => (HC.out _ (step_below hb2 q.bel)).1.1
            have c3 : ∀ q : From wq, q.W.cell? ⟨w.heap.size, 1, none⟩ = some (.int .i64 y) := fun q => (HC.out _ (step_below hb2 q.bel)).1.2
            have hb1 := Below.refl wq.heap.size wq
            cases dn with
            | true =>
              have HL3 : Hid ((acc ++ [(u, t)]) ++ (if true = true then l.drop (k + 1) else insL (x, y) (l.drop (k + 1))) = insL (x, y) l) := by have := HL2.out; rw [if_pos rfl] at this; rw [if_pos rfl, List.append_assoc]; exact this
              go_upto_region 10 with fail
              refine wp_region_from (w0 := wq) (by kernel_rfl) (by kernel_rfl) hb1 ?_
              repeat (go_big_quiet_step (fail))
              refine wpQuiet_nil ?_
              intro w4 hw'
              obtain ⟨⟨wy4, hq4⟩, hw''⟩ := hw'
              subst hw''
              have hb5 := step_below hb2 hq4
              have own5 := own2.below hq4
              obtain ⟨e0, e1⟩ := HPC2.out _ hq4
              clear c0 c1 c2 c3
              go_wp2_with (at_builtin; refine wpList_one (by rfl) (.tmp 45) (.tmp 50) (by rfl) (base := W0.heap.size) (v := _) (xs := acc) (by rfl) ((own5).below (new_below w4 _)) (by have := hb5.size; simp; omega) ⟨w4.heap.size, 0, none⟩ 1 (z := (u, t)) (by rfl) (one_pairs w4 (u) (t)) (by have := HAC.out; omega) ?_; intro vy wy owny hby hgy)
              have b9 := (hb5.alloc hb5.size (.cells #[.int .i64 u, .int .i64 t] 24)).trans hby
              go_roundw
              case rel => exact ⟨k + 1, _, _, by omega, by go_num, rfl, owny, b9, HL3, HM3, by have := HAC.out; simp only [List.length_append, List.length_singleton]; show _ ≤ _; omega⟩
              case measure => simp [intOf]; omega
            | false =>
              by_cases hxu : x < u
              · have hd : decide (x < u) = true := decide_eq_true hxu
                have HL3 : Hid (((acc ++ [(x, y)]) ++ [(u, t)]) ++ (if true = true then l.drop (k + 1) else insL (x, y) (l.drop (k + 1))) = insL (x, y) l) := by
                  have := HL2.out
                  rw [if_neg (by decide), insL, if_pos hxu] at this
                  rw [if_pos rfl, List.append_assoc, List.append_assoc]; exact this
                go_upto_region 10 with fail
                refine wp_region_from (w0 := wq) (by kernel_rfl) (by kernel_rfl) hb1 ?_
                repeat (go_big_quiet_step (fail))
                refine wpQuiet_nil ?_
                intro w4 hw'
                obtain ⟨⟨wy4, hq4⟩, hw''⟩ := hw'
                subst hw''
                have hb5 := step_below hb2 hq4
                have own5 := own2.below hq4
                obtain ⟨e0, e1⟩ := HPC2.out _ hq4
                obtain ⟨⟨d0, d1⟩, bw⟩ := HC.out _ hb5
                clear c0 c1 c2 c3
                go_wp2_with (first | (at_builtin; refine wpList_one (by rfl) (.tmp 41) (.tmp 43) (by rfl) (base := W0.heap.size) (v := _) (xs := acc) (by rfl) ((own5).below (new_below w4 _)) (by have := hb5.size; simp; omega) ⟨w4.heap.size, 0, none⟩ 1 (z := (x, y)) (by rfl) (one_pairs w4 (x) (y)) (by have := HAC.out; omega) ?_; intro vx wx ownx hbx hgx; have b7 := (hb5.alloc hb5.size (.cells #[.int .i64 x, .int .i64 y] 24)).trans hbx; have k0 : wx.cell? ⟨pb, off + k * 2, none⟩ = some (.int .i64 u) := (HPCX.out wx b7).1; have k1 : wx.cell? ⟨pb, off + k * 2 + 1, none⟩ = some (.int .i64 t) := (HPCX.out wx b7).2; clear e0 e1 d0 d1) | (at_builtin; refine wpList_one (by rfl) (.tmp 45) (.tmp 50) (by rfl) (base := W0.heap.size) (v := _) (xs := (acc ++ [(x, y)])) (by rfl) ((ownx).below (new_below wx _)) (by have := b7.size; simp; omega) ⟨wx.heap.size, 0, none⟩ 1 (z := (u, t)) (by rfl) (one_pairs wx (u) (t)) (by have := HAC.out; rw [List.length_append]; simp only [List.length_singleton]; omega) ?_; intro vy wy owny hby hgy))
                have b9 := (b7.alloc b7.size (.cells #[.int .i64 u, .int .i64 t] 24)).trans hby
                go_roundw
                case rel => exact ⟨k + 1, _, _, by omega, by go_num, rfl, owny, b9, HL3, HM3, by have := HAC.out; simp only [List.length_append, List.length_singleton]; show _ ≤ _; omega⟩
                case measure => simp [intOf]; omega
              · have hd : decide (x < u) = false := decide_eq_false hxu
                have HL3 : Hid ((acc ++ [(u, t)]) ++ (if false = true then l.drop (k + 1) else insL (x, y) (l.drop (k + 1))) = insL (x, y) l) := by
                  have := HL2.out
                  rw [if_neg (by decide), insL, if_neg hxu] at this
                  rw [if_neg (by decide), List.append_assoc]; exact this
                go_upto_region 10 with fail
                refine wp_region_from (w0 := wq) (by kernel_rfl) (by kernel_rfl) hb1 ?_
                repeat (go_big_quiet_step (fail))
                refine wpQuiet_nil ?_
                intro w4 hw'
                obtain ⟨⟨wy4, hq4⟩, hw''⟩ := hw'
                subst hw''
                have hb5 := step_below hb2 hq4
                have own5 := own2.below hq4
                obtain ⟨e0, e1⟩ := HPC2.out _ hq4
                clear c0 c1 c2 c3
                go_wp2_with (at_builtin; refine wpList_one (by rfl) (.tmp 45) (.tmp 50) (by rfl) (base := W0.heap.size) (v := _) (xs := acc) (by rfl) ((own5).below (new_below w4 _)) (by have := hb5.size; simp; omega) ⟨w4.heap.size, 0, none⟩ 1 (z := (u, t)) (by rfl) (one_pairs w4 (u) (t)) (by have := HAC.out; omega) ?_; intro vy wy owny hby hgy)
                have b9 := (hb5.alloc hb5.size (.cells #[.int .i64 u, .int .i64 t] 24)).trans hby
                go_roundw
                case rel => exact ⟨k + 1, _, _, by omega, by go_num, rfl, owny, b9, HL3, HM3, by have := HAC.out; simp only [List.length_append, List.length_singleton]; show _ ≤ _; omega⟩
                case measure => simp [intOf]; omega
        · have hdr : l.drop k = [] := List.drop_eq_nil_of_le (by rw [HN.out]; omega)
          have hmm : meetsL (x, y) l = false := by rw [← hm.out, hdr]; rfl
          have hbt : addB l (x, y) = true := addB_iff.2 ⟨HO.out, HQ.out, hmm⟩
          have hbb : b = true := HB'.out.symm.trans hbt
          have HV : Hid (addV l (x, y) = insL (x, y) l) := addV_yes hbt
          subst hbb
          cases dn with
          | true =>
            have HL3 : Hid (acc = insL (x, y) l) := by have := hl.out; rw [if_pos rfl, hdr, List.append_nil] at this; exact this
            clear hdr hmm hbt hl hm
            have own3 := own
            rw [HL3.out] at own3
            go_wp2
            go_ret2
            exact ⟨_, rfl, by rw [HV.out]; exact own3.spans (by have := HLL.out; omega) HII.out, bw⟩
          | false =>
            have HL3 : Hid (acc ++ [(x, y)] = insL (x, y) l) := by have := hl.out; rw [if_neg (by decide), hdr] at this; exact this
            clear hdr hmm hbt hl hm
            go_wp2_with (at_builtin; refine wpList_one (by rfl) (.tmp 54) (.tmp 56) (by rfl) (base := W0.heap.size) (v := _) (xs := acc) (by rfl) ((own).below (new_below wr _)) (by have := hb.size; simp; omega) ⟨wr.heap.size, 0, none⟩ 1 (z := (x, y)) (by rfl) (one_pairs wr (x) (y)) (by have := HAC.out; omega) ?_; intro vz wz ownz hbz hgz)
            go_ret2
            rw [HL3.out] at ownz
            exact ⟨_, rfl, by rw [HV.out]; exact ownz.spans (by have := HLL.out; omega) HII.out, (HC.out _ ((hb.alloc hb.size (.cells #[.int .i64 x, .int .i64 y] 24)).trans hbz)).2⟩
end Go.Proofs.Ytppiibdeigjcjaa
