/- Layer 8 (spans): what Merge returns: a contract. -/
import Derived.Test.YtppiibdeigjcjaaSpansAdd
namespace Go.Proofs.Ytppiibdeigjcjaa
open Go.RowKit

theorem merge_ints {a : Int} (ha : 0 ≤ a) {l : List Sp} (h : ordB a l = true) : ∀ p ∈ l, InInt p.1 ∧ InInt p.2 := fun p hp => by
  have := ordB_mem h p hp
  exact ⟨⟨by omega, by omega⟩, ⟨by omega, by omega⟩⟩
/-- The one at place k given another length. -/
theorem cellsL_set : ∀ {l : List Sp} {k : Nat} {p : Sp} (y : Int), l[k]? = some p → (cellsL l).set (k * 2 + 1) (.int .i64 y) = cellsL (l.set k (p.1, y))
  | [], k, p, y, h => by simp at h
  | q :: r, 0, p, y, h => by simp at h; subst h; rfl
  | q :: r, k + 1, p, y, h => by
    have := cellsL_set (l := r) (k := k) (p := p) y (by simpa using h)
    rw [show (k + 1) * 2 + 1 = k * 2 + 1 + 1 + 1 by omega]
    show Value.int .i64 q.1 :: Value.int .i64 q.2 :: (cellsL r).set (k * 2 + 1) (.int .i64 y) = _
    rw [this]; rfl
theorem pairs_at0 {w : World} {b off k : Nat} {l : List Sp} {p : Sp} (h : PairsAt w (some ⟨b, off, none⟩) l) (hk : l[k]? = some p) : w.cell? ⟨b, off + k * 2, none⟩ = some (.int .i64 p.1) ∧ w.cell? ⟨b, off + k * 2 + 1, none⟩ = some (.int .i64 p.2) := by
  obtain ⟨b', off', e, _, h1, h2⟩ := h.one hk
  injection e with e
  injection e with e1 e2
  subst e1 e2
  exact ⟨h1, h2⟩
theorem own_len_set {w : World} {base g cap n : Nat} {xs : List Sp} (h : w.ownsRow base 24 2 (.slice (some ⟨g, 0, none⟩) n cap) n (cellsL xs)) {k : Nat} {p : Sp} (hk : xs[k]? = some p) (y : Int) :
    (w.setCell ⟨g, k * 2 + 1, none⟩ (.int .i64 y)).ownsRow base 24 2 (.slice (some ⟨g, 0, none⟩) n cap) n (cellsL (xs.set k (p.1, y))) := by
  have hl := h.1
  rcases h.2 with ⟨e, _⟩ | ⟨g', cap', cur, e, hb, hg, h1, h2, h3, h4⟩
  · cases e
  · injection e with e1 e2 e3
    injection e1 with e1
    injection e1 with e1
    subst e1 e3
    refine ⟨by rw [← cellsL_set y hk, List.length_set]; exact hl, .inr ⟨g, cap, cur.setIfInBounds (k * 2 + 1) (.int .i64 y), rfl, hb, ?_, h1, h2, by simpa using h3, ?_⟩⟩
    · simp [World.setCell, Array.getElem?_modify, hg]
    · rw [Array.toList_setIfInBounds, List.take_set, h4, cellsL_set y hk]
theorem own_row {w : World} {base : Nat} {v : Value} {xs : List Sp} (h : Own w base v xs) (h0 : 0 < xs.length) : ∃ g c, v = .slice (some ⟨g, 0, none⟩) xs.length c ∧ xs.length ≤ c ∧ base ≤ g ∧ g < w.heap.size ∧ (∀ i, w.frozen? ⟨g, i, none⟩ = false) ∧ PairsAt w (some ⟨g, 0, none⟩) xs := by
  have h' := h
  rcases h.2 with ⟨_, e⟩ | ⟨g, cap, cur, rfl, hb, hg, hc, _⟩
  · omega
  · exact ⟨g, cap, rfl, hc, hb, (Array.getElem?_eq_some_iff.1 hg).1, fun i => h'.frozenAt i, own_pairs h'⟩
def mergeV (l : List Sp) (b : Bool) : List Sp := if b = true then mergeL l else []
set_option maxHeartbeats 3200000 in
theorem merge_is {w : World} {v : Value} {l : List Sp} {b : Bool} (h : SpansIn w v l) (hs : l.length ≤ 1048576) (hb : ordB 0 l = b) : Calls Try.prog 24 #[v] w (MadeB w (mergeV l b) b) := by
  have h0 := h
  obtain ⟨⟨A, c, rfl, h1, h2, h3⟩, hi⟩ := h
  have hnot := not_any
  obtain ⟨n, en⟩ : ∃ n, l.length = n := ⟨_, rfl⟩
  have RS : Hid (Calls Try.prog 13 #[.slice A l.length c] w fun e w' => e = .returned (.bool b) ∧ Below w.heap.size w w') := right_spans h0 hb
  rw [en] at RS hs ⊢
  have H3 := Lib.hid h3
  have HN := Lib.hid en
  have HO := Lib.hid hb
  have HLR : Hid ((mergeL l).length ≤ 1048576) := by have := mergeL_length l; show _ ≤ _; omega
  clear h0 h1 h2 h3 hi en hb
  go_enter Try.func24, Try.ntmps24
  go_wp2_with fail
  refine RS.out.mono ?_
  rintro e w1 ⟨rfl, b1⟩
  cases b with
  | false =>
    go_wp2
    go_ret2
    exact ⟨_, rfl, SpansIn.nil _, b1⟩
  | true =>
    have HIR : Hid (∀ p ∈ mergeL l, InInt p.1 ∧ InInt p.2) := merge_ints (Int.le_refl 0) (mergeL_ok HO.out).1
    go_wp2
    go_loopw [4, 13] (fun u i wr => ∃ (k : Nat) (acc : List Sp), k ≤ n ∧ i = .int .i64 k ∧ Own wr w.heap.size u acc ∧ Below w.heap.size w wr ∧ Hid (acc.length ≤ k) ∧ ((k = 0 ∧ acc = []) ∨ ∃ (d : List Sp) (x y : Int), acc = d ++ [(x, y)] ∧ Hid (d ++ mergeFrom (x, y) (l.drop k) = mergeL l) ∧ Hid (0 ≤ x ∧ 1 ≤ y ∧ x + y ≤ 9223372036854775807 ∧ ordB (x + y) (l.drop k) = true))) (fun _ i _ => n - (intOf i).toNat)
    case atStart => exact ⟨0, [], by omega, rfl, Own.nil _ _, b1, Nat.le_refl _, .inl ⟨rfl, rfl⟩⟩
    case round =>
      clear b1
      obtain ⟨k, acc, hk, rfl, own, hb, HAC, hst⟩ := hrel
      by_cases hlt : k < n
      · obtain ⟨p, hp⟩ : ∃ p, l[k]? = some p := ⟨_, List.getElem?_eq_getElem (by rw [HN.out]; exact hlt)⟩
        obtain ⟨pb, off, rfl, hbl, c0, c1⟩ := (H3.out.below hb).one hp
        have hik : 0 ≤ (k : Int) ∧ (k : Int) < (n : Int) := by omega
        obtain ⟨u, t⟩ := p
        simp only at c0 c1
        have HP := Lib.hid hp
        rcases hst with ⟨rfl, rfl⟩ | ⟨d, x, y, rfl, HM, HA⟩
        · -- the first one
          obtain ⟨A0, cc0, rfl, _, _⟩ := own_slice own
          have HM2 : Hid ([] ++ mergeFrom (u, t) (l.drop 1) = mergeL l) := by
            have := drop_at HP.out
            rw [List.drop_zero] at this
            show mergeFrom (u, t) (l.drop 1) = _
            rw [this]; rfl
          have HA2 : Hid (0 ≤ u ∧ 1 ≤ t ∧ u + t ≤ 9223372036854775807 ∧ ordB (u + t) (l.drop 1) = true) := by
            have := HO.out
            have e := drop_at HP.out
            rw [List.drop_zero] at e
            rw [e] at this
            obtain ⟨a1, a2⟩ := ordB_cons.1 this
            have a3 := okB_iff.1 a1
            exact ⟨a3.1, a3.2.1, a3.2.2, a2⟩
          simp only [Nat.zero_mul, Nat.add_zero] at c0 c1
          clear hp
          go_upto_region 7 with fail
          have v0 := two_lit wr (.int .i64 u) (.int .i64 t) 24
          have v1 := step_below hb (new_below wr (.cells #[.int .i64 u, .int .i64 t] 24))
          have own1 := own.below (new_below wr (.cells #[.int .i64 u, .int .i64 t] 24))
          clear c0 c1 hb own
          generalize wr.heap.size = g at *
          generalize wr.alloc (.cells #[.int .i64 u, .int .i64 t] 24) = W1 at *
          have e0 : ∀ q : From W1, q.W.cell? ⟨g, 0, none⟩ = some (.int .i64 u) := fun q => (two_any v0 q.bel).1
          have e1 : ∀ q : From W1, q.W.cell? ⟨g, 1, none⟩ = some (.int .i64 t) := fun q => (two_any v0 q.bel).2
          have hb1 := Below.refl W1.heap.size W1
          go_upto_region 8 with fail
          refine wp_region_from (w0 := W1) (by kernel_rfl) (by kernel_rfl) hb1 ?_
          repeat (go_big_quiet_step (fail))
          refine wpQuiet_nil ?_
          intro wq hw'
          obtain ⟨⟨wy, hq⟩, hw''⟩ := hw'
          subst hw''
          have b3 := step_below v1 hq
          have own3 := own1.below hq
          obtain ⟨d0, d1⟩ := two_any v0 hq
          simp only [twoF] at d0 d1
          clear e0 e1 hb1 v0 v1 own1 hq
          go_wp2_with (at_builtin; refine wpList_one (by rfl) (.tmp 42) (.tmp 44) (by rfl) (base := w.heap.size) (v := _) (xs := []) (by rfl) ((own3).below (new_below wq _)) (by have := b3.size; simp; omega) ⟨wq.heap.size, 0, none⟩ 1 (z := (u, t)) (by rfl) (one_pairs wq (u) (t)) (by simp) ?_; intro vy wy owny hby hgy)
          have b4 := (b3.alloc b3.size (.cells #[.int .i64 u, .int .i64 t] 24)).trans hby
          go_roundw
          case rel => exact ⟨1, _, by omega, by go_num, owny, b4, by show _ ≤ _; simp, .inr ⟨[], u, t, rfl, HM2, HA2⟩⟩
          case measure => (simp [intOf]; try omega)
        · have hdl : (d ++ [(x, y)]).length = d.length + 1 := by simp
          obtain ⟨m, em⟩ : ∃ m, d.length = m := ⟨_, rfl⟩
          have hdm : (d ++ [(x, y)])[m]? = some (x, y) := by rw [← em]; simp
          obtain ⟨g0, cp, ev, hcp, hg1, hg2, hfz, hpr⟩ := own_row own (by omega)
          rw [hdl, em] at ev hcp
          have hacl : m + 1 ≤ k := by have := HAC.out; rw [hdl] at this; omega
          have HM2 : Hid (d ++ (if x + y = u then mergeFrom (x, y + t) (l.drop (k + 1)) else (x, y) :: mergeFrom (u, t) (l.drop (k + 1))) = mergeL l) := by
            have := HM.out
            rw [drop_at HP.out, mergeFrom] at this
            exact this
          have HA2 : Hid (0 ≤ x ∧ 1 ≤ y ∧ x + y ≤ u ∧ 1 ≤ t ∧ u + t ≤ 9223372036854775807 ∧ ordB (u + t) (l.drop (k + 1)) = true) := by
            obtain ⟨a1, a2, a3, a4⟩ := HA.out
            rw [drop_at HP.out] at a4
            obtain ⟨a5, a6⟩ := ordB_cons.1 a4
            have a7 := okB_iff.1 a5
            exact ⟨a1, a2, a7.1, a7.2.1, a7.2.2, a6⟩
          have HDM := Lib.hid hdm
          have HEM := Lib.hid em
          have HDL := Lib.hid hdl
          clear hp HM HA hdl em hdm
          subst ev
          go_upto_region 7 with fail
          have v0 := two_lit wr (.int .i64 u) (.int .i64 t) 24
          have v1 := step_below hb (new_below wr (.cells #[.int .i64 u, .int .i64 t] 24))
          have own1 := own.below (new_below wr (.cells #[.int .i64 u, .int .i64 t] 24))
          have hgne : g0 ≠ wr.heap.size := by omega
          clear c0 c1 hb own hpr hfz
          generalize wr.heap.size = g at *
          generalize wr.alloc (.cells #[.int .i64 u, .int .i64 t] 24) = W1 at *
          obtain ⟨g0', cp', ev', _, _, hg3, hfz, hpr⟩ := own_row own1 (by have := HDL.out; omega)
          rw [HDL.out, HEM.out] at ev'
          injection ev' with ev1 ev2 ev3
          injection ev1 with ev1
          injection ev1 with ev1 ev4 ev5
          subst ev1 ev3
          clear ev2 ev4 ev5
          have e0 : ∀ q : From W1, q.W.cell? ⟨g, 0, none⟩ = some (.int .i64 u) := fun q => (two_any v0 q.bel).1
          have e1 : ∀ q : From W1, q.W.cell? ⟨g, 1, none⟩ = some (.int .i64 t) := fun q => (two_any v0 q.bel).2
          have e2 : ∀ q : From W1, q.W.cell? ⟨g0, 0 + m * 2, none⟩ = some (.int .i64 x) := fun q => (pairs_at0 (hpr.below q.bel) HDM.out).1
          have e3 : ∀ q : From W1, q.W.cell? ⟨g0, 0 + m * 2 + 1, none⟩ = some (.int .i64 y) := fun q => (pairs_at0 (hpr.below q.bel) HDM.out).2
          simp only [Nat.zero_add] at e2 e3
          have hb1 := Below.refl W1.heap.size W1
          have hw7 : IntKind.i64.wrap (((m + 1 : Nat) : Int) - 1) = (m : Int) := by rw [show ((m + 1 : Nat) : Int) - 1 = (m : Int) by omega]; exact i64_is (by omega)
          have hw8 : IntKind.i64.wrap ((m : Int) + 1 - 1) = (m : Int) := by rw [show (m : Int) + 1 - 1 = (m : Int) by omega]; exact i64_is (by omega)
          have hm0 : decide (0 ≤ (m : Int)) = true := decide_eq_true (by omega)
          have him : 0 ≤ (m : Int) ∧ (m : Int) < ((m + 1 : Nat) : Int) := by omega
          have B1 : Hid (∀ W, Calls Try.prog 34 #[.agg #[.int .i64 x, .int .i64 y]] W fun e w' => e = .returned (.int .i64 (x + y)) ∧ Below W.heap.size W w') := fun W => behind_is W (by have := HA2.out; exact ⟨by omega, by omega⟩) rfl
          go_upto_region 8 with fail
          by_cases hxu : x + y = u
          · have hd : (x + y == u) = true := by simp [hxu]
            refine wp_region_from (w0 := W1) (by kernel_rfl) (by kernel_rfl) hb1 ?_
            repeat (go_big_quiet_step (first | (go_at_call 34; with_reducible refine from_of (B1.out _))))
            refine wpQuiet_nil ?_
            intro wq hw'
            obtain ⟨⟨wy, hq⟩, hw''⟩ := hw'
            subst hw''
            have b3 := step_below v1 hq
            have own3 := own1.below hq
            obtain ⟨f0, f1⟩ := two_any v0 hq
            simp only [twoF] at f0 f1
            have f2 : wq.cell? ⟨g0, m * 2, none⟩ = some (.int .i64 x) := e2 ⟨wq, hq⟩
            have f3 : wq.cell? ⟨g0, m * 2 + 1, none⟩ = some (.int .i64 y) := e3 ⟨wq, hq⟩
            have f4 : wq.frozen? ⟨g0, m * 2 + 1, none⟩ = false := (World.frozen?_of_block (w := W1) (a := ⟨g0, m * 2 + 1, none⟩) (hq.block g0 hg3)).trans (hfz _)
            have hyt : IntKind.i64.wrap (y + t) = y + t := i64_is (by have := HA2.out; omega)
            have HM3 : Hid (d ++ mergeFrom (x, y + t) (l.drop (k + 1)) = mergeL l) := by have := HM2.out; rwa [if_pos hxu] at this
            have HA3 : Hid (0 ≤ x ∧ 1 ≤ y + t ∧ x + (y + t) ≤ 9223372036854775807 ∧ ordB (x + (y + t)) (l.drop (k + 1)) = true) := by
              obtain ⟨a1, a2, a3, a4, a5, a6⟩ := HA2.out
              exact ⟨a1, by omega, by omega, by rw [show x + (y + t) = u + t by omega]; exact a6⟩
            have OW : Hid (Own (wq.drew.setCell ⟨g0, m * 2 + 1, none⟩ (.int .i64 (y + t))) w.heap.size (.slice (some ⟨g0, 0, none⟩) (m + 1) cp) (d ++ [(x, y + t)])) := by
              have o1 : wq.drew.ownsRow w.heap.size 24 2 (.slice (some ⟨g0, 0, none⟩) (m + 1) cp) (m + 1) (cellsL (d ++ [(x, y)])) := by
                have := own3
                unfold Own at this
                rw [HDL.out, HEM.out] at this
                exact this
              have o2 := own_len_set o1 HDM.out (y + t)
              have es : (d ++ [(x, y)]).set m ((x, y).1, y + t) = d ++ [(x, y + t)] := by rw [← HEM.out]; simp
              rw [es] at o2
              show World.ownsRow _ _ _ _ _ _ _
              rw [show (d ++ [(x, y + t)]).length = m + 1 by rw [← HEM.out]; simp]
              exact o2
            have BW := Lib.hid ((b3.trans ((drew_below wq).mono b3.size)).setCell (p := ⟨g0, m * 2 + 1, none⟩) hg1 (.int .i64 (y + t)))
            clear e0 e1 e2 e3 hb1 v0 v1 own1 hq own3 b3 hpr hfz B1
            go_upto_region 9 with fail
            obtain ⟨M, eM⟩ : ∃ M, m + 1 = M := ⟨_, rfl⟩
            rw [eM] at OW ⊢
            have him2 : 0 ≤ (m : Int) ∧ (m : Int) < (M : Int) := by omega
            clear him hcp hw7 hw8 hacl eM
            refine wp_region_still_tail 10 (by kernel_rfl) (by kernel_rfl) ?_
            simp only [List.take_succ_cons, List.take_zero, List.drop_succ_cons, List.drop_zero]
            change wpStill _ _ wq.drew _ _ _
            repeat still_step
            refine wpStill_nil ?_
            change wpList _ _ _ _ _ wq.drew
            go_wp2
            go_roundw
            case rel => exact ⟨k + 1, _, by omega, by go_num, OW.out, BW.out, by have := HAC.out; show _ ≤ _; simp only [List.length_append, List.length_singleton] at this ⊢; omega, .inr ⟨d, x, y + t, rfl, HM3, HA3⟩⟩
            case measure => (simp [intOf]; try omega)
          · have hd : (x + y == u) = false := by simp [hxu]
            refine wp_region_from (w0 := W1) (by kernel_rfl) (by kernel_rfl) hb1 ?_
            repeat (go_big_quiet_step (first | (go_at_call 34; with_reducible refine from_of (B1.out _))))
            refine wpQuiet_nil ?_
            intro wq hw'
            obtain ⟨⟨wy, hq⟩, hw''⟩ := hw'
            subst hw''
            have b3 := step_below v1 hq
            have own3 := own1.below hq
            obtain ⟨f0, f1⟩ := two_any v0 hq
            simp only [twoF] at f0 f1
            have HM3 : Hid ((d ++ [(x, y)]) ++ mergeFrom (u, t) (l.drop (k + 1)) = mergeL l) := by have := HM2.out; rw [if_neg hxu] at this; rw [List.append_assoc]; exact this
            have HA3 : Hid (0 ≤ u ∧ 1 ≤ t ∧ u + t ≤ 9223372036854775807 ∧ ordB (u + t) (l.drop (k + 1)) = true) := by
              obtain ⟨a1, a2, a3, a4, a5, a6⟩ := HA2.out
              exact ⟨by omega, a4, a5, a6⟩
            clear e0 e1 e2 e3 hb1 v0 v1 own1 hq hpr hfz B1
            go_wp2_with (at_builtin; refine wpList_one (by rfl) (.tmp 42) (.tmp 44) (by rfl) (base := w.heap.size) (v := _) (xs := (d ++ [(x, y)])) (by rfl) ((own3).below (new_below wq _)) (by have := b3.size; simp; omega) ⟨wq.heap.size, 0, none⟩ 1 (z := (u, t)) (by rfl) (one_pairs wq (u) (t)) (by have := HAC.out; omega) ?_; intro vy wy owny hby hgy)
            have b4 := (b3.alloc b3.size (.cells #[.int .i64 u, .int .i64 t] 24)).trans hby
            go_roundw
            case rel => exact ⟨k + 1, _, by omega, by go_num, owny, b4, by have := HAC.out; show _ ≤ _; rw [List.length_append]; simp only [List.length_singleton]; omega, .inr ⟨_, u, t, rfl, HM3, HA3⟩⟩
            case measure => (simp [intOf]; try omega)
      · have HL3 : Hid (acc = mergeL l) := by
          have hdr : l.drop k = [] := List.drop_eq_nil_of_le (by rw [HN.out]; omega)
          rcases hst with ⟨rfl, rfl⟩ | ⟨d, x, y, rfl, HM, _⟩
          · rw [List.drop_zero] at hdr
            rw [hdr]; rfl
          · have := HM.out
            rw [hdr] at this
            rw [← this]; rfl
        have own3 := own
        rw [HL3.out] at own3
        go_wp2
        go_ret2
        exact ⟨_, rfl, own3.spans (by have := HLR.out; omega) HIR.out, hb⟩
end Go.Proofs.Ytppiibdeigjcjaa
