/- Layer 8 (spans): what Gap and the document's Gap return: contracts. -/
import Derived.Test.YtppiibdeigjcjaaSpansHoles
namespace Go.Proofs.Ytppiibdeigjcjaa
open Go.RowKit

set_option maxHeartbeats 1600000 in
theorem gap_is {w : World} {v : Value} {l : List Sp} {size stop r : Int} (h : SpansIn w v l) (hs : l.length ≤ 1048576) (hst : InInt stop) (hr : gapR l size stop = r) : Calls Try.prog 22 #[v, .int .i64 size, .int .i64 stop] w fun e w' => e = .returned (.int .i64 r) ∧ Below w.heap.size w w' := by
  have h0 := h
  have hnot := not_any
  obtain ⟨⟨A, c, rfl, _⟩, _⟩ := h
  by_cases h1 : size < 1
  · have HE : Hid (-1 = r) := by show _ = _; rw [← hr]; unfold gapR; rw [if_neg (by omega)]
    clear h0 hs hst hr
    go_enter Try.func22, Try.ntmps22
    go_wp2
    go_ret
    exact ⟨ret_int HE.out, Below.refl _ _⟩
  · have HH := Lib.hid (holes_is h0 hs hst)
    have HR : Hid (gapH size (holesR l stop) = r) := (gapR_is (by omega)).trans hr
    have HLR : Hid ((holesR l stop).length ≤ 1048577) := by have := holesR_length l stop; show _ ≤ _; omega
    generalize holesR l stop = H at *
    have h2 : decide (size < 1) = false := decide_eq_false h1
    clear h0 hs hst hr h1
    go_enter Try.func22, Try.ntmps22
    go_wp2_with fail
    refine HH.out.mono ?_
    rintro e w1 ⟨vh, rfl, hv, b1⟩
    obtain ⟨⟨B, d, rfl, g1, g2, g3⟩, hi⟩ := hv
    obtain ⟨n, en⟩ : ∃ n, H.length = n := ⟨_, rfl⟩
    rw [en] at g1 HLR ⊢
    have hn63 : n ≤ 9223372036854775807 := by have := HLR.out; omega
    have H3 := Lib.hid g3
    have HN := Lib.hid en
    clear g1 g2 g3 hi en
    go_wp2
    go_loopw [15] (fun i wr => ∃ k : Nat, k ≤ n ∧ i = .int .i64 k ∧ Below w1.heap.size w1 wr ∧ Hid (gapH size (H.drop k) = r)) (fun i _ => n - (intOf i).toNat)
    case atStart => exact ⟨0, by omega, rfl, Below.refl _ _, HR⟩
    case round =>
      obtain ⟨k, hk, rfl, hb, hh⟩ := hrel
      by_cases hlt : k < n
      · obtain ⟨p, hp⟩ : ∃ p, H[k]? = some p := ⟨_, List.getElem?_eq_getElem (by rw [HN.out]; exact hlt)⟩
        obtain ⟨b, off, rfl, hbl, c0, c1⟩ := (H3.out.below hb).one hp
        obtain ⟨x, y⟩ := p
        have hik : 0 ≤ (k : Int) ∧ (k : Int) < (n : Int) := by omega
        have HS : Hid ((if size ≤ y then x else gapH size (H.drop (k + 1))) = r) := by have := hh.out; rw [drop_at hp] at this; exact this
        simp only at c0 c1
        clear hp hh
        go_upto_region 6 with fail
        have v0 := two_lit wr (.int .i64 x) (.int .i64 y) 24
        have v1 := step_below hb (new_below wr (.cells #[.int .i64 x, .int .i64 y] 24))
        obtain ⟨d0, d1⟩ := two_any v0 (Below.refl _ _)
        simp only [twoF] at d0 d1
        clear c0 c1 hb v0
        generalize wr.alloc (.cells #[.int .i64 x, .int .i64 y] 24) = W1 at *
        by_cases hsy : size ≤ y
        · have HE : Hid (x = r) := by have := HS.out; rwa [if_pos hsy] at this
          have hd : decide (size ≤ y) = true := decide_eq_true hsy
          go_wp2
          go_ret
          exact ⟨ret_int HE.out, step_below b1 v1⟩
        · have HE : Hid (gapH size (H.drop (k + 1)) = r) := by have := HS.out; rwa [if_neg hsy] at this
          have hd : decide (size ≤ y) = false := decide_eq_false hsy
          go_wp2
          go_roundw
          case rel => exact ⟨k + 1, by omega, by go_num, v1, HE⟩
          case measure => simp [intOf]; omega
      · have HE : Hid (-1 = r) := by
          show _ = _
          rw [← hh.out, List.drop_eq_nil_of_le (by rw [HN.out]; omega)]
          rfl
        go_wp2
        go_ret
        exact ⟨ret_int HE.out, step_below b1 hb⟩
theorem gapL_last (size stop a : Int) : gapL size stop a [] = if a ≤ stop ∧ size ≤ stop - a then a else -1 := rfl
theorem gapL_step (size stop a : Int) (p : Sp) (r : List Sp) : gapL size stop a (p :: r) = if p.1 - a < size then gapL size stop (p.1 + p.2) r else if a ≤ stop ∧ size ≤ stop - a then a else -1 := rfl
theorem ahead_ok {l : List Sp} (h : ordB 0 l = true) : ∀ k, k ≤ l.length → 0 ≤ ahead l k ∧ ahead l k ≤ 9223372036854775807 ∧ ordB (ahead l k) (l.drop k) = true
  | 0, _ => ⟨Int.le_refl 0, by show (0 : Int) ≤ _; omega, h⟩
  | k + 1, hk => by
    obtain ⟨p, hp⟩ : ∃ p, l[k]? = some p := ⟨_, List.getElem?_eq_getElem (by omega)⟩
    obtain ⟨a1, a2, a3⟩ := ahead_ok h k (by omega)
    rw [drop_at hp] at a3
    obtain ⟨a4, a5⟩ := ordB_cons.1 a3
    have a6 := okB_iff.1 a4
    rw [ahead_next hp]
    exact ⟨by omega, by omega, a5⟩
set_option maxHeartbeats 1600000 in
theorem rgap_is {w : World} {v : Value} {l : List Sp} {size stop r : Int} (h : SpansIn w v l) (hs : l.length ≤ 1048576) (hst : InInt stop) (hr : gapR l size stop = r) : Calls Try.prog 23 #[v, .int .i64 size, .int .i64 stop] w fun e w' => e = .returned (.int .i64 r) ∧ Below w.heap.size w w' := by
  have h0 := h
  have hnot := not_any
  obtain ⟨⟨A, c, rfl, h1, h2, h3⟩, hi⟩ := h
  obtain ⟨n, en⟩ : ∃ n, l.length = n := ⟨_, rfl⟩
  obtain ⟨o, eo⟩ : ∃ o, ordB 0 l = o := ⟨_, rfl⟩
  have RS : Hid (Calls Try.prog 14 #[.slice A l.length c] w fun e w' => e = .returned (.bool o) ∧ Below w.heap.size w w') := rright_spans h0 eo
  rw [en] at RS hs ⊢
  have H3 := Lib.hid h3
  have HN := Lib.hid en
  have HO := Lib.hid eo
  have HST := Lib.hid hst
  have HR := Lib.hid hr
  clear h0 h1 h2 h3 hi en eo hst hr
  go_enter Try.func23, Try.ntmps23
  go_wp2_with fail
  refine RS.out.mono ?_
  rintro e w1 ⟨rfl, b1⟩
  cases o with
  | false =>
    have HE : Hid (-1 = r) := by show _ = _; rw [← HR.out]; unfold gapR; rw [if_neg (fun hh => by rw [HO.out] at hh; cases hh.1)]
    go_wp2
    go_ret
    exact ⟨ret_int HE.out, b1⟩
  | true =>
    by_cases hz1 : size < 1
    · have HE : Hid (-1 = r) := by show _ = _; rw [← HR.out]; unfold gapR; rw [if_neg (by omega)]
      have hd1 : decide (size < 1) = true := decide_eq_true hz1
      go_wp2
      go_ret
      exact ⟨ret_int HE.out, b1⟩
    · have hd1 : decide (size < 1) = false := decide_eq_false hz1
      by_cases hz2 : stop < size
      · have HE : Hid (-1 = r) := by show _ = _; rw [← HR.out]; unfold gapR; rw [if_neg (by omega)]
        have hd2 : decide (stop < size) = true := decide_eq_true hz2
        go_wp2
        go_ret
        exact ⟨ret_int HE.out, b1⟩
      · have hd2 : decide (stop < size) = false := decide_eq_false hz2
        have HG0 : Hid (gapL size stop 0 l = r) := by
          have := HR.out
          unfold gapR at this
          rwa [if_pos ⟨HO.out, by omega, by omega⟩] at this
        go_wp2
        go_loopw [7] (fun i wr => ∃ k : Nat, k ≤ n ∧ i = .int .i64 ((k : Int) - 1) ∧ Below w.heap.size w wr ∧ Hid (gapL size stop (ahead l k) (l.drop k) = r)) (fun i _ => n + 1 - (intOf i + 1).toNat)
        case atStart => exact ⟨0, by omega, rfl, b1, HG0⟩
        case round =>
          clear b1
          obtain ⟨k, hk, rfl, hb, HG⟩ := hrel
          have HAT0 : Hid (0 ≤ ahead l k ∧ ahead l k ≤ 9223372036854775807) := by have := ahead_ok HO.out k (by rw [HN.out]; exact hk); exact ⟨this.1, this.2.1⟩
          rcases k with _ | j
          · have HAA : Hid (ahead l 0 = 0) := rfl
            rw [show (((0 : Nat) : Int)) - 1 = -1 by rfl]
            have HAT : Hid ((0 : Int) ≤ 0 ∧ (0 : Int) ≤ 9223372036854775807) := ⟨Int.le_refl 0, by omega⟩
            have hn0 : decide ((-1 : Int) < (n : Int)) = true := decide_eq_true (by omega)
            by_cases hlt : 0 < n
            · obtain ⟨p, hp⟩ : ∃ p, l[0]? = some p := ⟨_, List.getElem?_eq_getElem (by rw [HN.out]; exact hlt)⟩
              obtain ⟨b, off, rfl, hbl, c0, c1⟩ := (H3.out.below hb).one hp
              have HG2 : Hid ((if p.1 - 0 < size then gapL size stop (ahead l (0 + 1)) (l.drop (0 + 1)) else if 0 ≤ stop ∧ size ≤ stop - 0 then 0 else -1) = r) := by
                have := HG.out
                rw [drop_at hp, gapL_step, HAA.out] at this
                rw [ahead_next hp]
                exact this
              have hpo := ordB_mem HO.out p (List.mem_of_getElem? hp)
              obtain ⟨x, y⟩ := p
              simp only at hpo
              have f0 : IntKind.i64.wrap (x) = x := i64_is (by have := HAT.out; exact ⟨by omega, by omega⟩)
              have hn1 : decide (0 < (n : Int)) = true := decide_eq_true (by omega)
              have hn2 : decide (0 < n) = true := decide_eq_true (by omega)
              have hik : 0 ≤ (0 : Int) ∧ (0 : Int) < (n : Int) := by omega
              simp only [Nat.zero_mul, Nat.add_zero] at c0 c1
              simp only at c0 c1 HG2
              clear hp hpo HG
              by_cases f6 : x < size
              · have HE : Hid (gapL size stop (ahead l (0 + 1)) (l.drop (0 + 1)) = r) := by have := HG2.out; rwa [if_pos (by omega)] at this
                have f7 : decide (x < size) = true := decide_eq_true f6
                go_wp2
                go_roundw
                case rel => exact ⟨0 + 1, by omega, by first | go_num | (congr 1; omega) | rfl, hb, HE⟩
                case measure => (simp [intOf]; try omega)
              · have HF : Hid ((if 0 ≤ stop ∧ size ≤ stop - 0 then 0 else -1) = r) := by have := HG2.out; rwa [if_neg (by omega)] at this
                have f7 : decide (x < size) = false := decide_eq_false f6
                have HE : Hid ((0 : Int) = r) := by have := HF.out; rwa [if_pos ⟨by omega, by omega⟩] at this
                have f2 : decide ((0 : Int) ≤ stop) = true := decide_eq_true (by omega)
                have f3 : IntKind.i64.wrap stop = stop := i64_is HST.out
                have f5 : decide (size ≤ stop) = true := decide_eq_true (by omega)
                go_wp2
                go_ret
                exact ⟨ret_int HE.out, hb⟩
            · have HF : Hid ((if 0 ≤ stop ∧ size ≤ stop - 0 then 0 else -1) = r) := by
                have := HG.out
                rw [List.drop_eq_nil_of_le (by rw [HN.out]; omega), gapL_last, HAA.out] at this
                exact this
              have hn1 : decide (0 < (n : Int)) = false := decide_eq_false (by omega)
              have hn2 : decide (0 < n) = false := decide_eq_false (by omega)
              have HE : Hid ((0 : Int) = r) := by have := HF.out; rwa [if_pos ⟨by omega, by omega⟩] at this
              have f2 : decide ((0 : Int) ≤ stop) = true := decide_eq_true (by omega)
              have f3 : IntKind.i64.wrap stop = stop := i64_is HST.out
              have f5 : decide (size ≤ stop) = true := decide_eq_true (by omega)
              go_wp2
              go_ret
              exact ⟨ret_int HE.out, hb⟩
          · obtain ⟨q, hq0⟩ : ∃ q, l[j]? = some q := ⟨_, List.getElem?_eq_getElem (by rw [HN.out]; omega)⟩
            rw [show (((j + 1 : Nat) : Int)) - 1 = (j : Int) by omega]
            obtain ⟨b0, off0, rfl, hc⟩ := (H3.out.below hb).all (by rw [HN.out]; omega)
            have e0 : ∀ q' : From wr, q'.W.cell? ⟨b0, off0 + j * 2, none⟩ = some (.int .i64 q.1) := fun q' => (hc q'.W q'.bel j q hq0).1
            have e1 : ∀ q' : From wr, q'.W.cell? ⟨b0, off0 + j * 2 + 1, none⟩ = some (.int .i64 q.2) := fun q' => (hc q'.W q'.bel j q hq0).2
            have HA1 : Hid (ahead l (j + 1) = q.1 + q.2) := ahead_next hq0
            obtain ⟨u, s⟩ := q
            simp only at e0 e1 HA1
            have hij : 0 ≤ (j : Int) ∧ (j : Int) < (n : Int) := by omega
            have hj0 : decide (0 ≤ (j : Int)) = true := decide_eq_true (by omega)
            have hw : IntKind.i64.wrap (u + s) = u + s := i64_is (by have := HAT0.out; rw [HA1.out] at this; omega)
            have hb1 := Below.refl wr.heap.size wr
            clear hc hq0
            go_upto_region 8 with fail
            refine wp_region_from (w0 := wr) (by kernel_rfl) (by kernel_rfl) hb1 ?_
            repeat (go_big_quiet_step (fail))
            refine wpQuiet_nil ?_
            intro wq hw'
            obtain ⟨⟨wy, hq⟩, hw''⟩ := hw'
            subst hw''
            have hb := step_below hb hq
            clear e0 e1 hb1 hw
            obtain ⟨at_, HAA'⟩ : ∃ at_, Hid (u + s = at_) := ⟨_, rfl⟩
            have HAA : Hid (ahead l (j + 1) = at_) := HA1.out.trans HAA'.out
            have HAT : Hid (0 ≤ at_ ∧ at_ ≤ 9223372036854775807) := by have := HAT0.out; rwa [HAA.out] at this
            rw [show u + s = at_ from HAA'.out]
            have hw1 : IntKind.i64.wrap ((j : Int) + 1) = (j : Int) + 1 := i64_is (by have := HN.out; omega)
            by_cases hlt : (j + 1) < n
            · obtain ⟨p, hp⟩ : ∃ p, l[(j + 1)]? = some p := ⟨_, List.getElem?_eq_getElem (by rw [HN.out]; exact hlt)⟩
              obtain ⟨b, off, eb, hbl, c0, c1⟩ := (H3.out.below hb).one hp
              have HG2 : Hid ((if p.1 - at_ < size then gapL size stop (ahead l ((j + 1) + 1)) (l.drop ((j + 1) + 1)) else if at_ ≤ stop ∧ size ≤ stop - at_ then at_ else -1) = r) := by
                have := HG.out
                rw [drop_at hp, gapL_step, HAA.out] at this
                rw [ahead_next hp]
                exact this
              have hpo := ordB_mem HO.out p (List.mem_of_getElem? hp)
              obtain ⟨x, y⟩ := p
              simp only at hpo
              have f0 : IntKind.i64.wrap (x - at_) = x - at_ := i64_is (by have := HAT.out; exact ⟨by omega, by omega⟩)
              injection eb with eb
              injection eb with eb1 eb2
              subst eb1 eb2
              have hik : 0 ≤ (j : Int) + 1 ∧ (j : Int) + 1 < (n : Int) := by omega
              have hik2 : ((j : Int) + 1).toNat = j + 1 := by omega
              have hn1 : decide ((j : Int) + 1 < (n : Int)) = true := decide_eq_true (by omega)
              have hn2 : decide (j + 1 < n) = true := decide_eq_true (by omega)
              simp only at c0 c1 HG2
              clear hp hpo HG
              by_cases f6 : x - at_ < size
              · have HE : Hid (gapL size stop (ahead l ((j + 1) + 1)) (l.drop ((j + 1) + 1)) = r) := by have := HG2.out; rwa [if_pos (by omega)] at this
                have f7 : decide (x - at_ < size) = true := decide_eq_true f6
                go_wp2
                go_roundw
                case rel => exact ⟨(j + 1) + 1, by omega, by first | go_num | (congr 1; omega) | rfl, hb, HE⟩
                case measure => (simp [intOf]; try omega)
              · have HF : Hid ((if at_ ≤ stop ∧ size ≤ stop - at_ then at_ else -1) = r) := by have := HG2.out; rwa [if_neg (by omega)] at this
                have f7 : decide (x - at_ < size) = false := decide_eq_false f6
                by_cases f1 : at_ ≤ stop
                · have f2 : decide (at_ ≤ stop) = true := decide_eq_true f1
                  have f3 : IntKind.i64.wrap (stop - at_) = stop - at_ := i64_is (by have := HAT.out; have := HST.out.2; omega)
                  by_cases f4 : size ≤ stop - at_
                  · have HE : Hid (at_ = r) := by have := HF.out; rwa [if_pos ⟨f1, by omega⟩] at this
                    have f5 : decide (size ≤ stop - at_) = true := decide_eq_true f4
                    go_wp2
                    go_ret
                    exact ⟨ret_int HE.out, hb⟩
                  · have HE : Hid (-1 = r) := by have := HF.out; rwa [if_neg (fun hh => f4 (by omega))] at this
                    have f5 : decide (size ≤ stop - at_) = false := decide_eq_false f4
                    go_wp2
                    go_ret
                    exact ⟨ret_int HE.out, hb⟩
                · have HE : Hid (-1 = r) := by have := HF.out; rwa [if_neg (fun hh => f1 hh.1)] at this
                  have f2 : decide (at_ ≤ stop) = false := decide_eq_false f1
                  go_wp2
                  go_ret
                  exact ⟨ret_int HE.out, hb⟩
            · have HF : Hid ((if at_ ≤ stop ∧ size ≤ stop - at_ then at_ else -1) = r) := by
                have := HG.out
                rw [List.drop_eq_nil_of_le (by rw [HN.out]; omega), gapL_last, HAA.out] at this
                exact this
              have hn1 : decide ((j : Int) + 1 < (n : Int)) = false := decide_eq_false (by omega)
              have hn2 : decide (j + 1 < n) = false := decide_eq_false (by omega)
              by_cases f1 : at_ ≤ stop
              · have f2 : decide (at_ ≤ stop) = true := decide_eq_true f1
                have f3 : IntKind.i64.wrap (stop - at_) = stop - at_ := i64_is (by have := HAT.out; have := HST.out.2; omega)
                by_cases f4 : size ≤ stop - at_
                · have HE : Hid (at_ = r) := by have := HF.out; rwa [if_pos ⟨f1, by omega⟩] at this
                  have f5 : decide (size ≤ stop - at_) = true := decide_eq_true f4
                  go_wp2
                  go_ret
                  exact ⟨ret_int HE.out, hb⟩
                · have HE : Hid (-1 = r) := by have := HF.out; rwa [if_neg (fun hh => f4 (by omega))] at this
                  have f5 : decide (size ≤ stop - at_) = false := decide_eq_false f4
                  go_wp2
                  go_ret
                  exact ⟨ret_int HE.out, hb⟩
              · have HE : Hid (-1 = r) := by have := HF.out; rwa [if_neg (fun hh => f1 hh.1)] at this
                have f2 : decide (at_ ≤ stop) = false := decide_eq_false f1
                go_wp2
                go_ret
                exact ⟨ret_int HE.out, hb⟩
end Go.Proofs.Ytppiibdeigjcjaa
