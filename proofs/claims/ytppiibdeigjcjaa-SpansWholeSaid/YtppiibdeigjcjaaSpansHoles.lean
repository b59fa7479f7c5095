/- Layer 8 (spans): what Holes and Gap return, the program's and the document's own: contracts. -/
import Derived.Test.YtppiibdeigjcjaaSpansAdd
namespace Go.Proofs.Ytppiibdeigjcjaa
open Go.RowKit

theorem holes_ints {l : List Sp} {stop : Int} (hs : InInt stop) : ∀ p ∈ holesR l stop, InInt p.1 ∧ InInt p.2 := by
  intro p hp
  unfold holesR at hp
  split at hp
  · rename_i h
    have := holes_ok hs.2 h.1 p hp
    have h2 := hs.2
    exact ⟨⟨by omega, by omega⟩, ⟨by omega, by omega⟩⟩
  · cases hp
set_option maxHeartbeats 1600000 in
theorem holes_is {w : World} {v : Value} {l : List Sp} {stop : Int} (h : SpansIn w v l) (hs : l.length ≤ 1048576) (hst : InInt stop) : Calls Try.prog 28 #[v, .int .i64 stop] w (Made w (holesR l stop)) := by
  have h0 := h
  have HIR := Lib.hid (holes_ints (l := l) hst)
  obtain ⟨⟨A, c, rfl, h1, h2, h3⟩, hi⟩ := h
  have hnot := not_any
  obtain ⟨n, en⟩ : ∃ n, l.length = n := ⟨_, rfl⟩
  obtain ⟨o, eo⟩ : ∃ o, ordB 0 l = o := ⟨_, rfl⟩
  have RS : Hid (Calls Try.prog 13 #[.slice A l.length c] w fun e w' => e = .returned (.bool o) ∧ Below w.heap.size w w') := right_spans h0 eo
  have HLR : Hid ((holesR l stop).length ≤ 1048577) := by have := holesR_length l stop; show _ ≤ _; omega
  obtain ⟨R, eR⟩ : ∃ R, holesR l stop = R := ⟨_, rfl⟩
  rw [eR] at HIR HLR ⊢
  have HRN : Hid (o = false → R = []) := fun ho => by rw [← eR]; unfold holesR; rw [if_neg (fun hh => by rw [eo, ho] at hh; cases hh.1)]
  have HRY : Hid (o = true → holesL stop 0 l = R) := fun ho => by rw [← eR]; exact (holes_less (eo.trans ho)).symm
  rw [en] at RS h1 hs ⊢
  have H3 := Lib.hid h3
  have HN := Lib.hid en
  have HO := Lib.hid eo
  have HST := Lib.hid hst
  clear h0 h1 h2 h3 hi eo en eR hst
  go_enter Try.func28, Try.ntmps28
  go_wp2_with fail
  refine RS.out.mono ?_
  rintro e w1 ⟨rfl, b1⟩
  cases o with
  | false =>
    have e := HRN.out rfl
    subst e
    go_wp2
    go_ret
    exact ⟨_, rfl, SpansIn.nil _, b1⟩
  | true =>
    go_wp2
    go_loopw [5, 6, 14] (fun u a' i wr => ∃ (k : Nat) (a : Int) (acc : List Sp), k ≤ n ∧ i = .int .i64 k ∧ a' = .int .i64 a ∧ Own wr w.heap.size u acc ∧ Below w.heap.size w wr ∧ Hid (0 ≤ a ∧ ordB a (l.drop k) = true) ∧ Hid (acc ++ holesL stop a (l.drop k) = R) ∧ Hid (acc.length ≤ k)) (fun _ _ i _ => n - (intOf i).toNat)
    case atStart => exact ⟨0, 0, [], by omega, rfl, rfl, Own.nil _ _, b1, ⟨Int.le_refl 0, HO.out⟩, HRY.out (by trivial), Nat.le_refl _⟩
    case round =>
      clear b1
      obtain ⟨k, a, acc, hk, rfl, rfl, own, hb, ha, hh, HAC'⟩ := hrel
      have HAC : Hid (acc.length ≤ 1048576) := by have := HAC'.out; show _ ≤ _; omega
      by_cases hlt : k < n
      · obtain ⟨p, hp⟩ : ∃ p, l[k]? = some p := ⟨_, List.getElem?_eq_getElem (by rw [HN.out]; exact hlt)⟩
        obtain ⟨b, off, rfl, hbl, c0, c1⟩ := (H3.out.below hb).one hp
        obtain ⟨x, y⟩ := p
        have hik : 0 ≤ (k : Int) ∧ (k : Int) < (n : Int) := by omega
        have HOP : Hid (ordB a ((x, y) :: l.drop (k + 1)) = true) := by have := ha.out.2; rwa [drop_at hp] at this
        have HH : Hid (acc ++ holesL stop a ((x, y) :: l.drop (k + 1)) = R) := by have := hh.out; rwa [drop_at hp] at this
        have k1 := okB_iff.1 (ordB_cons.1 HOP.out).1
        have K2 : Hid (ordB (x + y) (l.drop (k + 1)) = true) := (ordB_cons.1 HOP.out).2
        simp only at c0 c1 k1
        have K1 := Lib.hid k1
        clear hp hh k1
        go_upto_region 8 with fail
        have v0 := two_lit wr (.int .i64 x) (.int .i64 y) 24
        have hne := own_ne own (Nat.le_refl wr.heap.size)
        have v1 := step_below hb (new_below wr (.cells #[.int .i64 x, .int .i64 y] 24))
        have own1 := own.below (new_below wr (.cells #[.int .i64 x, .int .i64 y] 24))
        obtain ⟨d0, d1⟩ := two_any v0 (Below.refl _ _)
        simp only [twoF] at d0 d1
        have hgl := v0.lt
        clear c0 c1 hb own
        generalize hg0 : wr.heap.size = g at *
        generalize wr.alloc (.cells #[.int .i64 x, .int .i64 y] 24) = W1 at *
        clear hg0
        have V0 := Lib.hid v0
        by_cases hxs : stop ≤ x
        · have HRES : Hid (acc ++ (if a < stop then [(a, stop - a)] else []) = R) := by
            have := HH.out
            rw [holes_stop HOP.out hxs] at this
            exact this
          have hd : decide (stop ≤ x) = true := decide_eq_true hxs
          clear v0
          by_cases has : a < stop
          · have HRR : Hid (acc ++ [(a, stop - a)] = R) := by have := HRES.out; rw [if_pos has] at this; exact this
            have hw2 : IntKind.i64.wrap (stop - a) = stop - a := i64_is (by have := HST.out.2; have := ha.out.1; omega)
            go_wp2_with (at_builtin; refine wpList_one (by rfl) (.tmp 41) (.tmp 47) (by rfl) (base := w.heap.size) (v := _) (xs := acc) (by rfl) ((own1).below (new_below W1 _)) (by have := v1.size; simp; omega) ⟨W1.heap.size, 0, none⟩ 1 (z := (a, stop - a)) (by rfl) (one_pairs W1 (a) (stop - a)) (by have := HAC.out; omega) ?_; intro vz wz ownz hbz hgz)
            go_ret
            rw [HRR.out] at ownz
            exact ⟨_, rfl, ownz.spans (by have := HLR.out; omega) HIR.out, (v1.alloc v1.size _).trans hbz⟩
          · have HRR : Hid (acc = R) := by have := HRES.out; rw [if_neg has, List.append_nil] at this; exact this
            have own9 := own1
            have bel9 := v1
            rw [HRR.out] at own9
            go_wp2
            go_ret
            exact ⟨_, rfl, own9.spans (by have := HLR.out; omega) HIR.out, bel9⟩
        · have hd : decide (stop ≤ x) = false := decide_eq_false hxs
          have HSTEP : Hid (acc ++ (if a < x then (a, x - a) :: holesL stop (x + y) (l.drop (k + 1)) else holesL stop (x + y) (l.drop (k + 1))) = R) := by
            have := HH.out
            rw [holes_step (by simp only; omega)] at this
            exact this
          have HA2 : Hid (0 ≤ x + y ∧ ordB (x + y) (l.drop (k + 1)) = true) := ⟨by have := K1.out; have := ha.out.1; omega, K2.out⟩
          have HXY : Hid (InInt (x + y)) := ⟨by have := K1.out; have := ha.out.1; omega, K1.out.2.2⟩
          clear hxs v0
          by_cases hax : a < x
          · have hd2 : decide (a < x) = true := decide_eq_true hax
            have hw : IntKind.i64.wrap (x - a) = x - a := i64_is (by have := K1.out; have := ha.out.1; omega)
            have HR2 : Hid ((acc ++ [(a, x - a)]) ++ holesL stop (x + y) (l.drop (k + 1)) = R) := by
              have := HSTEP.out
              rw [if_pos hax] at this
              rw [List.append_assoc]; exact this
            clear hax
            go_wp2_with (at_builtin; refine wpList_one (by rfl) (.tmp 26) (.tmp 33) (by rfl) (base := w.heap.size) (v := _) (xs := acc) (by rfl) ((own1).below (new_below W1 _)) (by have := v1.size; simp; omega) ⟨W1.heap.size, 0, none⟩ 1 (z := (a, x - a)) (by rfl) (one_pairs W1 (a) (x - a)) (by have := HAC.out; omega) ?_; intro vy wy owny hby hgy; have e0 : wy.cell? ⟨g, 0, none⟩ = some (.int .i64 x) := hgy.cell (a := ⟨g, 0, none⟩) (((new_below W1 _).cell (p := ⟨g, 0, none⟩) hgl).trans d0) hne; have e1 : wy.cell? ⟨g, 1, none⟩ = some (.int .i64 y) := hgy.cell (a := ⟨g, 1, none⟩) (((new_below W1 _).cell (p := ⟨g, 1, none⟩) hgl).trans d1) hne)
            have v2 := (v1.alloc v1.size (.cells #[.int .i64 a, .int .i64 (x - a)] 24)).trans hby
            clear d0 d1 hby hgy own1 v1 hne
            refine (behind_is _ HXY.out rfl).mono ?_
            rintro e w3 ⟨rfl, b3⟩
            have v3 := step_below v2 b3
            have own3 := owny.below b3
            clear e0 e1
            go_wp2
            go_roundw
            case rel => exact ⟨k + 1, x + y, _, by omega, by go_num, rfl, own3, v3, HA2, HR2, by have := HAC'.out; rw [List.length_append]; show _ + 1 ≤ _; omega⟩
            case measure => simp [intOf]; omega
          · have hd2 : decide (a < x) = false := decide_eq_false hax
            have HR2 : Hid (acc ++ holesL stop (x + y) (l.drop (k + 1)) = R) := by
              have := HSTEP.out
              rw [if_neg hax] at this
              exact this
            clear hax
            go_wp2_with fail
            refine (behind_is _ HXY.out rfl).mono ?_
            rintro e w3 ⟨rfl, b3⟩
            have v3 := step_below v1 b3
            have own3 := own1.below b3
            clear d0 d1
            go_wp2
            go_roundw
            case rel => exact ⟨k + 1, x + y, _, by omega, by go_num, rfl, own3, v3, HA2, HR2, by have := HAC'.out; show _ ≤ _; omega⟩
            case measure => simp [intOf]; omega
      · have HRES : Hid (acc ++ (if a < stop then [(a, stop - a)] else []) = R) := by
          have := hh.out
          rw [List.drop_eq_nil_of_le (by rw [HN.out]; omega)] at this
          exact this
        by_cases has : a < stop
        · have HRR : Hid (acc ++ [(a, stop - a)] = R) := by have := HRES.out; rw [if_pos has] at this; exact this
          have hw2 : IntKind.i64.wrap (stop - a) = stop - a := i64_is (by have := HST.out.2; have := ha.out.1; omega)
          go_wp2_with (at_builtin; refine wpList_one (by rfl) (.tmp 41) (.tmp 47) (by rfl) (base := w.heap.size) (v := _) (xs := acc) (by rfl) ((own).below (new_below wr _)) (by have := hb.size; simp; omega) ⟨wr.heap.size, 0, none⟩ 1 (z := (a, stop - a)) (by rfl) (one_pairs wr (a) (stop - a)) (by have := HAC.out; omega) ?_; intro vz wz ownz hbz hgz)
          go_ret
          rw [HRR.out] at ownz
          exact ⟨_, rfl, ownz.spans (by have := HLR.out; omega) HIR.out, (hb.alloc hb.size _).trans hbz⟩
        · have HRR : Hid (acc = R) := by have := HRES.out; rw [if_neg has, List.append_nil] at this; exact this
          have own9 := own
          have bel9 := hb
          rw [HRR.out] at own9
          go_wp2
          go_ret
          exact ⟨_, rfl, own9.spans (by have := HLR.out; omega) HIR.out, bel9⟩
end Go.Proofs.Ytppiibdeigjcjaa
