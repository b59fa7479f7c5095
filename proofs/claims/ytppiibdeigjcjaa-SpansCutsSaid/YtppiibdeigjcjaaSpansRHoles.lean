/- Layer 8 (spans): what the document's own Holes returns: a contract. -/
import Derived.Test.YtppiibdeigjcjaaSpansHoles
namespace Go.Proofs.Ytppiibdeigjcjaa
open Go.RowKit

set_option maxHeartbeats 3200000 in
theorem rholes_is {w : World} {v : Value} {l : List Sp} {stop : Int} (h : SpansIn w v l) (hs : l.length ≤ 1048576) (hst : InInt stop) : Calls Try.prog 29 #[v, .int .i64 stop] w (Made w (holesR l stop)) := by
  have h0 := h
  have HIR := Lib.hid (holes_ints (l := l) hst)
  obtain ⟨⟨A, c, rfl, h1, h2, h3⟩, hi⟩ := h
  have hnot := not_any
  obtain ⟨n, en⟩ : ∃ n, l.length = n := ⟨_, rfl⟩
  obtain ⟨o, eo⟩ : ∃ o, ordB 0 l = o := ⟨_, rfl⟩
  have RS : Hid (Calls Try.prog 14 #[.slice A l.length c] w fun e w' => e = .returned (.bool o) ∧ Below w.heap.size w w') := rright_spans h0 eo
  have HLR : Hid ((holesR l stop).length ≤ 1048577) := by have := holesR_length l stop; show _ ≤ _; omega
  obtain ⟨R, eR⟩ : ∃ R, holesR l stop = R := ⟨_, rfl⟩
  rw [eR] at HIR HLR ⊢
  have HRN : Hid (¬ (o = true ∧ 1 ≤ stop) → R = []) := fun ho => by rw [← eR]; unfold holesR; rw [if_neg (fun hh => ho ⟨eo.symm.trans hh.1, hh.2⟩)]
  have HRY : Hid (o = true → holesL stop 0 l = R) := fun ho => by rw [← eR]; exact (holes_less (eo.trans ho)).symm
  rw [en] at RS h1 hs ⊢
  have H3 := Lib.hid h3
  have HN := Lib.hid en
  have HO := Lib.hid eo
  have HST := Lib.hid hst
  have HII := Lib.hid hi
  clear h0 h1 h2 h3 hi eo en eR hst
  go_enter Try.func29, Try.ntmps29
  go_wp2_with fail
  refine RS.out.mono ?_
  rintro e w1 ⟨rfl, b1⟩
  cases o with
  | false =>
    have e := HRN.out (fun hh => by cases hh.1)
    subst e
    go_wp2
    go_ret
    exact ⟨_, rfl, SpansIn.nil _, b1⟩
  | true =>
    by_cases hs1 : stop < 1
    · have e := HRN.out (fun hh => by have := hh.2; omega)
      subst e
      have hd1 : decide (stop < 1) = true := decide_eq_true hs1
      go_wp2
      go_ret
      exact ⟨_, rfl, SpansIn.nil _, b1⟩
    · have hd1 : decide (stop < 1) = false := decide_eq_false hs1
      go_wp2
      go_loopw [5, 6, 7] (fun u a' i wr => ∃ (k : Nat) (a : Int) (acc : List Sp), k ≤ n + 1 ∧ i = .int .i64 k ∧ a' = .int .i64 a ∧ Own wr w.heap.size u acc ∧ Below w.heap.size w wr ∧ Hid (k ≤ n → (0 ≤ a ∧ a ≤ 9223372036854775807 ∧ ordB a (l.drop k) = true) ∧ acc ++ holesL stop a (l.drop k) = R) ∧ Hid (k = n + 1 → acc = R) ∧ Hid (acc.length ≤ k)) (fun _ _ i _ => n + 1 - (intOf i).toNat)
      case atStart => exact ⟨0, 0, [], by omega, rfl, rfl, Own.nil _ _, b1, fun _ => ⟨⟨Int.le_refl 0, by omega, HO.out⟩, HRY.out (by trivial)⟩, fun e => by omega, Nat.le_refl _⟩
      case round =>
        clear b1
        obtain ⟨k, a, acc, hk, rfl, rfl, own, hb, HM, HE, HAC⟩ := hrel
        by_cases hlt : k < n
        · obtain ⟨p, hp⟩ : ∃ p, l[k]? = some p := ⟨_, List.getElem?_eq_getElem (by rw [HN.out]; exact hlt)⟩
          obtain ⟨pb, off, rfl, hc⟩ := H3.out.all (by rw [HN.out]; omega)
          have hik : 0 ≤ (k : Int) ∧ (k : Int) < (n : Int) := by omega
          have HPC : Hid (∀ W, Below w.heap.size w W → W.cell? ⟨pb, off + k * 2, none⟩ = some (.int .i64 p.1) ∧ W.cell? ⟨pb, off + k * 2 + 1, none⟩ = some (.int .i64 p.2)) := fun W hW => hc W hW k p hp
          obtain ⟨c0, c1⟩ := hc wr hb k p hp
          obtain ⟨⟨a1, a2, a3⟩, a4⟩ := HM.out (by omega)
          rw [drop_at hp] at a3 a4
          obtain ⟨a5, a6⟩ := ordB_cons.1 a3
          have a7 := okB_iff.1 a5
          have HX : Hid (InInt p.1) := (HII.out p (List.mem_of_getElem? hp)).1
          obtain ⟨x, y⟩ := p
          simp only at c0 c1 HPC HX a6 a7
          have HL : Hid (acc ++ holesL stop a ((x, y) :: l.drop (k + 1)) = R) := a4
          have HAA : Hid (0 ≤ a ∧ a ≤ 9223372036854775807) := ⟨a1, a2⟩
          have HXY : Hid (InInt (x + y)) := ⟨by omega, by omega⟩
          have HA2 : Hid (0 ≤ x + y ∧ x + y ≤ 9223372036854775807 ∧ ordB (x + y) (l.drop (k + 1)) = true) := ⟨by omega, by omega, a6⟩
          clear hp hc a1 a2 a3 a4 a5 a6 a7 HM HE
          by_cases hsx : x < stop
          · skip
            have hmn : min stop x = x := by omega
            have HL2 : Hid (acc ++ (if a < x then (a, x - a) :: holesL stop (x + y) (l.drop (k + 1)) else holesL stop (x + y) (l.drop (k + 1))) = R) := by have := HL.out; rw [holesL] at this; simp only [show min stop x = x from hmn] at this; exact this
            by_cases hax : a < x
            · have hd : decide (a < x) = true := decide_eq_true hax
              have hw : IntKind.i64.wrap (x - a) = x - a := i64_is (by have := HAA.out; have := HST.out; have := HX.out; unfold InInt at *; omega)
              have HL3 : Hid ((acc ++ [(a, x - a)]) ++ holesL stop (x + y) (l.drop (k + 1)) = R) := by have := HL2.out; rw [if_pos hax] at this; rw [List.append_assoc]; exact this
              clear HL2
              go_upto_region 14 with (at_builtin; refine wpList_one (by rfl) (.tmp 37) (.tmp 43) (by rfl) (base := w.heap.size) (v := _) (xs := acc) (by rfl) ((own).below (new_below wr _)) (by have := hb.size; simp; omega) ⟨wr.heap.size, 0, none⟩ 1 (z := (a, x - a)) (by rfl) (one_pairs wr (a) (x - a)) (by have := HAC.out; omega) ?_; intro vy wy owny hby hgy)
              have b2 := (hb.alloc hb.size (.cells #[.int .i64 a, .int .i64 (x - a)] 24)).trans hby
              have c2 : ∀ q : From wy, q.W.cell? ⟨pb, off + k * 2, none⟩ = some (.int .i64 x) := fun q => (HPC.out _ (step_below b2 q.bel)).1
              have c3 : ∀ q : From wy, q.W.cell? ⟨pb, off + k * 2 + 1, none⟩ = some (.int .i64 y) := fun q => (HPC.out _ (step_below b2 q.bel)).2
              have hb1 := Below.refl wy.heap.size wy
              have hw3 : IntKind.i64.wrap (x + y) = x + y := i64_is HXY.out
              clear c0 c1
              refine wp_region_from (w0 := wy) (by kernel_rfl) (by kernel_rfl) hb1 ?_
              repeat (go_big_quiet_step (fail))
              refine wpQuiet_nil ?_
              intro wq hw'
              obtain ⟨⟨wy, hq⟩, hw''⟩ := hw'
              subst hw''
              have own3 := owny.below hq
              have b3 := step_below b2 hq
              go_wp2
              go_roundw
              case rel => exact ⟨k + 1, x + y, _, by omega, by go_num, rfl, own3, b3, fun _ => ⟨HA2.out, HL3.out⟩, fun e => absurd e (by omega), by have := HAC.out; rw [List.length_append]; show _ + 1 ≤ _; omega⟩
              case measure => (simp [intOf]; try omega)
            · have hd : decide (a < x) = false := decide_eq_false hax
              have HL3 : Hid (acc ++ holesL stop (x + y) (l.drop (k + 1)) = R) := by have := HL2.out; rwa [if_neg hax] at this
              have hw3 : IntKind.i64.wrap (x + y) = x + y := i64_is HXY.out
              have c2 : ∀ q : From wr, q.W.cell? ⟨pb, off + k * 2, none⟩ = some (.int .i64 x) := fun q => (HPC.out _ (step_below hb q.bel)).1
              have c3 : ∀ q : From wr, q.W.cell? ⟨pb, off + k * 2 + 1, none⟩ = some (.int .i64 y) := fun q => (HPC.out _ (step_below hb q.bel)).2
              have hb1 := Below.refl wr.heap.size wr
              clear HL2
              go_upto_region 14 with fail
              refine wp_region_from (w0 := wr) (by kernel_rfl) (by kernel_rfl) hb1 ?_
              repeat (go_big_quiet_step (fail))
              refine wpQuiet_nil ?_
              intro wq hw'
              obtain ⟨⟨wy, hq⟩, hw''⟩ := hw'
              subst hw''
              have own3 := own.below hq
              have b3 := step_below hb hq
              go_wp2
              go_roundw
              case rel => exact ⟨k + 1, x + y, _, by omega, by go_num, rfl, own3, b3, fun _ => ⟨HA2.out, HL3.out⟩, fun e => absurd e (by omega), by have := HAC.out; show _ ≤ _; omega⟩
              case measure => (simp [intOf]; try omega)
          · skip
            have hmn : min stop x = stop := by omega
            have HL2 : Hid (acc ++ (if a < stop then (a, stop - a) :: holesL stop (x + y) (l.drop (k + 1)) else holesL stop (x + y) (l.drop (k + 1))) = R) := by have := HL.out; rw [holesL] at this; simp only [show min stop x = stop from hmn] at this; exact this
            by_cases hax : a < stop
            · have hd : decide (a < stop) = true := decide_eq_true hax
              have hw : IntKind.i64.wrap (stop - a) = stop - a := i64_is (by have := HAA.out; have := HST.out; have := HX.out; unfold InInt at *; omega)
              have HL3 : Hid ((acc ++ [(a, stop - a)]) ++ holesL stop (x + y) (l.drop (k + 1)) = R) := by have := HL2.out; rw [if_pos hax] at this; rw [List.append_assoc]; exact this
              clear HL2
              go_upto_region 14 with (at_builtin; refine wpList_one (by rfl) (.tmp 37) (.tmp 43) (by rfl) (base := w.heap.size) (v := _) (xs := acc) (by rfl) ((own).below (new_below wr _)) (by have := hb.size; simp; omega) ⟨wr.heap.size, 0, none⟩ 1 (z := (a, stop - a)) (by rfl) (one_pairs wr (a) (stop - a)) (by have := HAC.out; omega) ?_; intro vy wy owny hby hgy)
              have b2 := (hb.alloc hb.size (.cells #[.int .i64 a, .int .i64 (stop - a)] 24)).trans hby
              have c2 : ∀ q : From wy, q.W.cell? ⟨pb, off + k * 2, none⟩ = some (.int .i64 x) := fun q => (HPC.out _ (step_below b2 q.bel)).1
              have c3 : ∀ q : From wy, q.W.cell? ⟨pb, off + k * 2 + 1, none⟩ = some (.int .i64 y) := fun q => (HPC.out _ (step_below b2 q.bel)).2
              have hb1 := Below.refl wy.heap.size wy
              have hw3 : IntKind.i64.wrap (x + y) = x + y := i64_is HXY.out
              clear c0 c1
              refine wp_region_from (w0 := wy) (by kernel_rfl) (by kernel_rfl) hb1 ?_
              repeat (go_big_quiet_step (fail))
              refine wpQuiet_nil ?_
              intro wq hw'
              obtain ⟨⟨wy, hq⟩, hw''⟩ := hw'
              subst hw''
              have own3 := owny.below hq
              have b3 := step_below b2 hq
              go_wp2
              go_roundw
              case rel => exact ⟨k + 1, x + y, _, by omega, by go_num, rfl, own3, b3, fun _ => ⟨HA2.out, HL3.out⟩, fun e => absurd e (by omega), by have := HAC.out; rw [List.length_append]; show _ + 1 ≤ _; omega⟩
              case measure => (simp [intOf]; try omega)
            · have hd : decide (a < stop) = false := decide_eq_false hax
              have HL3 : Hid (acc ++ holesL stop (x + y) (l.drop (k + 1)) = R) := by have := HL2.out; rwa [if_neg hax] at this
              have hw3 : IntKind.i64.wrap (x + y) = x + y := i64_is HXY.out
              have c2 : ∀ q : From wr, q.W.cell? ⟨pb, off + k * 2, none⟩ = some (.int .i64 x) := fun q => (HPC.out _ (step_below hb q.bel)).1
              have c3 : ∀ q : From wr, q.W.cell? ⟨pb, off + k * 2 + 1, none⟩ = some (.int .i64 y) := fun q => (HPC.out _ (step_below hb q.bel)).2
              have hb1 := Below.refl wr.heap.size wr
              clear HL2
              go_upto_region 14 with fail
              refine wp_region_from (w0 := wr) (by kernel_rfl) (by kernel_rfl) hb1 ?_
              repeat (go_big_quiet_step (fail))
              refine wpQuiet_nil ?_
              intro wq hw'
              obtain ⟨⟨wy, hq⟩, hw''⟩ := hw'
              subst hw''
              have own3 := own.below hq
              have b3 := step_below hb hq
              go_wp2
              go_roundw
              case rel => exact ⟨k + 1, x + y, _, by omega, by go_num, rfl, own3, b3, fun _ => ⟨HA2.out, HL3.out⟩, fun e => absurd e (by omega), by have := HAC.out; show _ ≤ _; omega⟩
              case measure => (simp [intOf]; try omega)
        · by_cases hkn : k = n
          · subst hkn
            obtain ⟨⟨a1, a2, _⟩, a4⟩ := HM.out (by omega)
            rw [List.drop_eq_nil_of_le (by rw [HN.out]; omega)] at a4
            have HL2 : Hid (acc ++ (if a < stop then [(a, stop - a)] else []) = R) := a4
            have HAA : Hid (0 ≤ a ∧ a ≤ 9223372036854775807) := ⟨a1, a2⟩
            clear a1 a2 a4 HM HE
            have hkk : decide ((k : Int) < (k : Int)) = false := by simp
            have hkk2 : decide ((k : Int) ≤ (k : Int)) = true := by simp
            by_cases hax : a < stop
            · have hd : decide (a < stop) = true := decide_eq_true hax
              have hw : IntKind.i64.wrap (stop - a) = stop - a := i64_is (by have := HAA.out; have := HST.out; unfold InInt at *; omega)
              have HL3 : Hid (acc ++ [(a, stop - a)] = R) := by have := HL2.out; rwa [if_pos hax] at this
              go_wp2_with (at_builtin; refine wpList_one (by rfl) (.tmp 37) (.tmp 43) (by rfl) (base := w.heap.size) (v := _) (xs := acc) (by rfl) ((own).below (new_below wr _)) (by have := hb.size; simp; omega) ⟨wr.heap.size, 0, none⟩ 1 (z := (a, stop - a)) (by rfl) (one_pairs wr (a) (stop - a)) (by have := HAC.out; omega) ?_; intro vy wy owny hby hgy)
              have b2 := (hb.alloc hb.size (.cells #[.int .i64 a, .int .i64 (stop - a)] 24)).trans hby
              go_roundw
              case rel => exact ⟨k + 1, a, _, by omega, by go_num, rfl, owny, b2, fun e => absurd e (by omega), fun _ => HL3.out, by have := HAC.out; rw [List.length_append]; show _ + 1 ≤ _; omega⟩
              case measure => (simp [intOf]; try omega)
            · have hd : decide (a < stop) = false := decide_eq_false hax
              have HL3 : Hid (acc = R) := by have := HL2.out; rwa [if_neg hax, List.append_nil] at this
              go_wp2
              go_roundw
              case rel => exact ⟨k + 1, a, _, by omega, by go_num, rfl, own, hb, fun e => absurd e (by omega), fun _ => HL3.out, by have := HAC.out; show _ ≤ _; omega⟩
              case measure => (simp [intOf]; try omega)
          · have hkn1 : k = n + 1 := by omega
            have HL3 : Hid (acc = R) := HE.out hkn1
            have hkk2 : decide ((k : Int) ≤ (n : Int)) = false := by simp; omega
            have own3 := own
            rw [HL3.out] at own3
            go_wp2
            go_ret
            exact ⟨_, rfl, own3.spans (by have := HLR.out; omega) HIR.out, hb⟩
end Go.Proofs.Ytppiibdeigjcjaa
