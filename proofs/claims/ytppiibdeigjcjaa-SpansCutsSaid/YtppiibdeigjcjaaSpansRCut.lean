/- Layer 8 (spans): what the document's own Cut returns: a contract. -/
import Derived.Test.YtppiibdeigjcjaaSpansCut
namespace Go.Proofs.Ytppiibdeigjcjaa
open Go.RowKit

theorem rcut_ints {l : List Sp} {x n : Int} (h : cutB l x n = true) (hx : x ≤ 9223372036854775807) : ∀ p ∈ cutR l x n, InInt p.1 ∧ InInt p.2 := by
  obtain ⟨ho, h1, h2⟩ := cutB_iff.1 h
  unfold cutR
  split
  · exact fun p hp => by have := ordB_mem ho p hp; exact ⟨⟨by omega, by omega⟩, ⟨by omega, by omega⟩⟩
  · rename_i h3
    intro p hp
    rcases stopI_le hx (show 0 < n by omega) with hlt | ⟨e1, e2⟩
    · have := ordB_mem (cut_ok hlt ho).1 p hp
      exact ⟨⟨by omega, by omega⟩, ⟨by omega, by omega⟩⟩
    · rw [e2, e1, cut_top ho] at hp
      have := ordB_mem ho p hp
      exact ⟨⟨by omega, by omega⟩, ⟨by omega, by omega⟩⟩
set_option maxHeartbeats 1600000 in
theorem rcut_is {w : World} {v : Value} {l : List Sp} {x nn : Int} {b : Bool} (h : SpansIn w v l) (hs : l.length ≤ 1048576) (hx : InInt x) (hn : InInt nn) (hb : cutB l x nn = b) : Calls Try.prog 27 #[v, .int .i64 x, .int .i64 nn] w (MadeB w (cutV l x nn b) b) := by
  have h0 := h
  obtain ⟨⟨A, c, rfl, h1, h2, h3⟩, hi⟩ := h
  have hnot := not_any
  obtain ⟨n, en⟩ : ∃ n, l.length = n := ⟨_, rfl⟩
  obtain ⟨o, eo⟩ : ∃ o, ordB 0 l = o := ⟨_, rfl⟩
  have RS : Hid (Calls Try.prog 14 #[.slice A l.length c] w fun e w' => e = .returned (.bool o) ∧ Below w.heap.size w w') := rright_spans h0 eo
  have HS0 : Hid (∀ W, Below w.heap.size w W → SpansIn W (.slice A n c) l) := fun W hW => by have := h0.below hW; rwa [en] at this
  rw [en] at RS hs ⊢
  have HP3 := Lib.hid h3
  have HN := Lib.hid en
  have HO := Lib.hid eo
  have HX := Lib.hid hx
  have HNN := Lib.hid hn
  have HB' : Hid (cutB l x nn = b) := hb
  clear h0 h1 h2 h3 hi eo hb hx hn en
  go_enter Try.func27, Try.ntmps27
  go_wp2_with fail
  refine RS.out.mono ?_
  rintro e0 w1 ⟨rfl, b1⟩
  cases o with
  | false =>
    have hbb : b = false := by rw [← HB'.out]; unfold cutB; rw [HO.out]; rfl
    subst hbb
    go_wp2
    go_ret2
    exact ⟨_, rfl, SpansIn.nil _, b1⟩
  | true =>
    by_cases hx0 : x < 0
    · have hbb : b = false := by rw [← HB'.out]; unfold cutB; rw [decide_eq_false (show ¬ 0 ≤ x by omega), Bool.and_false]; rfl
      subst hbb
      have hd1 : decide (x < 0) = true := decide_eq_true hx0
      go_wp2
      go_ret2
      exact ⟨_, rfl, SpansIn.nil _, b1⟩
    · have hd1 : decide (x < 0) = false := decide_eq_false hx0
      by_cases hn0 : nn < 0
      · have hbb : b = false := by rw [← HB'.out]; unfold cutB; rw [decide_eq_false (show ¬ 0 ≤ nn by omega), Bool.and_false]
        subst hbb
        have hd2 : decide (nn < 0) = true := decide_eq_true hn0
        go_wp2
        go_ret2
        exact ⟨_, rfl, SpansIn.nil _, b1⟩
      · have hd2 : decide (nn < 0) = false := decide_eq_false hn0
        have hbb : b = true := HB'.out.symm.trans (cutB_iff.2 ⟨HO.out, by omega, by omega⟩)
        subst hbb
        by_cases hnz : nn = 0
        · subst hnz
          have HCV : Hid (cutV l x 0 true = l) := rfl
          have HL := Lib.hid (HS0.out _ b1)
          go_wp2
          go_ret2
          exact ⟨_, rfl, by rw [HCV.out]; exact HL.out, b1⟩
        · have hd3 : (nn == 0) = false := by simp [hnz]
          have HIR := Lib.hid (rcut_ints HB'.out HX.out.2)
          have HLR : Hid ((cutR l x nn).length ≤ 2097152) := by have := cutR_length l x nn; have := HN.out; show _ ≤ _; omega
          obtain ⟨R, eR⟩ : ∃ R, cutR l x nn = R := ⟨_, rfl⟩
          have HCV : Hid (cutV l x nn true = R) := eR
          rw [eR] at HIR HLR
          obtain ⟨e, ee⟩ : ∃ e, stopI x nn = e := ⟨_, rfl⟩
          have HR0 : Hid (cutL x e l = R) := by show _ = _; rw [← eR]; unfold cutR; rw [if_neg hnz, ee]
          have hadd := fun W => radd_any x nn W HX.out.1 HX.out.2 HNN.out.1 HNN.out.2
          obtain ⟨fb, efb⟩ : ∃ fb, fitB (x + nn) = fb := ⟨_, rfl⟩
          obtain ⟨fv, efv⟩ : ∃ fv, fitV (x + nn) = fv := ⟨_, rfl⟩
          rw [efb, efv] at hadd
          have HADD := Lib.hid hadd
          have HTE : Hid (fb = true → fv = e) := fun hh => by
            rw [← efv, fitV_yes (efb.trans hh), ← ee]
            unfold stopI
            rw [if_pos (fitB_iff.1 (efb.trans hh)).2]
          have HFE : Hid (fb = false → e = 9223372036854775807) := fun hh => by
            rw [← ee]
            unfold stopI
            rw [if_neg]
            intro h5
            have : fitB (x + nn) = true := fitB_yes (by omega) h5
            rw [efb, hh] at this
            cases this
          have HEE : Hid (0 ≤ e ∧ e ≤ 9223372036854775807 ∧ 0 ≤ x) := by
            have := HX.out.2
            rw [← ee]
            unfold stopI
            split <;> exact ⟨by omega, by omega, by omega⟩
          clear hadd efb efv ee eR hnz
          go_wp2
          go_loopw [8, 9] (fun u i wr => ∃ (k : Nat) (acc : List Sp), k ≤ n ∧ i = .int .i64 k ∧ Own wr w.heap.size u acc ∧ Below w.heap.size w wr ∧ Hid (acc ++ cutL x e (l.drop k) = R) ∧ Hid (acc.length ≤ 2 * k)) (fun _ i _ => n - (intOf i).toNat)
          case atStart => exact ⟨0, [], by omega, rfl, Own.nil _ _, b1, HR0.out, Nat.zero_le _⟩
          case round =>
            clear b1
            obtain ⟨k, acc, hk, rfl, own, hb, hh, HAC⟩ := hrel
            by_cases hlt : k < n
            · obtain ⟨p, hp⟩ : ∃ p, l[k]? = some p := ⟨_, List.getElem?_eq_getElem (by rw [HN.out]; exact hlt)⟩
              obtain ⟨pb, off, rfl, hbl, c0, c1⟩ := (HP3.out.below hb).one hp
              have hik : 0 ≤ (k : Int) ∧ (k : Int) < (n : Int) := by omega
              have hpo := ordB_mem HO.out p (List.mem_of_getElem? hp)
              obtain ⟨u, t⟩ := p
              simp only at c0 c1 hpo
              have KO : Hid (0 ≤ u ∧ 1 ≤ t ∧ u + t ≤ 9223372036854775807 ∧ 0 ≤ x ∧ x ≤ 9223372036854775807 ∧ 0 ≤ e ∧ e ≤ 9223372036854775807) := ⟨hpo.1, hpo.2.1, hpo.2.2, HEE.out.2.2, HX.out.2, HEE.out.1, HEE.out.2.1⟩
              have HL : Hid (acc ++ (headP x (u, t) ++ tailP e (u, t) ++ cutL x e (l.drop (k + 1))) = R) := by have := hh.out; rw [drop_at hp] at this; exact this
              clear hp hh hpo
              go_upto_region 10 with fail
              have v0 := two_lit wr (.int .i64 u) (.int .i64 t) 24
              have hne := own_ne own (Nat.le_refl wr.heap.size)
              have v1 := step_below hb (new_below wr (.cells #[.int .i64 u, .int .i64 t] 24))
              have own1 := own.below (new_below wr (.cells #[.int .i64 u, .int .i64 t] 24))
              obtain ⟨d0, d1⟩ := two_any v0 (Below.refl _ _)
              simp only [twoF] at d0 d1
              have hgl := v0.lt
              clear c0 c1 hb own
              generalize wr.heap.size = g at *
              generalize wr.alloc (.cells #[.int .i64 u, .int .i64 t] 24) = W1 at *
              clear v0
              by_cases hux : u < x
              · have hd4 : decide (u < x) = true := decide_eq_true hux
                have hwm : IntKind.i64.wrap (x - u) = x - u := i64_is (by have := KO.out; omega)
                by_cases htm : t ≤ x - u
                · skip
                  have hmn : min t (x - u) = t := by omega
                  have HHP : Hid (headP x (u, t) = [(u, t)]) := by show _ = _; unfold headP; rw [if_pos hux]; simp only [hmn]
                  go_upto_region 12 with (at_builtin; refine wpList_one (by rfl) (.tmp 42) (.tmp 53) (by rfl) (base := w.heap.size) (v := _) (xs := acc) (by rfl) ((own1).below (new_below W1 _)) (by have := v1.size; simp; omega) ⟨W1.heap.size, 0, none⟩ 1 (z := (u, t)) (by rfl) (one_pairs W1 (u) (t)) (by have := HAC.out; omega) ?_; intro vy wy owny hby hgy; have e0 : wy.cell? ⟨g, 0, none⟩ = some (.int .i64 u) := hgy.cell (a := ⟨g, 0, none⟩) (((new_below W1 _).cell (p := ⟨g, 0, none⟩) hgl).trans d0) hne; have e1 : wy.cell? ⟨g, 1, none⟩ = some (.int .i64 t) := hgy.cell (a := ⟨g, 1, none⟩) (((new_below W1 _).cell (p := ⟨g, 1, none⟩) hgl).trans d1) hne)
                  have b5 := (v1.alloc v1.size (.cells #[.int .i64 u, .int .i64 (t)] 24)).trans hby
                  clear d0 d1 own1 v1 hby hgy hne
                  go_wp2_with fail
                  refine (HADD.out _).mono ?_
                  rintro e2 w4 ⟨rfl, rfl⟩
                  cases fb with
                  | false =>
                    have HT : Hid (tailP e (u, t) = []) := by show _ = _; unfold tailP; rw [if_neg]; have := HFE.out rfl; have := KO.out; simp only; omega
                    have HL3 : Hid ((acc ++ [(u, t)]) ++ cutL x e (l.drop (k + 1)) = R) := by have := HL.out; rw [HHP.out, HT.out] at this; show _ = _; simpa using this
                    go_wp2
                    go_roundw
                    case rel => exact ⟨k + 1, (acc ++ [(u, t)]), by omega, by go_num, owny, b5, HL3, by have := HAC.out; show _ ≤ _; (try simp only [List.length_append, List.length_singleton]); omega⟩
                    case measure => (simp [intOf]; try omega)
                  | true =>
                    have hve : e = fv := (HTE.out rfl).symm
                    subst hve
                    by_cases hes : e < u + t
                    · have hd5 : decide (e < u + t) = true := decide_eq_true hes
                      have hws : IntKind.i64.wrap (u + t) = u + t := i64_is (by have := KO.out; omega)
                      by_cases heu : e ≤ u
                      · have HT : Hid (tailP e (u, t) = [(u, u + t - u)]) := by show _ = _; unfold tailP; rw [if_pos (by simp only; omega)]; simp only [show max u e = u by omega]
                        have HL3 : Hid (((acc ++ [(u, t)]) ++ [(u, u + t - u)]) ++ cutL x e (l.drop (k + 1)) = R) := by have := HL.out; rw [HHP.out, HT.out] at this; show _ = _; simpa using this
                        have hmx : max u e = u := by omega
                        have hwt : IntKind.i64.wrap (u + t - u) = u + t - u := i64_is (by have := KO.out; omega)
                        go_wp2_with (at_builtin; refine wpList_one (by rfl) (.tmp 75) (.tmp 85) (by rfl) (base := w.heap.size) (v := _) (xs := (acc ++ [(u, t)])) (by rfl) ((owny).below (new_below wy _)) (by have := b5.size; simp; omega) ⟨wy.heap.size, 0, none⟩ 1 (z := (u, u + t - u)) (by rfl) (one_pairs wy (u) (u + t - u)) (by have := HAC.out; (try simp only [List.length_append, List.length_singleton]); omega) ?_; intro vz wz ownz hbz hgz)
                        have b8 := (b5.alloc b5.size (.cells #[.int .i64 u, .int .i64 (u + t - u)] 24)).trans hbz
                        go_wp2
                        go_roundw
                        case rel => exact ⟨k + 1, _, by omega, by go_num, ownz, b8, HL3, by have := HAC.out; show _ ≤ _; (try simp only [List.length_append, List.length_singleton]); omega⟩
                        case measure => (simp [intOf]; try omega)
                      · have HT : Hid (tailP e (u, t) = [(e, u + t - e)]) := by show _ = _; unfold tailP; rw [if_pos (by simp only; omega)]; simp only [show max u e = e by omega]
                        have HL3 : Hid (((acc ++ [(u, t)]) ++ [(e, u + t - e)]) ++ cutL x e (l.drop (k + 1)) = R) := by have := HL.out; rw [HHP.out, HT.out] at this; show _ = _; simpa using this
                        have hmx : max u e = e := by omega
                        have hwt : IntKind.i64.wrap (u + t - e) = u + t - e := i64_is (by have := KO.out; omega)
                        go_wp2_with (at_builtin; refine wpList_one (by rfl) (.tmp 75) (.tmp 85) (by rfl) (base := w.heap.size) (v := _) (xs := (acc ++ [(u, t)])) (by rfl) ((owny).below (new_below wy _)) (by have := b5.size; simp; omega) ⟨wy.heap.size, 0, none⟩ 1 (z := (e, u + t - e)) (by rfl) (one_pairs wy (e) (u + t - e)) (by have := HAC.out; (try simp only [List.length_append, List.length_singleton]); omega) ?_; intro vz wz ownz hbz hgz)
                        have b8 := (b5.alloc b5.size (.cells #[.int .i64 e, .int .i64 (u + t - e)] 24)).trans hbz
                        go_wp2
                        go_roundw
                        case rel => exact ⟨k + 1, _, by omega, by go_num, ownz, b8, HL3, by have := HAC.out; show _ ≤ _; (try simp only [List.length_append, List.length_singleton]); omega⟩
                        case measure => (simp [intOf]; try omega)
                    · have hd5 : decide (e < u + t) = false := decide_eq_false hes
                      have hws : IntKind.i64.wrap (u + t) = u + t := i64_is (by have := KO.out; omega)
                      have HT : Hid (tailP e (u, t) = []) := by show _ = _; unfold tailP; rw [if_neg (by simp only; omega)]
                      have HL3 : Hid ((acc ++ [(u, t)]) ++ cutL x e (l.drop (k + 1)) = R) := by have := HL.out; rw [HHP.out, HT.out] at this; show _ = _; simpa using this
                      go_wp2
                      go_roundw
                      case rel => exact ⟨k + 1, (acc ++ [(u, t)]), by omega, by go_num, owny, b5, HL3, by have := HAC.out; show _ ≤ _; (try simp only [List.length_append, List.length_singleton]); omega⟩
                      case measure => (simp [intOf]; try omega)
                · skip
                  have hmn : min t (x - u) = x - u := by omega
                  have HHP : Hid (headP x (u, t) = [(u, x - u)]) := by show _ = _; unfold headP; rw [if_pos hux]; simp only [hmn]
                  go_upto_region 12 with (at_builtin; refine wpList_one (by rfl) (.tmp 42) (.tmp 53) (by rfl) (base := w.heap.size) (v := _) (xs := acc) (by rfl) ((own1).below (new_below W1 _)) (by have := v1.size; simp; omega) ⟨W1.heap.size, 0, none⟩ 1 (z := (u, x - u)) (by rfl) (one_pairs W1 (u) (x - u)) (by have := HAC.out; omega) ?_; intro vy wy owny hby hgy; have e0 : wy.cell? ⟨g, 0, none⟩ = some (.int .i64 u) := hgy.cell (a := ⟨g, 0, none⟩) (((new_below W1 _).cell (p := ⟨g, 0, none⟩) hgl).trans d0) hne; have e1 : wy.cell? ⟨g, 1, none⟩ = some (.int .i64 t) := hgy.cell (a := ⟨g, 1, none⟩) (((new_below W1 _).cell (p := ⟨g, 1, none⟩) hgl).trans d1) hne)
                  have b5 := (v1.alloc v1.size (.cells #[.int .i64 u, .int .i64 (x - u)] 24)).trans hby
                  clear d0 d1 own1 v1 hby hgy hne
                  go_wp2_with fail
                  refine (HADD.out _).mono ?_
                  rintro e2 w4 ⟨rfl, rfl⟩
                  cases fb with
                  | false =>
                    have HT : Hid (tailP e (u, t) = []) := by show _ = _; unfold tailP; rw [if_neg]; have := HFE.out rfl; have := KO.out; simp only; omega
                    have HL3 : Hid ((acc ++ [(u, x - u)]) ++ cutL x e (l.drop (k + 1)) = R) := by have := HL.out; rw [HHP.out, HT.out] at this; show _ = _; simpa using this
                    go_wp2
                    go_roundw
                    case rel => exact ⟨k + 1, (acc ++ [(u, x - u)]), by omega, by go_num, owny, b5, HL3, by have := HAC.out; show _ ≤ _; (try simp only [List.length_append, List.length_singleton]); omega⟩
                    case measure => (simp [intOf]; try omega)
                  | true =>
                    have hve : e = fv := (HTE.out rfl).symm
                    subst hve
                    by_cases hes : e < u + t
                    · have hd5 : decide (e < u + t) = true := decide_eq_true hes
                      have hws : IntKind.i64.wrap (u + t) = u + t := i64_is (by have := KO.out; omega)
                      by_cases heu : e ≤ u
                      · have HT : Hid (tailP e (u, t) = [(u, u + t - u)]) := by show _ = _; unfold tailP; rw [if_pos (by simp only; omega)]; simp only [show max u e = u by omega]
                        have HL3 : Hid (((acc ++ [(u, x - u)]) ++ [(u, u + t - u)]) ++ cutL x e (l.drop (k + 1)) = R) := by have := HL.out; rw [HHP.out, HT.out] at this; show _ = _; simpa using this
                        have hmx : max u e = u := by omega
                        have hwt : IntKind.i64.wrap (u + t - u) = u + t - u := i64_is (by have := KO.out; omega)
                        go_wp2_with (at_builtin; refine wpList_one (by rfl) (.tmp 75) (.tmp 85) (by rfl) (base := w.heap.size) (v := _) (xs := (acc ++ [(u, x - u)])) (by rfl) ((owny).below (new_below wy _)) (by have := b5.size; simp; omega) ⟨wy.heap.size, 0, none⟩ 1 (z := (u, u + t - u)) (by rfl) (one_pairs wy (u) (u + t - u)) (by have := HAC.out; (try simp only [List.length_append, List.length_singleton]); omega) ?_; intro vz wz ownz hbz hgz)
                        have b8 := (b5.alloc b5.size (.cells #[.int .i64 u, .int .i64 (u + t - u)] 24)).trans hbz
                        go_wp2
                        go_roundw
                        case rel => exact ⟨k + 1, _, by omega, by go_num, ownz, b8, HL3, by have := HAC.out; show _ ≤ _; (try simp only [List.length_append, List.length_singleton]); omega⟩
                        case measure => (simp [intOf]; try omega)
                      · have HT : Hid (tailP e (u, t) = [(e, u + t - e)]) := by show _ = _; unfold tailP; rw [if_pos (by simp only; omega)]; simp only [show max u e = e by omega]
                        have HL3 : Hid (((acc ++ [(u, x - u)]) ++ [(e, u + t - e)]) ++ cutL x e (l.drop (k + 1)) = R) := by have := HL.out; rw [HHP.out, HT.out] at this; show _ = _; simpa using this
                        have hmx : max u e = e := by omega
                        have hwt : IntKind.i64.wrap (u + t - e) = u + t - e := i64_is (by have := KO.out; omega)
                        go_wp2_with (at_builtin; refine wpList_one (by rfl) (.tmp 75) (.tmp 85) (by rfl) (base := w.heap.size) (v := _) (xs := (acc ++ [(u, x - u)])) (by rfl) ((owny).below (new_below wy _)) (by have := b5.size; simp; omega) ⟨wy.heap.size, 0, none⟩ 1 (z := (e, u + t - e)) (by rfl) (one_pairs wy (e) (u + t - e)) (by have := HAC.out; (try simp only [List.length_append, List.length_singleton]); omega) ?_; intro vz wz ownz hbz hgz)
                        have b8 := (b5.alloc b5.size (.cells #[.int .i64 e, .int .i64 (u + t - e)] 24)).trans hbz
                        go_wp2
                        go_roundw
                        case rel => exact ⟨k + 1, _, by omega, by go_num, ownz, b8, HL3, by have := HAC.out; show _ ≤ _; (try simp only [List.length_append, List.length_singleton]); omega⟩
                        case measure => (simp [intOf]; try omega)
                    · have hd5 : decide (e < u + t) = false := decide_eq_false hes
                      have hws : IntKind.i64.wrap (u + t) = u + t := i64_is (by have := KO.out; omega)
                      have HT : Hid (tailP e (u, t) = []) := by show _ = _; unfold tailP; rw [if_neg (by simp only; omega)]
                      have HL3 : Hid ((acc ++ [(u, x - u)]) ++ cutL x e (l.drop (k + 1)) = R) := by have := HL.out; rw [HHP.out, HT.out] at this; show _ = _; simpa using this
                      go_wp2
                      go_roundw
                      case rel => exact ⟨k + 1, (acc ++ [(u, x - u)]), by omega, by go_num, owny, b5, HL3, by have := HAC.out; show _ ≤ _; (try simp only [List.length_append, List.length_singleton]); omega⟩
                      case measure => (simp [intOf]; try omega)
              · have hd4 : decide (u < x) = false := decide_eq_false hux
                have HHP : Hid (headP x (u, t) = []) := by show _ = _; unfold headP; rw [if_neg hux]
                go_wp2_with fail
                refine (HADD.out _).mono ?_
                rintro e2 w4 ⟨rfl, rfl⟩
                cases fb with
                | false =>
                  have HT : Hid (tailP e (u, t) = []) := by show _ = _; unfold tailP; rw [if_neg]; have := HFE.out rfl; have := KO.out; simp only; omega
                  have HL3 : Hid (acc ++ cutL x e (l.drop (k + 1)) = R) := by have := HL.out; rw [HHP.out, HT.out] at this; show _ = _; simpa using this
                  go_wp2
                  go_roundw
                  case rel => exact ⟨k + 1, acc, by omega, by go_num, own1, v1, HL3, by have := HAC.out; show _ ≤ _; (try simp only [List.length_append, List.length_singleton]); omega⟩
                  case measure => (simp [intOf]; try omega)
                | true =>
                  have hve : e = fv := (HTE.out rfl).symm
                  subst hve
                  by_cases hes : e < u + t
                  · have hd5 : decide (e < u + t) = true := decide_eq_true hes
                    have hws : IntKind.i64.wrap (u + t) = u + t := i64_is (by have := KO.out; omega)
                    by_cases heu : e ≤ u
                    · have HT : Hid (tailP e (u, t) = [(u, u + t - u)]) := by show _ = _; unfold tailP; rw [if_pos (by simp only; omega)]; simp only [show max u e = u by omega]
                      have HL3 : Hid ((acc ++ [(u, u + t - u)]) ++ cutL x e (l.drop (k + 1)) = R) := by have := HL.out; rw [HHP.out, HT.out] at this; show _ = _; simpa using this
                      have hmx : max u e = u := by omega
                      have hwt : IntKind.i64.wrap (u + t - u) = u + t - u := i64_is (by have := KO.out; omega)
                      go_wp2_with (at_builtin; refine wpList_one (by rfl) (.tmp 75) (.tmp 85) (by rfl) (base := w.heap.size) (v := _) (xs := acc) (by rfl) ((own1).below (new_below W1 _)) (by have := v1.size; simp; omega) ⟨W1.heap.size, 0, none⟩ 1 (z := (u, u + t - u)) (by rfl) (one_pairs W1 (u) (u + t - u)) (by have := HAC.out; (try simp only [List.length_append, List.length_singleton]); omega) ?_; intro vz wz ownz hbz hgz)
                      have b8 := (v1.alloc v1.size (.cells #[.int .i64 u, .int .i64 (u + t - u)] 24)).trans hbz
                      go_wp2
                      go_roundw
                      case rel => exact ⟨k + 1, _, by omega, by go_num, ownz, b8, HL3, by have := HAC.out; show _ ≤ _; (try simp only [List.length_append, List.length_singleton]); omega⟩
                      case measure => (simp [intOf]; try omega)
                    · have HT : Hid (tailP e (u, t) = [(e, u + t - e)]) := by show _ = _; unfold tailP; rw [if_pos (by simp only; omega)]; simp only [show max u e = e by omega]
                      have HL3 : Hid ((acc ++ [(e, u + t - e)]) ++ cutL x e (l.drop (k + 1)) = R) := by have := HL.out; rw [HHP.out, HT.out] at this; show _ = _; simpa using this
                      have hmx : max u e = e := by omega
                      have hwt : IntKind.i64.wrap (u + t - e) = u + t - e := i64_is (by have := KO.out; omega)
                      go_wp2_with (at_builtin; refine wpList_one (by rfl) (.tmp 75) (.tmp 85) (by rfl) (base := w.heap.size) (v := _) (xs := acc) (by rfl) ((own1).below (new_below W1 _)) (by have := v1.size; simp; omega) ⟨W1.heap.size, 0, none⟩ 1 (z := (e, u + t - e)) (by rfl) (one_pairs W1 (e) (u + t - e)) (by have := HAC.out; (try simp only [List.length_append, List.length_singleton]); omega) ?_; intro vz wz ownz hbz hgz)
                      have b8 := (v1.alloc v1.size (.cells #[.int .i64 e, .int .i64 (u + t - e)] 24)).trans hbz
                      go_wp2
                      go_roundw
                      case rel => exact ⟨k + 1, _, by omega, by go_num, ownz, b8, HL3, by have := HAC.out; show _ ≤ _; (try simp only [List.length_append, List.length_singleton]); omega⟩
                      case measure => (simp [intOf]; try omega)
                  · have hd5 : decide (e < u + t) = false := decide_eq_false hes
                    have hws : IntKind.i64.wrap (u + t) = u + t := i64_is (by have := KO.out; omega)
                    have HT : Hid (tailP e (u, t) = []) := by show _ = _; unfold tailP; rw [if_neg (by simp only; omega)]
                    have HL3 : Hid (acc ++ cutL x e (l.drop (k + 1)) = R) := by have := HL.out; rw [HHP.out, HT.out] at this; show _ = _; simpa using this
                    go_wp2
                    go_roundw
                    case rel => exact ⟨k + 1, acc, by omega, by go_num, own1, v1, HL3, by have := HAC.out; show _ ≤ _; (try simp only [List.length_append, List.length_singleton]); omega⟩
                    case measure => (simp [intOf]; try omega)
            · have HL3 : Hid (acc = R) := by
                have := hh.out
                rw [List.drop_eq_nil_of_le (by rw [HN.out]; omega)] at this
                rw [← this]; exact (List.append_nil _).symm
              have own3 := own
              rw [HL3.out] at own3
              go_wp2
              go_ret2
              exact ⟨_, rfl, by rw [HCV.out]; exact own3.spans (by have := HLR.out; omega) HIR.out, hb⟩
end Go.Proofs.Ytppiibdeigjcjaa
