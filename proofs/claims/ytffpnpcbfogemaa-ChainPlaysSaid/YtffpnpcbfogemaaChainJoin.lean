/- Layer 5 (chain): what Join does to a chain: contracts. -/
import Derived.Test.YtffpnpcbfogemaaChainList
namespace Go.Proofs.Ytffpnpcbfogemaa
open Go.RowKit
variable {w w' : World} {g : Nat} {R P : Option Nat} {L N : Nat} {F La C Pb Pn Pl : Nat → Int} {br bp : Nat} {lo hi : Nat} {v : Value} {m : Nat → List Nat}

theorem three_row (w : World) (a b c : Int) (t : TypeId) : (w.alloc (.cells #[.int .i64 a, .int .i64 b, .int .i64 c] t)).rowIs w.heap.size t 3 (tri (fun _ => a) (fun _ => b) (fun _ => c)) := World.rowIs_alloc w _ _ _ (by
  intro i hi
  match i, hi with
  | 0, _ => rfl
  | 1, _ => rfl
  | 2, _ => rfl)
theorem row_chg {b lo hi n : Nat} {t : TypeId} {f : Nat → Value} (h : w.rowIs b t n f) (hc : Chg lo hi w w') (hb : hi ≤ b) : w'.rowIs b t n f := h.of_block (hc.block b h.lt (by omega))
def JoinAt (w1 : World) (g br bp lo hi L N i : Nat) (F La C Pb Pn Pl : Nat → Int) (mj : List Nat) (x : Value) (wr : World) : Prop :=
  ∃ d r Pl', mj = d ++ r ∧ x = .int .i64 (hd r (-1)) ∧ RawAt wr g (some br) (some bp) L N F La C Pb Pn Pl' ∧ (∀ y, y ∈ d → Pl' y = (i : Int)) ∧ (∀ y, y ∉ d → Pl' y = Pl y) ∧ Chg lo hi w1 wr
set_option maxHeartbeats 1600000 in
theorem join_yes (h : ChainIn w lo hi v L N m) {i j : Nat} (hil : i < L) (hjl : j < L) (hij : i ≠ j) (hne : m j ≠ []) :
    Calls Try.prog 24 #[v, .int .i64 i, .int .i64 j] w (StepIn w lo hi v L N (upd (upd m i (m i ++ m j)) j []) true) := by
  have h00 := h
  have hinv := h.1
  have hsz := h.2.1
  obtain ⟨g, R, P, F, La, C, Pb, Pn, Pl, rfl, k0, rep, hp⟩ := h.raw (.inl (by omega))
  obtain ⟨br, rfl, _⟩ := k0.blkR (by omega)
  have hN : 0 < N := by
    cases e : m j with
    | nil => exact absurd e hne
    | cons y t => have := hinv.lt j y (by rw [e]; simp); omega
  obtain ⟨bp, rfl, _⟩ := k0.blkP hN
  have hsm := k0.small
  have hir : 0 ≤ (i : Int) ∧ (i : Int) < (L : Int) := by omega
  have hjr : 0 ≤ (j : Int) ∧ (j : Int) < (L : Int) := by omega
  have HB1 : Hid (hasB L (i : Int) = true) := decide_eq_true hir
  have HB2 : Hid (hasB L (j : Int) = true) := decide_eq_true hjr
  have hijb : ((i : Int) == (j : Int)) = false := by simp; omega
  have hnot := not_any
  have hl1 := hinv.len i
  have hl2 := hinv.len j
  have hpos : 0 < (m j).length := List.length_pos_iff.2 hne
  have hcz : (((m j).length : Int) == 0) = false := by simp [hne]
  have c1 := k0.c0
  have c2 := k0.cF hjl
  have c3 := k0.cL hjl
  have c4 := k0.cC hjl
  rw [rep.first j hjl] at c2
  rw [rep.last j hjl] at c3
  rw [rep.count j hjl] at c4
  simp only [Option.map_some] at c1
  have eL := rep.last i hil
  have eC := rep.count i hil
  have hnodes := hinv.lt j
  have hseg := rep.seg j
  have hnd := hinv.nodup j
  have HR : Hid (∀ Pl' : Nat → Int, (∀ y, y ∈ m j → Pl' y = (i : Int)) → (∀ y, y ∉ m j → Pl' y = Pl y) → Rep L N (upd (upd m i (m i ++ m j)) j []) (upd (tieF (tieF F i (lst (m i) (-1)) (hd (m j) (-1))) i (lst (m j) (-1)) (-1)) j (-1)) (upd (tieL (tieL La i (lst (m i) (-1)) (hd (m j) (-1))) i (lst (m j) (-1)) (-1)) j (-1)) (upd (upd C i (((m i).length : Int) + ((m j).length : Int))) j 0)
      (tieB (tieB Pb (lst (m i) (-1)) (hd (m j) (-1))) (lst (m j) (-1)) (-1)) (tieN (tieN Pn (lst (m i) (-1)) (hd (m j) (-1))) (lst (m j) (-1)) (-1)) Pl') :=
    fun Pl' h1 h2 => rep.join hil hjl hij hne (by rw [List.length_append]; omega) h1 h2
  have HN1 : Hid (NodeOr N (lst (m i) (-1))) := node_lst fun y hy => hinv.lt i y hy
  have HN2 : Hid (NodeOr N (hd (m j) (-1))) := node_hd fun y hy => hinv.lt j y hy
  have HN3 : Hid (NodeOr N (lst (m j) (-1))) := node_lst fun y hy => hinv.lt j y hy
  have HP := Lib.hid hp
  have k1 := k0.below ((Below.refl _ w).alloc (Nat.le_refl _) (.cells #[.int .i64 (hd (m j) (-1)), .int .i64 (lst (m j) (-1)), .int .i64 ((m j).length : Int)] 54))
  have r1 := three_row w (hd (m j) (-1)) (lst (m j) (-1)) ((m j).length : Int) 54
  have ch1 := Chg.alloc lo hi w (.cells #[.int .i64 (hd (m j) (-1)), .int .i64 (lst (m j) (-1)), .int .i64 ((m j).length : Int)] 54)
  have K1 := Lib.hid k1
  have R1 := Lib.hid r1
  have CH1 := Lib.hid ch1
  clear h rep hne hinv k0 k1 r1 ch1
  obtain ⟨mi, emi⟩ : ∃ mi, m i = mi := ⟨_, rfl⟩
  obtain ⟨mj, emj⟩ : ∃ mj, m j = mj := ⟨_, rfl⟩
  rw [emi] at eL eC HN1 hl1
  rw [emj] at c2 c3 c4 hnodes hseg hnd HN2 HN3 hcz hl2 hpos K1 R1 CH1
  rw [emi, emj] at HR
  go_enter Try.func24, Try.ntmps24
  go_wp2_with fail
  refine (has_list h00 HB1.out).mono ?_
  rintro e w' ⟨rfl, rfl⟩
  go_wp2_with fail
  refine (has_list h00 HB2.out).mono ?_
  rintro e w' ⟨rfl, rfl⟩
  clear h00
  go_wp2
  generalize hW : w.alloc (.cells #[.int .i64 (hd mj (-1)), .int .i64 (lst mj (-1)), .int .i64 (mj.length : Int)] 54) = w1 at *
  clear hW c1 c2 c3 c4
  go_loopw [8] (fun x wr => JoinAt w1 g br bp lo hi L N i F La C Pb Pn Pl mj x wr) (fun x _ => leftN mj (intOf x))
  case atStart => exact ⟨[], mj, Pl, rfl, rfl, K1.out, fun y h => (by simp at h), fun y _ => rfl, Chg.refl _ _ _⟩
  case round =>
    obtain ⟨d, r, Pl', hdr, rfl, k2, hd1, hd2, ch2⟩ := hrel
    cases r with
    | cons y t =>
      rw [show hd (y :: t) (-1) = (y : Int) from rfl]
      have hne : ((y : Int) != -1) = true := by simp
      have hyN : y < N := hnodes y (by rw [hdr]; simp)
      have hyr : 0 ≤ (y : Int) ∧ (y : Int) < (N : Int) := by omega
      have c1 := k2.c1
      have c2 := k2.cP hyN
      have f2 := k2.rowP.frozen (y * 3 + 2)
      have k3 := k2.setP y (i : Int)
      have ch3 := ch2.trans (Chg.set (lo := lo) (hi := hi) wr (y * 3 + 2) (.int .i64 (i : Int)) (HP.out.p bp rfl).1 (HP.out.p bp rfl).2)
      simp only [Option.map_some] at c1
      have HNx : Hid (Pn y = hd t (-1)) := by
        show _ = _
        rw [hdr] at hseg
        exact hseg.at_.2
      have HE : Hid (mj = (d ++ [y]) ++ t) := by show _ = _; rw [hdr]; simp
      have HL1 : Hid (leftN mj (y : Int) = (y :: t).length) := left_hd hdr hnd
      have HL2 : Hid (leftN mj (hd t (-1)) = t.length) := left_hd HE.out hnd
      have HD : Hid ((∀ z, z ∈ d ++ [y] → upd Pl' y (i : Int) z = (i : Int)) ∧ (∀ z, z ∉ d ++ [y] → upd Pl' y (i : Int) z = Pl z)) := by
        refine ⟨fun z hz => ?_, fun z hz => ?_⟩
        · by_cases e : z = y
          · rw [e, upd_same]
          · rw [upd_ne e]
            rcases List.mem_append.1 hz with h | h
            · exact hd1 z h
            · exact absurd (List.mem_singleton.1 h) e
        · have e : z ≠ y := fun e => hz (by simp [e])
          rw [upd_ne e]
          exact hd2 z fun h => hz (by simp [h])
      have K3 := Lib.hid k3
      have CH3 := Lib.hid ch3
      clear k2 hd1 hd2 ch2 k3 ch3 hdr hseg hnd hnodes
      generalize Pl' y = u1 at *
      go_wp2_with fail
      refine (next_raw K3.out hyN).mono ?_
      rintro e w4 ⟨rfl, b4⟩
      rw [HNx.out]
      have k4 := K3.out.below b4
      have ch4 := CH3.out.trans (Chg.of_below b4)
      go_wp2
      go_roundw
      case rel => exact ⟨d ++ [y], t, _, HE.out, rfl, k4, HD.out.1, HD.out.2, ch4⟩
      case measure =>
        simp only [intOf]
        rw [HL1.out, HL2.out]
        simp
    | nil =>
      rw [List.append_nil] at hdr
      subst hdr
      rw [show hd [] (-1) = -1 from rfl]
      have HRR := Lib.hid (HR.out Pl' hd1 hd2)
      have c1 := k2.c0
      have c2 := k2.cL hil
      rw [eL] at c2
      simp only [Option.map_some] at c1
      have r2 := row_chg R1.out ch2 hsz
      have m1 : wr.cell? ⟨w.heap.size, 0, none⟩ = some (.int .i64 (hd mj (-1))) := (r2.cell (i := 0) (by omega)).trans (by rfl)
      clear hd1 hd2 HR R1 hseg hnodes hnd K1
      go_wp2
      refine wp_region_still_tail 12 (by kernel_rfl) (by kernel_rfl) ?_
      simp only [List.take_succ_cons, List.take_zero, List.drop_succ_cons, List.drop_zero]
      change wpStill _ _ (wr.drewN 1) _ _ _
      repeat still_step
      refine wpStill_nil ?_
      change wpList _ _ _ _ _ (wr.drewN 1)
      go_wp2_with fail
      refine (tie_raw (k2.drewN 1) HP.out hil HN1.out HN2.out).mono ?_
      rintro e w3 ⟨rfl, k3, ch3⟩
      have ch4 := (ch2.trans (Chg.drewN lo hi wr 1)).trans ch3
      have r3 := row_chg (row_drewN r2 1) ch3 (by have := ch2.size; omega)
      have m2 : w3.cell? ⟨w.heap.size, 1, none⟩ = some (.int .i64 (lst mj (-1))) := (r3.cell (i := 1) (by omega)).trans (by rfl)
      clear k2 ch2 ch3 r2 c1 c2 m1
      go_wp2_with fail
      refine (tie_raw k3 HP.out hil HN3.out (.inl rfl)).mono ?_
      rintro e w5 ⟨rfl, k5, ch5⟩
      have ch6 := ch4.trans ch5
      have r5 := row_chg r3 ch5 hsz
      have c1 := k5.c0
      have c2 := k5.cC hil
      have f2 := k5.rowR.frozen (i * 3 + 2)
      have m3 : w5.cell? ⟨w.heap.size, 2, none⟩ = some (.int .i64 (mj.length : Int)) := (r5.cell (i := 2) (by omega)).trans (by rfl)
      rw [eC] at c2
      simp only [Option.map_some] at c1
      have hwr : IntKind.i64.wrap ((mi.length : Int) + (mj.length : Int)) = (mi.length : Int) + (mj.length : Int) := IntWalk.i64_in _ (by omega)
      have k6 := (k5.drewN 1).setC i ((mi.length : Int) + (mj.length : Int))
      have ch7 := (ch6.trans (Chg.drewN lo hi w5 1)).trans (Chg.set (lo := lo) (hi := hi) (w5.drewN 1) (i * 3 + 2) (.int .i64 ((mi.length : Int) + (mj.length : Int))) (HP.out.r br rfl).1 (HP.out.r br rfl).2)
      have K6 := Lib.hid k6
      have CH7 := Lib.hid (CH1.out.trans ch7)
      clear k3 k5 k6 ch4 ch5 ch6 ch7 r3 r5 m2
      go_wp2
      refine wp_region_still_tail 13 (by kernel_rfl) (by kernel_rfl) ?_
      simp only [List.take_succ_cons, List.take_zero, List.drop_succ_cons, List.drop_zero]
      change wpStill _ _ (w5.drewN 1) _ _ _
      repeat still_step
      refine wpStill_nil ?_
      change wpList _ _ _ _ _ (w5.drewN 1)
      go_wp2_with fail
      generalize hW7 : (w5.drewN 1).setCell ⟨br, i * 3 + 2, none⟩ (.int .i64 ((mi.length : Int) + (mj.length : Int))) = w7 at *
      clear hW7 c1 c2 f2 m3
      have p1 := K6.out.c0
      have p1d := K6.out.drew.c0
      simp only [Option.map_some] at p1 p1d
      go_wp2_with fail
      go_region_held3 (fun W => W.cell? ⟨g, 0, none⟩ = some (.slice (some ⟨br, 0, none⟩) L L))
        (first | assumption)
        (first
          | (go_at_call 27
             refine (no_row _).mono ?_
             rintro e w8 ⟨rfl, b8⟩
             unfold rowV
             have k8 := K6.out.drew.below b8
             have s6 := k8.c0
             have g0 := k8.cF hjl
             have g1 := k8.cL hjl
             have g2 := k8.cC hjl
             have f0 := k8.rowR.frozen (j * 3)
             have f1 := k8.rowR.frozen (j * 3 + 1)
             have f2 := k8.rowR.frozen (j * 3 + 2)
             have k9 := ((k8.setF j (-1)).setL j (-1)).setC j 0
             have s9 := k9.c0
             simp only [Option.map_some] at s6 s9))
      have ch8 := (CH7.out.trans (show Chg lo hi w7 w7.drew from ⟨rfl, rfl, rfl, Nat.le_refl _, fun _ _ _ => rfl⟩)).trans (Chg.of_below b8)
      have ch9 := ((ch8.trans (Chg.set _ (j * 3) (.int .i64 (-1)) (HP.out.r br rfl).1 (HP.out.r br rfl).2)).trans (Chg.set _ (j * 3 + 1) (.int .i64 (-1)) (HP.out.r br rfl).1 (HP.out.r br rfl).2)).trans (Chg.set _ (j * 3 + 2) (.int .i64 0) (HP.out.r br rfl).1 (HP.out.r br rfl).2)
      have K9 := Lib.hid k9
      have CH9 := Lib.hid ch9
      clear k8 k9 ch8 ch9 g0 g1 g2 f0 f1 f2 s6 s9 p1 p1d b8
      go_wp2
      go_ret
      rw [emi, emj]
      exact ⟨rfl, ⟨HRR.out.inv, CH9.out.size_le hsz, .inr ⟨g, _, _, _, _, _, _, _, _, rfl, K9.out, HRR.out, HP.out⟩⟩, CH9.out⟩
theorem join_none (h : ChainIn w lo hi v L N m) {i j : Nat} (hil : i < L) (hjl : j < L) (hij : i ≠ j) (he : m j = []) :
    Calls Try.prog 24 #[v, .int .i64 i, .int .i64 j] w (StepIn w lo hi v L N m true) := by
  have h00 := h
  obtain ⟨g, R, P, F, La, C, Pb, Pn, Pl, rfl, k0, rep, hp⟩ := h.raw (.inl (by omega))
  obtain ⟨br, rfl, _⟩ := k0.blkR (by omega)
  have hsm := k0.small
  have hir : 0 ≤ (i : Int) ∧ (i : Int) < (L : Int) := by omega
  have hjr : 0 ≤ (j : Int) ∧ (j : Int) < (L : Int) := by omega
  have HB1 : Hid (hasB L (i : Int) = true) := decide_eq_true hir
  have HB2 : Hid (hasB L (j : Int) = true) := decide_eq_true hjr
  have hijb : ((i : Int) == (j : Int)) = false := by simp; omega
  have hnot := not_any
  have c1 := k0.c0
  have c2 := k0.cF hjl
  have c3 := k0.cL hjl
  have c4 := k0.cC hjl
  rw [rep.first j hjl, he] at c2
  rw [rep.last j hjl, he] at c3
  rw [rep.count j hjl, he] at c4
  simp only [Option.map_some, hd, lst, List.length_nil, Int.natCast_zero] at c1 c2 c3 c4
  have hE := h00.alloc (.cells #[.int .i64 (-1), .int .i64 (-1), .int .i64 0] 54)
  clear h rep k0 he
  go_enter Try.func24, Try.ntmps24
  go_wp2_with fail
  refine (has_list h00 HB1.out).mono ?_
  rintro e w' ⟨rfl, rfl⟩
  go_wp2_with fail
  refine (has_list h00 HB2.out).mono ?_
  rintro e w' ⟨rfl, rfl⟩
  clear h00
  go_wp2
  go_ret
  exact ⟨rfl, hE, Chg.alloc _ _ _ _⟩
theorem join_no (h : ChainIn w lo hi v L N m) {i j : Int} (hc : hasB L i = false ∨ hasB L j = false ∨ i = j) :
    Calls Try.prog 24 #[v, .int .i64 i, .int .i64 j] w (StepIn w lo hi v L N m false) := by
  have hnot := not_any
  cases h1 : hasB L i with
  | false =>
    clear hc
    go_enter Try.func24, Try.ntmps24
    go_wp2_with fail
    refine (has_list h h1).mono ?_
    rintro e w' ⟨rfl, rfl⟩
    go_wp2
    go_ret
    exact ⟨rfl, h, Chg.refl _ _ _⟩
  | true =>
    cases h2 : hasB L j with
    | false =>
      clear hc
      go_enter Try.func24, Try.ntmps24
      go_wp2_with fail
      refine (has_list h h1).mono ?_
      rintro e w' ⟨rfl, rfl⟩
      go_wp2_with fail
      refine (has_list h h2).mono ?_
      rintro e w' ⟨rfl, rfl⟩
      go_wp2
      go_ret
      exact ⟨rfl, h, Chg.refl _ _ _⟩
    | true =>
      rw [h1, h2] at hc
      have e : i = j := by simpa using hc
      subst e
      have hb : (i == i) = true := by simp
      clear hc
      go_enter Try.func24, Try.ntmps24
      go_wp2_with fail
      refine (has_list h h1).mono ?_
      rintro e w' ⟨rfl, rfl⟩
      go_wp2_with fail
      refine (has_list h h2).mono ?_
      rintro e w' ⟨rfl, rfl⟩
      go_wp2
      go_ret
      exact ⟨rfl, h, Chg.refl _ _ _⟩
end Go.Proofs.Ytffpnpcbfogemaa
