/- Layer 5 (chain): what Add, Drop, Move do to a chain: contracts. -/
import Derived.Test.YtffpnpcbfogemaaChainTie
import Derived.Deep.RegionHeld3
import Derived.StillTailTactics
namespace Go.Proofs.Ytffpnpcbfogemaa
open Go.RowKit
variable {w w' : World} {g : Nat} {R P : Option Nat} {L N : Nat} {F La C Pb Pn Pl : Nat → Int} {br bp : Nat} {lo hi : Nat} {v : Value} {m : Nat → List Nat}

def StepIn (w : World) (lo hi : Nat) (v : Value) (L N : Nat) (m : Nat → List Nat) (r : Bool) (e : Ending) (w' : World) : Prop := e = .returned (.bool r) ∧ ChainIn w' lo hi v L N m ∧ Chg lo hi w w'
/-- That node may be added to that list. -/
def Can (L N : Nat) (m : Nat → List Nat) (i x : Int) : Prop := hasB L i = true ∧ hasB N x = true ∧ Out m x
theorem out_spot {x : Int} (h : Out m x) : Spot m x (-1) (-1) (-1) := .out h
theorem Chg.size_le {lo hi : Nat} {a b : World} (h : Chg lo hi a b) {n : Nat} (hn : n ≤ a.heap.size) : n ≤ b.heap.size := Nat.le_trans hn h.size
set_option maxHeartbeats 800000 in
theorem add_yes (h : ChainIn w lo hi v L N m) {i x : Nat} (hil : i < L) (hx : x < N) (ho : Out m (x : Int)) :
    Calls Try.prog 12 #[v, .int .i64 i, .int .i64 x] w (StepIn w lo hi v L N (upd m i (m i ++ [x])) true) := by
  have h00 := h
  have hinv := h.1
  have hsz := h.2.1
  have hxm : ∀ j, x ∉ m j := fun j => ho j x rfl
  obtain ⟨g, R, P, F, La, C, Pb, Pn, Pl, rfl, k0, rep, hp⟩ := h.raw (.inl (by omega))
  obtain ⟨br, rfl, _⟩ := k0.blkR (by omega)
  obtain ⟨bp, rfl, _⟩ := k0.blkP (by omega)
  have hsm := k0.small
  have hir : 0 ≤ (i : Int) ∧ (i : Int) < (L : Int) := by omega
  have hxr : 0 ≤ (x : Int) ∧ (x : Int) < (N : Int) := by omega
  have HB1 : Hid (hasB L (i : Int) = true) := decide_eq_true hir
  have HB2 : Hid (hasB N (x : Int) = true) := decide_eq_true hxr
  have hlen := hinv.len i
  have hnot := not_any
  have HO : Hid (Spot m (x : Int) (-1) (-1) (-1)) := out_spot ho
  have eL := rep.last i hil
  have eC := rep.count i hil
  have HR := Lib.hid (rep.add hil hx hxm)
  have HN : Hid (NodeOr N (lst (m i) (-1))) := node_lst fun y hy => hinv.lt i y hy
  clear h ho hxm rep
  go_enter Try.func12, Try.ntmps12
  go_wp2_with fail
  refine (has_list h00 HB1.out).mono ?_
  rintro e w' ⟨rfl, rfl⟩
  go_wp2_with fail
  refine (has_node h00 HB2.out).mono ?_
  rintro e w' ⟨rfl, rfl⟩
  go_wp2_with fail
  refine (of_is h00 HO.out).mono ?_
  rintro e w1 ⟨rfl, b1⟩
  have k1 := k0.below b1
  have ch1 : Chg lo hi w w1 := Chg.of_below b1
  have p1 := k1.c1
  have p2 := k1.cP hx
  have p3 := k1.rowP.frozen (x * 3 + 2)
  have k2 := k1.setP x (i : Int)
  have ch2 := ch1.trans (Chg.set (lo := lo) (hi := hi) w1 (x * 3 + 2) (.int .i64 (i : Int)) (hp.p bp rfl).1 (hp.p bp rfl).2)
  have q1 := k2.c0
  have q2 := k2.cL hil
  rw [eL] at q2
  simp only [Option.map_some] at p1 q1
  clear k0 k1 ch1 b1 h00
  generalize Pl x = u1 at *
  go_wp2_with fail
  refine (tie_raw k2 hp hil HN.out (.inr ⟨x, rfl, hx⟩)).mono ?_
  rintro e w3 ⟨rfl, k3, ch3⟩
  have ch4 := ch2.trans ch3
  clear k2 ch2 ch3 q1 q2 p1 p2 p3
  go_wp2_with fail
  refine (tie_raw k3 hp hil (.inr ⟨x, rfl, hx⟩) (.inl rfl)).mono ?_
  rintro e w5 ⟨rfl, k5, ch5⟩
  have ch6 := ch4.trans ch5
  clear k3 ch4 ch5
  have q1 := k5.c0
  have q2 := k5.cC hil
  have q3 := k5.rowR.frozen (i * 3 + 2)
  have k6 := k5.setC i ((m i).length + 1)
  rw [eC] at q2
  simp only [Option.map_some] at q1
  have ch7 := ch6.trans (Chg.set (lo := lo) (hi := hi) w5 (i * 3 + 2) (.int .i64 (((m i).length : Int) + 1)) (hp.r br rfl).1 (hp.r br rfl).2)
  have hwr : IntKind.i64.wrap (((m i).length : Int) + 1) = ((m i).length : Int) + 1 := IntWalk.i64_in _ (by omega)
  have K6 := Lib.hid k6
  have CH := Lib.hid ch7
  clear k5 k6 ch6 ch7
  go_wp2
  go_ret
  exact ⟨rfl, ⟨HR.out.inv, CH.out.size_le hsz, .inr ⟨g, _, _, _, _, _, _, _, _, rfl, K6.out, HR.out, hp⟩⟩, CH.out⟩
theorem add_no (h : ChainIn w lo hi v L N m) {i x : Int} (hc : ¬ Can L N m i x) :
    Calls Try.prog 12 #[v, .int .i64 i, .int .i64 x] w (StepIn w lo hi v L N m false) := by
  have hnot := not_any
  cases h1 : hasB L i with
  | false =>
    go_enter Try.func12, Try.ntmps12
    go_wp2_with fail
    refine (has_list h h1).mono ?_
    rintro e w' ⟨rfl, rfl⟩
    go_wp2
    go_ret
    exact ⟨rfl, h, Chg.refl _ _ _⟩
  | true =>
    cases h2 : hasB N x with
    | false =>
      go_enter Try.func12, Try.ntmps12
      go_wp2_with fail
      refine (has_list h h1).mono ?_
      rintro e w' ⟨rfl, rfl⟩
      go_wp2_with fail
      refine (has_node h h2).mono ?_
      rintro e w' ⟨rfl, rfl⟩
      go_wp2
      go_ret
      exact ⟨rfl, h, Chg.refl _ _ _⟩
    | true =>
      obtain ⟨o, b, n, hs⟩ := spot m x
      have ho : ∃ j : Nat, o = (j : Int) := by
        rcases hs with hs | ⟨j, a, k', b', e, e2⟩
        · exact absurd ⟨h1, h2, hs⟩ hc
        · exact ⟨j, rfl⟩
      obtain ⟨j, rfl⟩ := ho
      have hne : ((j : Int) != -1) = true := by simp
      clear hc
      go_enter Try.func12, Try.ntmps12
      go_wp2_with fail
      refine (has_list h h1).mono ?_
      rintro e w' ⟨rfl, rfl⟩
      go_wp2_with fail
      refine (has_node h h2).mono ?_
      rintro e w' ⟨rfl, rfl⟩
      go_wp2_with fail
      refine (of_is h hs).mono ?_
      rintro e w1 ⟨rfl, b1⟩
      go_wp2
      go_ret
      exact ⟨rfl, h.below b1, Chg.of_below b1⟩

/-! ### Drop -/
set_option maxHeartbeats 800000 in
theorem drop_yes (h : ChainIn w lo hi v L N m) {i x : Nat} {a b : List Nat} (e : m i = a ++ x :: b) :
    Calls Try.prog 10 #[v, .int .i64 x] w (StepIn w lo hi v L N (upd m i (a ++ b)) true) := by
  have h00 := h
  have hinv := h.1
  have hsz := h.2.1
  have hx : x < N := hinv.lt i x (by rw [e]; simp)
  have hil : i < L := hinv.il (x := x) (by rw [e]; simp)
  obtain ⟨g, R, P, F, La, C, Pb, Pn, Pl, rfl, k0, rep, hp⟩ := h.raw (.inl (by omega))
  obtain ⟨br, rfl, _⟩ := k0.blkR (by omega)
  obtain ⟨bp, rfl, _⟩ := k0.blkP (by omega)
  have hsm := k0.small
  have hir : 0 ≤ (i : Int) ∧ (i : Int) < (L : Int) := by omega
  have hxr : 0 ≤ (x : Int) ∧ (x : Int) < (N : Int) := by omega
  have hlen := hinv.len i
  have hne : ((i : Int) == -1) = false := by simp
  have HO : Hid (Spot m (x : Int) (i : Int) (lst a (-1)) (hd b (-1))) := .at_ i a x b rfl e
  have hpos : 1 ≤ (m i).length := by rw [e]; simp; omega
  have eC := rep.count i hil
  have HR := Lib.hid (rep.drop (c := ((m i).length : Int) - 1) e (by rw [e]; simp; omega))
  have hmem : ∀ y, y ∈ a ++ x :: b → y < N := fun y hy => hinv.lt i y (e ▸ hy)
  have HN1 : Hid (NodeOr N (lst a (-1))) := node_lst fun y hy => hmem y (by simp [hy])
  have HN2 : Hid (NodeOr N (hd b (-1))) := node_hd fun y hy => hmem y (by simp [hy])
  have HP := Lib.hid hp
  clear h rep hmem e
  go_enter Try.func10, Try.ntmps10
  go_wp2_with fail
  refine (of_is h00 HO.out).mono ?_
  rintro e w1 ⟨rfl, b1⟩
  have h1 := h00.below b1
  clear h00
  go_wp2_with fail
  refine (back_is h1 HO.out).mono ?_
  rintro e w2 ⟨rfl, b2⟩
  have h2 := h1.below b2
  clear h1
  go_wp2_with fail
  refine (next_is h2 HO.out).mono ?_
  rintro e w3 ⟨rfl, b3⟩
  have bel := (b1.trans (b2.mono b1.size)).trans (b3.mono (Nat.le_trans b1.size b2.size))
  have k3 := k0.below bel
  have ch3 : Chg lo hi w w3 := Chg.of_below bel
  clear h2 b1 b2 b3 bel k0
  go_wp2_with fail
  refine (tie_raw k3 hp hil HN1.out HN2.out).mono ?_
  rintro e w4 ⟨rfl, k4, ch4⟩
  have ch5 := ch3.trans ch4
  have p1 := k4.c1
  have p1d := k4.drew.c1
  simp only [Option.map_some] at p1 p1d
  have HK := Lib.hid k4
  clear k3 k4 ch3 ch4
  go_wp2_with fail
  go_region_held3 (fun W => W.cell? ⟨g, 1, none⟩ = some (.slice (some ⟨bp, 0, none⟩) N N))
    (first | assumption)
    (first
      | (go_at_call 29
         refine (no_place _).mono ?_
         rintro e w6 ⟨rfl, b6⟩
         unfold rowV
         have k6 := HK.out.drew.below b6
         have s6 := k6.c1
         have g0 := k6.cB hx
         have g1 := k6.cN hx
         have g2 := k6.cP hx
         have f0 := k6.rowP.frozen (x * 3)
         have f1 := k6.rowP.frozen (x * 3 + 1)
         have f2 := k6.rowP.frozen (x * 3 + 2)
         have k9 := ((k6.setB x (-1)).setN x (-1)).setP x (-1)
         have s9 := k9.c1
         simp only [Option.map_some] at s6 s9))
  have q1 := k9.c0
  have q2 := k9.cC hil
  have q3 := k9.rowR.frozen (i * 3 + 2)
  have k10 := k9.setC i ((m i).length - 1)
  rw [eC] at q2
  simp only [Option.map_some] at q1
  have ch6 := (ch5.trans (show Chg lo hi w4 w4.drew from ⟨rfl, rfl, rfl, Nat.le_refl _, fun _ _ _ => rfl⟩)).trans (Chg.of_below b6)
  have ch9 := ((ch6.trans (Chg.set _ (x * 3) (.int .i64 (-1)) (HP.out.p bp rfl).1 (HP.out.p bp rfl).2)).trans (Chg.set _ (x * 3 + 1) (.int .i64 (-1)) (HP.out.p bp rfl).1 (HP.out.p bp rfl).2)).trans (Chg.set _ (x * 3 + 2) (.int .i64 (-1)) (HP.out.p bp rfl).1 (HP.out.p bp rfl).2)
  have ch10 := ch9.trans (Chg.set _ (i * 3 + 2) (.int .i64 (((m i).length : Int) - 1)) (HP.out.r br rfl).1 (HP.out.r br rfl).2)
  have hwr : IntKind.i64.wrap (((m i).length : Int) - 1) = ((m i).length : Int) - 1 := IntWalk.i64_in _ (by omega)
  have K10 := Lib.hid k10
  have CH := Lib.hid ch10
  clear k6 k9 k10 ch5 ch6 ch9 ch10 g0 g1 g2 f0 f1 f2 s6 s9 p1 p1d b6
  generalize (((w6.setCell ⟨bp, x * 3, none⟩ (.int .i64 (-1))).setCell ⟨bp, x * 3 + 1, none⟩ (.int .i64 (-1))).setCell ⟨bp, x * 3 + 2, none⟩ (.int .i64 (-1))) = w9 at *
  go_wp2
  go_ret
  exact ⟨rfl, ⟨HR.out.inv, CH.out.size_le hsz, .inr ⟨g, _, _, _, _, _, _, _, _, rfl, K10.out, HR.out, HP.out⟩⟩, CH.out⟩
theorem drop_no (h : ChainIn w lo hi v L N m) {x : Int} (ho : Out m x) :
    Calls Try.prog 10 #[v, .int .i64 x] w (StepIn w lo hi v L N m false) := by
  go_enter Try.func10, Try.ntmps10
  go_wp2_with fail
  refine (of_is h (out_spot ho)).mono ?_
  rintro e w1 ⟨rfl, b1⟩
  go_wp2
  go_ret
  exact ⟨rfl, h.below b1, Chg.of_below b1⟩

/-! ### Move -/
theorem out_drop (hI : Inv L N m) {i x : Nat} {a b : List Nat} (e : m i = a ++ x :: b) : Out (upd m i (a ++ b)) (x : Int) := by
  intro j k ek hk
  obtain rfl : k = x := by omega
  have hn := hI.nodup i
  rw [e] at hn
  obtain ⟨_, h1, h2⟩ := nodup_cut hn
  by_cases ej : j = i
  · subst ej
    rw [upd_same] at hk
    rcases List.mem_append.1 hk with h | h
    · exact h1 h
    · exact h2 h
  · rw [upd_ne ej] at hk
    exact ej (hI.apart j i k hk (by rw [e]; simp))
theorem move_yes (h : ChainIn w lo hi v L N m) {i j x : Nat} {a b : List Nat} (hil : i < L) (e : m j = a ++ x :: b) :
    Calls Try.prog 22 #[v, .int .i64 i, .int .i64 x] w (StepIn w lo hi v L N (upd (upd m j (a ++ b)) i (upd m j (a ++ b) i ++ [x])) true) := by
  have hx : x < N := h.1.lt j x (by rw [e]; simp)
  have ho := out_drop h.1 e
  have HB1 : Hid (hasB L (i : Int) = true) := decide_eq_true (by omega)
  have HE := Lib.hid e
  clear e
  go_enter Try.func22, Try.ntmps22
  go_wp2_with fail
  refine (has_list h HB1.out).mono ?_
  rintro e w' ⟨rfl, rfl⟩
  go_wp2_with fail
  refine (drop_yes h HE.out).mono ?_
  rintro e w1 ⟨rfl, h1, c1⟩
  go_wp2_with fail
  refine (add_yes h1 hil hx ho).mono ?_
  rintro e w2 ⟨rfl, h2, c2⟩
  go_wp2
  go_ret
  exact ⟨rfl, h2, c1.trans c2⟩
theorem move_no (h : ChainIn w lo hi v L N m) {i x : Int} (hc : hasB L i = false ∨ Out m x) :
    Calls Try.prog 22 #[v, .int .i64 i, .int .i64 x] w (StepIn w lo hi v L N m false) := by
  cases h1 : hasB L i with
  | false =>
    clear hc
    go_enter Try.func22, Try.ntmps22
    go_wp2_with fail
    refine (has_list h h1).mono ?_
    rintro e w' ⟨rfl, rfl⟩
    go_wp2
    go_ret
    exact ⟨rfl, h, Chg.refl _ _ _⟩
  | true =>
    have ho : Out m x := hc.resolve_left (by rw [h1]; simp)
    clear hc
    go_enter Try.func22, Try.ntmps22
    go_wp2_with fail
    refine (has_list h h1).mono ?_
    rintro e w' ⟨rfl, rfl⟩
    go_wp2_with fail
    refine (drop_no h ho).mono ?_
    rintro e w1 ⟨rfl, h1, c1⟩
    go_wp2
    go_ret
    exact ⟨rfl, h1, c1⟩
end Go.Proofs.Ytffpnpcbfogemaa
