/- Layer 15 (phase): the tables in memory; what isPhase, isEvent, Next, Name and Away return, the package's and the document's: contracts. -/
import Derived.Test.YtifabfggjddfpaaDoorPhaseMath
import Derived.IntWalk
import Derived.LoopTactic
namespace Go.Proofs.YtifabfggjddfpaaDoor
open Go.RowKit

/-- The blocks of phase.names and phase.leads hold what their initialisers lay. -/
structure TabOk (w : World) : Prop where
  name : ∀ j, j < 4 → w.cell? ⟨0, j, none⟩ = some (.string (nameT j))
  lead : ∀ j, j < 4 → w.cell? ⟨1, j, none⟩ = some (.int .i64 ((j + 1 : Nat) : Int))
theorem tab_lt {w : World} (h : TabOk w) : 0 < w.heap.size ∧ 1 < w.heap.size :=
  ⟨World.block_lt_of_cell? w _ (h.name 0 (by omega)), World.block_lt_of_cell? w _ (h.lead 0 (by omega))⟩
theorem TabOk.below {w w' : World} (h : TabOk w) (hb : Below w.heap.size w w') : TabOk w' :=
  ⟨fun j hj => (hb.cell (tab_lt h).1).trans (h.name j hj), fun j hj => (hb.cell (tab_lt h).2).trans (h.lead j hj)⟩

theorem isPhase_is (w : World) {p : Int} {b : Bool} (h : decide (0 ≤ p ∧ p ≤ 3) = b) : Calls Tryd.prog 18 #[.int .i64 p] w fun e w' => e = .returned (.bool b) ∧ w = w' := by
  by_cases h1 : 0 ≤ p
  · by_cases h2 : p < 4
    · obtain rfl : b = true := by rw [← h]; exact decide_eq_true ⟨h1, by omega⟩
      clear h
      go_enter Tryd.func18, Tryd.ntmps18
      go_wp2
      go_ret
      exact ⟨rfl, rfl⟩
    · obtain rfl : b = false := by rw [← h]; exact decide_eq_false (by omega)
      clear h
      go_enter Tryd.func18, Tryd.ntmps18
      go_wp2
      go_ret
      exact ⟨rfl, rfl⟩
  · obtain rfl : b = false := by rw [← h]; exact decide_eq_false (by omega)
    clear h
    go_enter Tryd.func18, Tryd.ntmps18
    go_wp2
    go_ret
    exact ⟨rfl, rfl⟩
theorem isEvent_is (w : World) {p : Int} {b : Bool} (h : decide (1 ≤ p ∧ p ≤ 4) = b) : Calls Tryd.prog 19 #[.int .i64 p] w fun e w' => e = .returned (.bool b) ∧ w = w' := by
  by_cases h1 : 1 ≤ p
  · by_cases h2 : p ≤ 4
    · obtain rfl : b = true := by rw [← h]; exact decide_eq_true ⟨h1, by omega⟩
      clear h
      go_enter Tryd.func19, Tryd.ntmps19
      go_wp2
      go_ret
      exact ⟨rfl, rfl⟩
    · obtain rfl : b = false := by rw [← h]; exact decide_eq_false (by omega)
      clear h
      go_enter Tryd.func19, Tryd.ntmps19
      go_wp2
      go_ret
      exact ⟨rfl, rfl⟩
  · obtain rfl : b = false := by rw [← h]; exact decide_eq_false (by omega)
    clear h
    go_enter Tryd.func19, Tryd.ntmps19
    go_wp2
    go_ret
    exact ⟨rfl, rfl⟩
set_option maxHeartbeats 800000 in
theorem next_is (w : World) (hT : TabOk w) {p e a b : Int} (h : nextP p e = (a, b)) : Calls Tryd.prog 11 #[.int .i64 p, .int .i64 e] w fun x w' => x = .returned (.tuple #[.int .i64 a, .int .i64 b]) ∧ w = w' := by
  have HP : Hid (∀ W b, decide (0 ≤ p ∧ p ≤ 3) = b → Calls Tryd.prog 18 #[.int .i64 p] W fun e w' => e = .returned (.bool b) ∧ W = w') := fun W b h => isPhase_is W h
  have HE : Hid (∀ W b, decide (1 ≤ e ∧ e ≤ 4) = b → Calls Tryd.prog 19 #[.int .i64 e] W fun e w' => e = .returned (.bool b) ∧ W = w') := fun W b h => isEvent_is W h
  by_cases hp : 0 ≤ p ∧ p ≤ 3
  · have HP1 := Lib.hid fun W => HP.out W true (decide_eq_true hp)
    by_cases he : 1 ≤ e ∧ e ≤ 4
    · have HE1 := Lib.hid fun W => HE.out W true (decide_eq_true he)
      obtain ⟨j, rfl⟩ : ∃ j : Nat, p = (j : Int) := ⟨p.toNat, by omega⟩
      have hj : j < 4 := by omega
      have c0 := hT.lead j hj
      by_cases hn : e = ((j + 1 : Nat) : Int)
      · subst hn
        have h' := nextP_yes hp
        have h2 : nextP (j : Int) ((j : Int) + 1) = (a, b) := by rw [← h]; congr 1
        rw [h'] at h2
        injection h2 with h3 h4
        subst h4
        clear h h' HP HE
        obtain rfl | rfl | rfl | rfl : j = 0 ∨ j = 1 ∨ j = 2 ∨ j = 3 := by omega
        all_goals
          obtain rfl := h3
          clear hp he hj hT
          go_enter Tryd.func11, Tryd.ntmps11
          go_wp2_with fail
          refine (HP1.out _).mono ?_
          rintro x w1 ⟨rfl, rfl⟩
          go_wp2_with fail
          refine (HE1.out _).mono ?_
          rintro x w1 ⟨rfl, rfl⟩
          go_wp2
          go_ret2
          exact ⟨rfl, rfl⟩
      · rw [nextP_no hp he (by omega)] at h
        injection h with h3 h4
        subst h3 h4
        have hne : (e == ((j + 1 : Nat) : Int)) = false := by simpa using hn
        have hne2 : (e != ((j + 1 : Nat) : Int)) = true := by simpa using hn
        generalize ((j + 1 : Nat) : Int) = z at *
        have hj1 : 0 ≤ (j : Int) ∧ (j : Int) < 4 := by omega
        clear hp he HP HE hT
        go_enter Tryd.func11, Tryd.ntmps11
        go_wp2_with fail
        refine (HP1.out _).mono ?_
        rintro x w1 ⟨rfl, rfl⟩
        go_wp2_with fail
        refine (HE1.out _).mono ?_
        rintro x w1 ⟨rfl, rfl⟩
        go_wp2
        go_ret2
        exact ⟨rfl, rfl⟩
    · have HE1 := Lib.hid fun W => HE.out W false (decide_eq_false he)
      rw [nextP_arg (by omega)] at h
      injection h with h3 h4
      subst h3 h4
      clear hp he HP HE hT
      go_enter Tryd.func11, Tryd.ntmps11
      go_wp2_with fail
      refine (HP1.out _).mono ?_
      rintro x w1 ⟨rfl, rfl⟩
      go_wp2_with fail
      refine (HE1.out _).mono ?_
      rintro x w1 ⟨rfl, rfl⟩
      go_wp2
      go_ret2
      exact ⟨rfl, rfl⟩
  · have HP1 := Lib.hid fun W => HP.out W false (decide_eq_false hp)
    rw [nextP_arg (by omega)] at h
    injection h with h3 h4
    subst h3 h4
    clear hp HP HE hT
    go_enter Tryd.func11, Tryd.ntmps11
    go_wp2_with fail
    refine (HP1.out _).mono ?_
    rintro x w1 ⟨rfl, rfl⟩
    go_wp2
    go_ret2
    exact ⟨rfl, rfl⟩
theorem rnext_is (w : World) {p e a b : Int} (h : nextP p e = (a, b)) : Calls Tryd.prog 12 #[.int .i64 p, .int .i64 e] w fun x w' => x = .returned (.tuple #[.int .i64 a, .int .i64 b]) ∧ w = w' := by
  by_cases h1 : p < 0
  · rw [nextP_arg (by omega)] at h
    injection h with h3 h4
    subst h3 h4
    go_enter Tryd.func12, Tryd.ntmps12
    go_wp2
    go_ret2
    exact ⟨rfl, rfl⟩
  · by_cases h2 : 3 < p
    · rw [nextP_arg (by omega)] at h
      injection h with h3 h4
      subst h3 h4
      go_enter Tryd.func12, Tryd.ntmps12
      go_wp2
      go_ret2
      exact ⟨rfl, rfl⟩
    · by_cases h5 : e < 1
      · rw [nextP_arg (by omega)] at h
        injection h with h3 h4
        subst h3 h4
        go_enter Tryd.func12, Tryd.ntmps12
        go_wp2
        go_ret2
        exact ⟨rfl, rfl⟩
      · by_cases h6 : 4 < e
        · rw [nextP_arg (by omega)] at h
          injection h with h3 h4
          subst h3 h4
          go_enter Tryd.func12, Tryd.ntmps12
          go_wp2
          go_ret2
          exact ⟨rfl, rfl⟩
        · have hw : IntKind.i64.wrap (p + 1) = p + 1 := IntWalk.i64_in _ (by omega)
          by_cases h7 : e = p + 1
          · subst h7
            rw [nextP_yes (by omega)] at h
            injection h with h3 h4
            subst h4
            by_cases h8 : p = 3
            · subst h8
              obtain rfl := h3
              go_enter Tryd.func12, Tryd.ntmps12
              go_wp2
              go_ret2
              exact ⟨rfl, rfl⟩
            · obtain rfl : p + 1 = a := by rw [← h3, Int.emod_eq_of_lt (by omega) (by omega)]
              clear h3
              have z1 : (p + 1 == p + 1) = true := by simp
              have z2 : (p + 1 != p + 1) = false := by simp
              go_enter Tryd.func12, Tryd.ntmps12
              go_wp2
              go_ret2
              exact ⟨rfl, rfl⟩
          · rw [nextP_no (by omega) (by omega) h7] at h
            injection h with h3 h4
            subst h3 h4
            have z2 : (e != p + 1) = true := by simpa using h7
            go_enter Tryd.func12, Tryd.ntmps12
            go_wp2
            go_ret2
            exact ⟨rfl, rfl⟩
theorem name_is (w : World) (hT : TabOk w) {p : Int} {s : ByteArray} (h : nameP p = s) : Calls Tryd.prog 10 #[.int .i64 p] w fun x w' => x = .returned (.string s) ∧ w = w' := by
  have HP : Hid (∀ W b, decide (0 ≤ p ∧ p ≤ 3) = b → Calls Tryd.prog 18 #[.int .i64 p] W fun e w' => e = .returned (.bool b) ∧ W = w') := fun W b h => isPhase_is W h
  by_cases hp : 0 ≤ p ∧ p ≤ 3
  · have HP1 := Lib.hid fun W => HP.out W true (decide_eq_true hp)
    obtain ⟨j, rfl⟩ : ∃ j : Nat, p = (j : Int) := ⟨p.toNat, by omega⟩
    have hj : j < 4 := by omega
    have c0 := hT.name j hj
    rw [← nameP_in hj, h] at c0
    have hj1 : 0 ≤ (j : Int) ∧ (j : Int) < 4 := by omega
    clear h hp HP hT
    go_enter Tryd.func10, Tryd.ntmps10
    go_wp2_with fail
    refine (HP1.out _).mono ?_
    rintro x w1 ⟨rfl, rfl⟩
    go_wp2
    go_ret
    exact ⟨rfl, rfl⟩
  · have HP1 := Lib.hid fun W => HP.out W false (decide_eq_false hp)
    rw [nameP_no (by omega)] at h
    subst h
    clear hp HP hT
    go_enter Tryd.func10, Tryd.ntmps10
    go_wp2_with fail
    refine (HP1.out _).mono ?_
    rintro x w1 ⟨rfl, rfl⟩
    go_wp2
    go_ret
    exact ⟨rfl, rfl⟩
theorem rname_is (w : World) {p : Int} {s : ByteArray} (h : nameP p = s) : Calls Tryd.prog 13 #[.int .i64 p] w fun x w' => x = .returned (.string s) ∧ Below w.heap.size w w' := by
  by_cases h1 : p < 0
  · rw [nameP_no (by omega)] at h
    subst h
    go_enter Tryd.func13, Tryd.ntmps13
    go_wp2
    go_ret
    exact ⟨rfl, (Below.refl _ _).alloc (Nat.le_refl _) _⟩
  · by_cases h2 : 3 < p
    · rw [nameP_no (by omega)] at h
      subst h
      go_enter Tryd.func13, Tryd.ntmps13
      go_wp2
      go_ret
      exact ⟨rfl, (Below.refl _ _).alloc (Nat.le_refl _) _⟩
    · obtain rfl | rfl | rfl | rfl : p = 0 ∨ p = 1 ∨ p = 2 ∨ p = 3 := by omega
      all_goals
        subst h
        clear h1 h2
        go_enter Tryd.func13, Tryd.ntmps13
        go_wp2
        go_ret
        exact ⟨rfl, (Below.refl _ _).alloc (Nat.le_refl _) _⟩
theorem away_is (w : World) {a b r : Int} (h : awayP a b = r) : Calls Tryd.prog 14 #[.int .i64 a, .int .i64 b] w fun x w' => x = .returned (.int .i64 r) ∧ w = w' := by
  by_cases ha : 0 ≤ a ∧ a ≤ 3
  · have H1 := Lib.hid fun W => isPhase_is W (decide_eq_true ha)
    by_cases hb : 0 ≤ b ∧ b ≤ 3
    · have H2 := Lib.hid fun W => isPhase_is W (decide_eq_true hb)
      rw [awayP_yes ha hb] at h
      have e1 : IntKind.i64.wrap (b - a) = b - a := IntWalk.i64_in _ (by omega)
      have e2 : IntKind.i64.wrap (b - a + 4) = b - a + 4 := IntWalk.i64_in _ (by omega)
      have e3 : Int.tmod (b - a + 4) 4 = r := by rw [← h]; exact Int.tmod_eq_emod_of_nonneg (by omega)
      have e4 : IntKind.i64.wrap r = r := IntWalk.i64_in _ (by omega)
      clear ha hb
      go_enter Tryd.func14, Tryd.ntmps14
      go_wp2_with fail
      refine (H1.out _).mono ?_
      rintro x w1 ⟨rfl, rfl⟩
      go_wp2_with fail
      refine (H2.out _).mono ?_
      rintro x w1 ⟨rfl, rfl⟩
      go_wp2
      go_ret
      exact ⟨rfl, rfl⟩
    · have H2 := Lib.hid fun W => isPhase_is W (decide_eq_false hb)
      rw [awayP_no (by omega)] at h
      subst h
      clear ha hb
      go_enter Tryd.func14, Tryd.ntmps14
      go_wp2_with fail
      refine (H1.out _).mono ?_
      rintro x w1 ⟨rfl, rfl⟩
      go_wp2_with fail
      refine (H2.out _).mono ?_
      rintro x w1 ⟨rfl, rfl⟩
      go_wp2
      go_ret
      exact ⟨rfl, rfl⟩
  · have H1 := Lib.hid fun W => isPhase_is W (decide_eq_false ha)
    rw [awayP_no (by omega)] at h
    subst h
    clear ha
    go_enter Tryd.func14, Tryd.ntmps14
    go_wp2_with fail
    refine (H1.out _).mono ?_
    rintro x w1 ⟨rfl, rfl⟩
    go_wp2
    go_ret
    exact ⟨rfl, rfl⟩
end Go.Proofs.YtifabfggjddfpaaDoor
