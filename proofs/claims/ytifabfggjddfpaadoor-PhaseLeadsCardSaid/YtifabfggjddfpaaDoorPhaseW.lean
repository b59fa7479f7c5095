/- Layer 15 (phase): the chapter's example; the walks of PhaseLeads and PhaseRound. -/
import Derived.Test.YtifabfggjddfpaaDoorPhaseFind
import Derived.Test.YtifabfggjddfpaaDoorBaseZs
namespace Go.Proofs.YtifabfggjddfpaaDoor
open Go.RowKit

def TrueBelow (w : World) (e : Ending) (w' : World) : Prop := e = .returned (.bool true) ∧ Below w.heap.size w w'
theorem pair_row (w : World) (a b : Int) (t : TypeId) : (w.alloc (.cells #[.int .i64 a, .int .i64 b] t)).rowIs w.heap.size t 2 (fun j => .int .i64 (if j = 0 then a else b)) := World.rowIs_alloc w _ _ _ (by
  intro i hi
  match i, hi with
  | 0, _ => rfl
  | 1, _ => rfl)
set_option maxHeartbeats 800000 in
theorem works_is (w : World) (hT : TabOk w) : Calls Tryd.prog 9 #[] w (TrueBelow w) := by
  have HT := Lib.hid hT
  have HR : Hid (∀ (W : World) (A : Option Addr), TabOk W → IntsAt W A [1, 2, 1] → Calls Tryd.prog 16 #[.int .i64 0, .slice A 3 3] W fun x w' => x = .returned (.tuple #[.int .i64 2, .int .i64 2]) ∧ W = w') := fun W A hT hl => run_is W hT hl rfl (by decide) (by decide)
  have HN : Hid (∀ (W : World), TabOk W → Calls Tryd.prog 11 #[.int .i64 0, .int .i64 4] W fun x w' => x = .returned (.tuple #[.int .i64 0, .int .i64 18]) ∧ W = w') := fun W hT => next_is W hT (by decide)
  have HM : Hid (∀ (W : World), TabOk W → Calls Tryd.prog 10 #[.int .i64 3] W fun x w' => x = .returned (.string ⟨#[119, 105, 112, 105, 110, 103]⟩) ∧ W = w') := fun W hT => name_is W hT (nameP_in (j := 3) (by omega))
  have HA : Hid (∀ (W : World), Calls Tryd.prog 14 #[.int .i64 3, .int .i64 1] W fun x w' => x = .returned (.int .i64 2) ∧ W = w') := fun W => away_is W (by decide)
  have b0 := new_below w (.cells #[.int .i64 1, .int .i64 2, .int .i64 1] 3)
  have I0 : Hid (IntsAt (w.alloc (.cells #[.int .i64 1, .int .i64 2, .int .i64 1] 3)) (some ⟨w.heap.size, 0, none⟩) [1, 2, 1]) := lit_ints w [1, 2, 1]
  have T0 : Hid (TabOk (w.alloc (.cells #[.int .i64 1, .int .i64 2, .int .i64 1] 3))) := hT.below b0
  have B0 := Lib.hid b0
  clear hT b0
  go_enter Tryd.func9, Tryd.ntmps9
  go_wp2_with fail
  refine (HR.out _ _ T0.out I0.out).mono ?_
  rintro e w1 ⟨rfl, rfl⟩
  generalize (w.alloc (.cells #[.int .i64 1, .int .i64 2, .int .i64 1] 3)) = W0 at *
  go_wp2_with fail
  refine (HN.out _ T0.out).mono ?_
  rintro e w1 ⟨rfl, rfl⟩
  go_wp2_with fail
  refine (HM.out _ T0.out).mono ?_
  rintro e w1 ⟨rfl, rfl⟩
  go_wp2_with fail
  refine (HA.out _).mono ?_
  rintro e w1 ⟨rfl, rfl⟩
  go_wp2
  go_ret
  exact ⟨rfl, B0.out⟩
theorem leads_is (w : World) (hT : TabOk w) (p e : Int) : Calls Tryd.prog 5 #[.int .i64 p, .int .i64 e] w (TrueBelow w) := by
  obtain ⟨a, b, hab⟩ : ∃ a b, nextP p e = (a, b) := ⟨_, _, rfl⟩
  obtain ⟨s, hs⟩ : ∃ s, nameP p = s := ⟨_, rfl⟩
  obtain ⟨r, hr⟩ : ∃ r, awayP p e = r := ⟨_, rfl⟩
  have HN := Lib.hid (next_is w hT hab)
  have HN2 := Lib.hid (rnext_is w hab)
  have HM := Lib.hid (name_is w hT hs)
  have HM2 := Lib.hid (rname_is w hs)
  have HA := Lib.hid fun W => away_is W hr
  have HA2 := Lib.hid fun W => raway_is W hr
  have z1 : (a == a) = true := by simp
  have z2 : (b == b) = true := by simp
  have z3 : (s.toList == s.toList) = true := by simp
  have z4 : (r == r) = true := by simp
  clear hT hab hs hr
  go_enter Tryd.func5, Tryd.ntmps5
  go_wp2_with fail
  refine HN.out.mono ?_
  rintro x w1 ⟨rfl, rfl⟩
  go_wp2_with fail
  refine HN2.out.mono ?_
  rintro x w1 ⟨rfl, rfl⟩
  go_wp2_with fail
  refine HM.out.mono ?_
  rintro x w1 ⟨rfl, rfl⟩
  go_wp2_with fail
  refine HM2.out.mono ?_
  rintro x w1 ⟨rfl, b1⟩
  have B1 := Lib.hid b1
  clear b1
  go_wp2_with fail
  refine (HA.out _).mono ?_
  rintro x w2 ⟨rfl, rfl⟩
  go_wp2_with fail
  refine (HA2.out _).mono ?_
  rintro x w2 ⟨rfl, rfl⟩
  go_wp2
  go_ret
  exact ⟨rfl, B1.out⟩
theorem runs_is (w : World) (hT : TabOk w) {A : Option Addr} {n c : Nat} {l : List Int} (hl : IntsAt w A l) (hn : l.length = n) (hs : n ≤ 9223372036854775807) (p : Int) : Calls Tryd.prog 6 #[.int .i64 p, .slice A n c] w (TrueBelow w) := by
  obtain ⟨a, b, hab⟩ : ∃ a b, runP p l 0 = (a, b) := ⟨_, _, rfl⟩
  have HN := Lib.hid (run_is w hT (c := c) hl hn hs hab)
  have HN2 := Lib.hid (rrun_is w (c := c) hl hn hs hab)
  have z1 : (a == a) = true := by simp
  have z2 : (b == b) = true := by simp
  clear hT hab hl hn hs
  go_enter Tryd.func6, Tryd.ntmps6
  go_wp2_with fail
  refine HN.out.mono ?_
  rintro x w1 ⟨rfl, rfl⟩
  go_wp2_with fail
  refine HN2.out.mono ?_
  rintro x w1 ⟨rfl, rfl⟩
  go_wp2
  go_ret
  exact ⟨rfl, Below.refl _ _⟩
set_option maxHeartbeats 1600000 in
theorem leads_any {w : World} (hT : TabOk w) (p e : Int) {A : Option Addr} {n c : Nat} {l : List Int} (hl : IntsAt w A l) (hn : l.length = n) (hs : n ≤ 9223372036854775807) (s : ByteArray) :
    Calls Tryd.prog 3 #[.agg #[.int .i64 p, .int .i64 e], .slice A n c, .string s] w (TrueBelow w) := by
  have n0 := pair_row w p e 22
  have b0 := new_below w (.cells #[.int .i64 p, .int .i64 e] 22)
  have HL := Lib.hid (hl.below b0)
  have HT := Lib.hid (hT.below b0)
  obtain ⟨r, hr⟩ : ∃ r, findFrom s 4 0 = r := ⟨_, rfl⟩
  have HF1 := Lib.hid fun W hT => find_is W hT s hr
  have HF2 := Lib.hid fun W => rfind_is W s hr
  have z : (r == r) = true := by simp
  clear hT hl hr
  go_enter Tryd.func3, Tryd.ntmps3
  go_upto_region 1 with fail
  generalize w.alloc (.cells #[.int .i64 p, .int .i64 e] 22) = W0 at *
  have B0 := Lib.hid b0
  have c0 : ∀ k, (W0.drewN k).cell? ⟨w.heap.size, 0, none⟩ = some (.int .i64 p) := fun k => World.rowIs.cell (row_drewN n0 k) (i := 0) (by omega)
  have c1 : ∀ k, (W0.drewN k).cell? ⟨w.heap.size, 1, none⟩ = some (.int .i64 e) := fun k => World.rowIs.cell (row_drewN n0 k) (i := 1) (by omega)
  have c00 := c0 0
  have c10 := c1 0
  clear n0 b0
  go_quiet (fail)
  clear c0 c1 c00 c10
  obtain ⟨W1, hW1⟩ : ∃ W1, W0.drewN nq = W1 := ⟨_, rfl⟩
  have B1 : Hid (Below w.heap.size w W1) := by rw [← hW1]; exact below_drewN B0.out nq
  have T1 : Hid (TabOk W1) := by rw [← hW1]; exact ⟨HT.out.name, HT.out.lead⟩
  have L1 : Hid (IntsAt W1 A l) := by rw [← hW1]; exact HL.out
  rw [hW1]
  clear hW1
  go_wp2_with fail
  refine (leads_is _ T1.out _ _).mono ?_
  rintro x w1 ⟨rfl, b1⟩
  have T2 := Lib.hid (T1.out.below b1)
  have L2 := Lib.hid (L1.out.below b1)
  have B2 : Hid (Below w.heap.size w w1) := step_below B1.out b1
  clear b1
  go_wp2_with fail
  refine (runs_is _ T2.out (c := c) L2.out hn hs _).mono ?_
  rintro x w2 ⟨rfl, b2⟩
  have T3 := Lib.hid (T2.out.below b2)
  have B3 : Hid (Below w.heap.size w w2) := step_below B2.out b2
  clear b2
  go_wp2_with fail
  refine (HF1.out _ T3.out).mono ?_
  rintro x w3 ⟨rfl, rfl⟩
  go_wp2_with fail
  refine (HF2.out _).mono ?_
  rintro x w3 ⟨rfl, b3⟩
  have T4 := Lib.hid (T3.out.below b3)
  have B4 : Hid (Below w.heap.size w w3) := step_below B3.out b3
  clear b3
  go_wp2_with fail
  refine (works_is _ T4.out).mono ?_
  rintro x w4 ⟨rfl, b4⟩
  have B5 : Hid (Below w.heap.size w w4) := step_below B4.out b4
  clear b4
  go_wp2
  go_ret
  exact ⟨rfl, B5.out⟩
set_option maxHeartbeats 1600000 in
theorem round_any {w : World} (hT : TabOk w) (p : Int) : Calls Tryd.prog 4 #[.int .i64 p] w (TrueBelow w) := by
  have HW := Lib.hid (works_is w hT)
  by_cases hp : 0 ≤ p ∧ p ≤ 3
  · have hp0 : ¬ p < 0 := by omega
    have hp1 : ¬ 3 < p := by omega
    obtain ⟨s, hs⟩ : ∃ s, nameP p = s := ⟨_, rfl⟩
    have HM := Lib.hid (name_is w hT hs)
    have HF : Hid (Calls Tryd.prog 7 #[.string s] w fun x w' => x = .returned (.int .i64 p) ∧ w = w') := find_is w hT s (by
      obtain ⟨j, rfl⟩ : ∃ j : Nat, p = (j : Int) := ⟨p.toNat, by omega⟩
      exact find_name 4 0 j rfl (by omega) (by omega) (by rw [← hs, nameP_in (by omega)]))
    have HX : Hid (∀ (p e a b : Int), nextP p e = (a, b) → Calls Tryd.prog 11 #[.int .i64 p, .int .i64 e] w fun x w' => x = .returned (.tuple #[.int .i64 a, .int .i64 b]) ∧ w = w') := fun p e a b h => next_is w hT h
    have HP := Lib.hid hp
    have z : (p == p) = true := by simp
    clear hs hp hT
    go_enter Tryd.func4, Tryd.ntmps4
    go_wp2
    clear hp0 hp1
    go_loopw [3, 4] (fun vx vk wr => ∃ (k x : Int), vx = .int .i64 x ∧ vk = .int .i64 k ∧ Hid (1 ≤ k ∧ k ≤ 5 ∧ x = (p + (k - 1)) % 4) ∧ w = wr) (fun _ vk _ => (5 - RowKit.intOf vk).toNat)
    case atStart => exact ⟨1, p, rfl, rfl, by have := HP.out; show _ ∧ _; omega, rfl⟩
    case round =>
      obtain ⟨k, x, rfl, rfl, HK, rfl⟩ := hrel
      by_cases hk : k ≤ 4
      · obtain ⟨y, hy⟩ : ∃ y, (x + 1) % 4 = y := ⟨_, rfl⟩
        have HN := Lib.hid (HX.out x (x + 1) y 0 (by rw [nextP_yes (by have := HK.out; omega), hy]))
        have hw : IntKind.i64.wrap (x + 1) = x + 1 := IntWalk.i64_in _ (by have := HK.out; omega)
        have hw2 : IntKind.i64.wrap (k + 1) = k + 1 := IntWalk.i64_in _ (by have := HK.out; omega)
        have HK2 : Hid (1 ≤ k + 1 ∧ k + 1 ≤ 5 ∧ y = (p + (k + 1 - 1)) % 4) := by have := HK.out; show _ ∧ _; omega
        have hm : (5 - (k + 1)).toNat < (5 - k).toNat := by omega
        obtain ⟨q, h1, h2⟩ : ∃ q, (y == p) = q ∧ (k == 4) = q := by
          refine ⟨_, rfl, ?_⟩
          have := HK.out
          have := HP.out
          rw [Bool.eq_iff_iff, beq_iff_eq, beq_iff_eq]
          omega
        clear hy HK
        go_wp2_with fail
        refine HN.out.mono ?_
        rintro e w1 ⟨rfl, rfl⟩
        cases q with
        | false =>
          go_wp2
          go_roundw
          case rel => exact ⟨k + 1, y, rfl, rfl, HK2.out, trivial⟩
          case measure => exact hm
        | true =>
          go_wp2
          go_roundw
          case rel => exact ⟨k + 1, y, rfl, rfl, HK2.out, trivial⟩
          case measure => exact hm
      · go_wp2_with fail
        refine HM.out.mono ?_
        rintro e w1 ⟨rfl, rfl⟩
        go_wp2_with fail
        refine HF.out.mono ?_
        rintro e w1 ⟨rfl, rfl⟩
        go_wp2_with fail
        refine HW.out.mono ?_
        rintro e w1 ⟨rfl, b1⟩
        go_wp2
        go_ret
        exact ⟨rfl, b1⟩
  · have HM := Lib.hid (name_is w hT (nameP_no (show p < 0 ∨ 3 < p by omega)))
    by_cases hp0 : p < 0
    · clear hT hp
      go_enter Tryd.func4, Tryd.ntmps4
      go_wp2_with fail
      refine HM.out.mono ?_
      rintro e w1 ⟨rfl, rfl⟩
      go_wp2_with fail
      refine HW.out.mono ?_
      rintro e w1 ⟨rfl, b1⟩
      go_wp2
      go_ret
      exact ⟨rfl, b1⟩
    · have hp1 : 3 < p := by omega
      clear hT hp
      go_enter Tryd.func4, Tryd.ntmps4
      go_wp2_with fail
      refine HM.out.mono ?_
      rintro e w1 ⟨rfl, rfl⟩
      go_wp2_with fail
      refine HW.out.mono ?_
      rintro e w1 ⟨rfl, b1⟩
      go_wp2
      go_ret
      exact ⟨rfl, b1⟩
end Go.Proofs.YtifabfggjddfpaaDoor
