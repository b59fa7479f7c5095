/- Layer 7 (handle): the rows of parts in memory, what may and Put return, and the document's own beyond and Put: contracts. -/
import Derived.Test.YtgkmghhplepnnaaDoorBase
namespace Go.Proofs.YtgkmghhplepnnaaDoor
open Go.RowKit

/-! ### plain mathematics -/
def InInt (x : Int) : Prop := -9223372036854775808 ≤ x ∧ x ≤ 9223372036854775807
def overB (x : Int) : Bool := decide (x < 0) || decide (1048576 ≤ x)
def putE (k p g o : Int) : Int := if k < 1 ∨ 3 < k then 1 else if overB p = true ∨ overB g = true ∨ overB o = true then 6 else 0
def putV (k p g o : Int) : Int := if putE k p g o = 0 then k * 1152921504606846976 + p * 1099511627776 + g * 1048576 + o else 0
theorem overB_iff {x : Int} : overB x = true ↔ x < 0 ∨ 1048576 ≤ x := by unfold overB; simp
theorem overB_not {x : Int} : overB x = false ↔ 0 ≤ x ∧ x < 1048576 := by unfold overB; simp
theorem putE_kind {k : Int} (p g o : Int) (h : k < 1 ∨ 3 < k) : putE k p g o = 1 := if_pos h
theorem putE_over {k p g o : Int} (h : 1 ≤ k ∧ k ≤ 3) (h' : overB p = true ∨ overB g = true ∨ overB o = true) : putE k p g o = 6 := by
  unfold putE; rw [if_neg (by omega), if_pos h']
theorem putE_ok {k p g o : Int} (h : 1 ≤ k ∧ k ≤ 3) (hp : overB p = false) (hg : overB g = false) (ho : overB o = false) : putE k p g o = 0 := by
  unfold putE; rw [if_neg (by omega), if_neg (by simp [hp, hg, ho])]
theorem putV_no {k p g o : Int} (h : putE k p g o ≠ 0) : putV k p g o = 0 := if_neg h
theorem putV_yes {k p g o : Int} (h : putE k p g o = 0) : putV k p g o = k * 1152921504606846976 + p * 1099511627776 + g * 1048576 + o := if_pos h
theorem putE_zero {k p g o : Int} : putE k p g o = 0 ↔ (1 ≤ k ∧ k ≤ 3) ∧ overB p = false ∧ overB g = false ∧ overB o = false := by
  unfold putE
  by_cases h : k < 1 ∨ 3 < k
  · rw [if_pos h]; omega
  · rw [if_neg h]
    cases hp : overB p <;> cases hg : overB g <;> cases ho : overB o <;> simp <;> omega

/-! ### the rows of parts -/
def partV : Nat → Int
  | 0 => 1 | 1 => 3 | 2 => 1152921504606846976 | 3 => 1
  | 4 => 0 | 5 => 1048575 | 6 => 1099511627776 | 7 => 6
  | 8 => 0 | 9 => 1048575 | 10 => 1048576 | 11 => 6
  | 12 => 0 | 13 => 1048575 | 14 => 1 | _ => 6
/-- The block of handle.parts holds what its initialiser lays. -/
def TabOk (w : World) : Prop := ∀ j, j < 16 → w.cell? ⟨0, j, none⟩ = some (.int .i64 (partV j))
theorem TabOk.keep {w w' : World} (h : TabOk w) (hb : ∀ i v, w.cell? ⟨0, i, none⟩ = some v → w'.cell? ⟨0, i, none⟩ = some v) : TabOk w' := fun j hj => hb _ _ (h j hj)
theorem TabOk.lt {w : World} (h : TabOk w) : 0 < w.heap.size := by
  have := h 0 (by omega)
  rcases Nat.lt_or_ge 0 w.heap.size with hl | hl
  · exact hl
  · simp [World.cell?, Array.getElem?_eq_none hl] at this
theorem TabOk.drewN {w : World} (h : TabOk w) (n : Nat) : TabOk (w.drewN n) := h
theorem TabOk.below {B : Nat} {w w' : World} (h : TabOk w) (hb : Below B w w') (hB : 0 < B) : TabOk w' := h.keep fun _ _ hc => (hb.cell hB).trans hc
theorem TabOk.grown {w w' : World} {row : Option Nat} (h : TabOk w) (hg : w.grownBy w' row) (hne : some 0 ≠ row) : TabOk w' := h.keep fun _ _ hc => hg.cell hc hne
theorem TabOk.alloc {w : World} (h : TabOk w) (o : Obj) : TabOk (w.alloc o) := h.grown (World.grownBy_alloc w o none) (by simp)

/-! ### may -/
theorem may_is {a b c d n : Int} {r : Bool} (w : World) (hr : decide (a ≤ n ∧ n ≤ b) = r) :
    Calls Tryd.prog 12 #[.agg #[.int .i64 a, .int .i64 b, .int .i64 c, .int .i64 d], .int .i64 n] w fun e w' => e = .returned (.bool r) ∧ Below w.heap.size w w' := by
  by_cases h1 : a ≤ n
  · by_cases h2 : n ≤ b
    · have e : true = r := by rw [← hr]; exact (decide_eq_true ⟨h1, h2⟩).symm
      subst e
      clear hr
      go_enter Tryd.func12, Tryd.ntmps12
      go_wp2
      go_ret
      exact ⟨rfl, (Below.refl _ _).alloc (Nat.le_refl _) _⟩
    · have e : false = r := by rw [← hr]; exact (decide_eq_false fun h => h2 h.2).symm
      subst e
      clear hr
      go_enter Tryd.func12, Tryd.ntmps12
      go_wp2
      go_ret
      exact ⟨rfl, (Below.refl _ _).alloc (Nat.le_refl _) _⟩
  · have e : false = r := by rw [← hr]; exact (decide_eq_false fun h => h1 h.1).symm
    subst e
    clear hr
    go_enter Tryd.func12, Tryd.ntmps12
    go_wp2
    go_ret
    exact ⟨rfl, (Below.refl _ _).alloc (Nat.le_refl _) _⟩

/-! ### the document's own -/
theorem beyond_is {n : Int} {r : Bool} (w : World) (hr : overB n = r) : Calls Tryd.prog 13 #[.int .i64 n] w fun e w' => e = .returned (.bool r) ∧ w = w' := by
  by_cases h1 : n < 0
  · have e : true = r := by rw [← hr]; exact (overB_iff.2 (.inl h1)).symm
    subst e
    clear hr
    go_enter Tryd.func13, Tryd.ntmps13
    go_wp2
    go_ret
    exact ⟨rfl, rfl⟩
  · by_cases h2 : 1048576 ≤ n
    · have e : true = r := by rw [← hr]; exact (overB_iff.2 (.inr h2)).symm
      subst e
      clear hr
      go_enter Tryd.func13, Tryd.ntmps13
      go_wp2
      go_ret
      exact ⟨rfl, rfl⟩
    · have e : false = r := by rw [← hr]; exact (overB_not.2 ⟨by omega, by omega⟩).symm
      subst e
      clear hr
      go_enter Tryd.func13, Tryd.ntmps13
      go_wp2
      go_ret
      exact ⟨rfl, rfl⟩
theorem rput_any (k p g o : Int) (w : World) : Calls Tryd.prog 6 #[.int .i64 k, .int .i64 p, .int .i64 g, .int .i64 o] w fun e w' => e = .returned (.tuple #[.int .i64 (putV k p g o), .int .i64 (putE k p g o)]) ∧ w = w' := by
  by_cases hk : k < 1 ∨ 3 < k
  · have e := putE_kind p g o hk
    rw [putV_no (by rw [e]; decide), e]
    clear e
    rcases hk with hk | hk
    · go_enter Tryd.func6, Tryd.ntmps6
      go_wp2
      go_ret2
      exact ⟨rfl, rfl⟩
    · have hk' : ¬ k < 1 := by omega
      go_enter Tryd.func6, Tryd.ntmps6
      go_wp2
      go_ret2
      exact ⟨rfl, rfl⟩
  · have hk1 : 1 ≤ k ∧ k ≤ 3 := by omega
    clear hk
    cases hp : overB p with
    | true =>
      have e := putE_over hk1 (.inl hp : overB p = true ∨ overB g = true ∨ overB o = true)
      rw [putV_no (by rw [e]; decide), e]
      have HP := Lib.hid hp
      clear e hp
      go_enter Tryd.func6, Tryd.ntmps6
      go_wp2_with (go_at_call 13; refine (beyond_is _ HP.out).mono ?_; rintro e w' ⟨rfl, rfl⟩)
      go_ret2
      exact ⟨rfl, rfl⟩
    | false =>
      cases hg : overB g with
      | true =>
        have e := putE_over hk1 (.inr (.inl hg) : overB p = true ∨ overB g = true ∨ overB o = true)
        rw [putV_no (by rw [e]; decide), e]
        have HP := Lib.hid hp
        have HG := Lib.hid hg
        clear e hp hg
        go_enter Tryd.func6, Tryd.ntmps6
        go_wp2_with fail
        refine (beyond_is _ HP.out).mono ?_
        rintro e w' ⟨rfl, rfl⟩
        go_wp2_with fail
        refine (beyond_is _ HG.out).mono ?_
        rintro e w' ⟨rfl, rfl⟩
        go_wp2
        go_ret2
        exact ⟨rfl, rfl⟩
      | false =>
        cases ho : overB o with
        | true =>
          have e := putE_over hk1 (.inr (.inr ho) : overB p = true ∨ overB g = true ∨ overB o = true)
          rw [putV_no (by rw [e]; decide), e]
          have HP := Lib.hid hp
          have HG := Lib.hid hg
          have HO := Lib.hid ho
          clear e hp hg ho
          go_enter Tryd.func6, Tryd.ntmps6
          go_wp2_with fail
          refine (beyond_is _ HP.out).mono ?_
          rintro e w' ⟨rfl, rfl⟩
          go_wp2_with fail
          refine (beyond_is _ HG.out).mono ?_
          rintro e w' ⟨rfl, rfl⟩
          go_wp2_with fail
          refine (beyond_is _ HO.out).mono ?_
          rintro e w' ⟨rfl, rfl⟩
          go_wp2
          go_ret2
          exact ⟨rfl, rfl⟩
        | false =>
          have e := putE_ok hk1 hp hg ho
          have e2 : ((k * 1048576 + p) * 1048576 + g) * 1048576 + o = putV k p g o := by rw [putV_yes e]; omega
          rw [e]
          have p1 := overB_not.1 hp
          have g1 := overB_not.1 hg
          have o1 := overB_not.1 ho
          have HP := Lib.hid hp
          have HG := Lib.hid hg
          have HO := Lib.hid ho
          have E2 := Lib.hid e2
          clear e hp hg ho e2
          go_enter Tryd.func6, Tryd.ntmps6
          go_wp2_with fail
          refine (beyond_is _ HP.out).mono ?_
          rintro e w' ⟨rfl, rfl⟩
          go_wp2_with fail
          refine (beyond_is _ HG.out).mono ?_
          rintro e w' ⟨rfl, rfl⟩
          go_wp2_with fail
          refine (beyond_is _ HO.out).mono ?_
          rintro e w' ⟨rfl, rfl⟩
          go_wp2
          go_ret2
          rw [E2.out]
          exact ⟨rfl, rfl⟩
end Go.Proofs.YtgkmghhplepnnaaDoor
