/- Layer 11 (digits): what Hex returns: a contract. -/
import Derived.Test.YtcafppconcghhaaDoorDigitsFmt
namespace Go.Proofs.YtcafppconcghhaaDoor
open Go.RowKit

theorem fmtInt_is {B : Nat} (w : World) {U : Nat} (hU : U ≤ 9223372036854775807) (hT : Tabs B w) (hB : B ≤ w.heap.size) {S : ByteArray} (hS : mkT (hexD U) = S) : Calls Tryd.prog 34 #[.int .i64 U, .int .i64 16] w fun e w' => e = .returned (.string S) ∧ Below w.heap.size w w' := by
  have HC := Lib.hid (fmtBits_is w hU hT hB hS)
  have hU0 : ¬ (U : Int) < 0 := by omega
  clear hT hB hS
  have HF : Hid (Calls Tryd.prog 42 #[.int .i64 U, .int .i64 16] w fun e w' => e = .returned (.string S) ∧ Below w.heap.size w w') := by
    show Calls _ _ _ _ _
    go_enter Tryd.func42, Tryd.ntmps42
    go_wp2_with fail
    refine HC.out.mono ?_
    rintro e w1 ⟨rfl, hb⟩
    go_wp2
    go_ret
    exact ⟨rfl, hb⟩
  clear HC
  go_enter Tryd.func34, Tryd.ntmps34
  go_wp2_with fail
  refine HF.out.mono ?_
  rintro e w1 ⟨rfl, hb⟩
  go_wp2
  go_ret
  exact ⟨rfl, hb⟩
theorem rep_zero : ∀ k, Lib.repeatL [48] k = List.replicate k 48
  | 0 => by simp [Lib.repeatL]
  | k + 1 => by
    have := rep_zero k
    simp [Lib.repeatL, List.replicate_succ] at this ⊢
    exact this
set_option maxHeartbeats 1000000 in
theorem hex_is {B : Nat} (w : World) {N wide : Int} (hN : -9223372036854775808 ≤ N ∧ N ≤ 9223372036854775807) (hT : Tabs B w) (hB : B ≤ w.heap.size) {S : ByteArray} (hS : mkT (hexE N wide) = S) : Calls Tryd.prog 23 #[.int .i64 N, .int .i64 wide] w fun e w' => e = .returned (.string S) ∧ Below w.heap.size w w' := by
  unfold hexE at hS
  by_cases hz : N < 0 ∨ wide < 1 ∨ 16 < wide
  · rw [if_pos hz] at hS
    subst hS
    clear hT
    go_enter Tryd.func23, Tryd.ntmps23
    by_cases h1 : N < 0
    · go_wp2
      go_ret
      exact ⟨rfl, Below.refl _ _⟩
    · by_cases h2 : wide < 1
      · go_wp2
        go_ret
        exact ⟨rfl, Below.refl _ _⟩
      · have h3 : 16 < wide := by omega
        clear hz
        go_wp2
        go_ret
        exact ⟨rfl, Below.refl _ _⟩
  · rw [if_neg hz] at hS
    obtain ⟨U, rfl⟩ : ∃ U : Nat, N = U := ⟨N.toNat, by omega⟩
    obtain ⟨V, rfl⟩ : ∃ V : Nat, wide = V := ⟨wide.toNat, by omega⟩
    have hU : U ≤ 9223372036854775807 := by omega
    have hV : 1 ≤ V ∧ V ≤ 16 := by omega
    obtain ⟨hV1, hV2⟩ := hV
    have h1 : ¬ (U : Int) < 0 := by omega
    have h2 : ¬ (V : Int) < 1 := by omega
    have h3 : ¬ 16 < (V : Int) := by omega
    rw [Int.toNat_natCast, Int.toNat_natCast] at hS
    have hL := hexD_length 16 U (by omega) (by omega)
    have HC := Lib.hid (fmtInt_is w hU hT hB rfl)
    have hsz := mk_size (hexD U)
    obtain ⟨k, hk⟩ : ∃ k, V - (hexD U).length = k := ⟨_, rfl⟩
    have hk16 : k ≤ 16 := by omega
    have HR : Hid (∀ W, Calls Tryd.prog 35 #[.string ⟨#[48]⟩, .int .i64 k] W fun e w' => e = .returned (.string (mkT (List.replicate k 48))) ∧ Below W.heap.size W w') := fun W => by
      refine (Tryd.strings_Repeat ⟨#[48]⟩ k W (by omega) (by show 1 * k ≤ _; omega)).mono ?_
      rintro e w' ⟨rfl, hb⟩
      refine ⟨?_, hb⟩
      rw [← rep_zero]
    have hmax : max ((V : Int) - ((hexD U).length : Int)) 0 = (k : Int) := by omega
    have hadd : ∀ W, (Op.stringOp .add (mkT (List.replicate k 48)) (mkT (hexD U))).run Tryd.prog W = .ok (.string S) W := fun W => by
      refine (str_add W (by rw [mk_size, mk_size, List.length_replicate]; omega)).trans ?_
      rw [mk_append, ← hS]
      unfold pad
      rw [hk]
    clear hS hz hN hT
    generalize hexD U = L at *
    generalize L.length = m at *
    generalize mkT L = D at *
    generalize mkT (List.replicate k 48) = Z at *
    go_enter Tryd.func23, Tryd.ntmps23
    go_wp2_with fail
    refine HC.out.mono ?_
    rintro e w1 ⟨rfl, hb1⟩
    go_wp2_with fail
    first
      | rw [hmax]
      | skip
    refine (HR.out _).mono ?_
    rintro e w2 ⟨rfl, hb2⟩
    go_wp2
    go_ret
    exact ⟨rfl, below_next hb1.size hb1 hb2⟩
end Go.Proofs.YtcafppconcghhaaDoor
