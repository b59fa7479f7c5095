/- Layer 11 (digits): what the document's Read and Within return: contracts. -/
import Derived.Test.YtcafppconcghhaaDoorDigitsRNum
namespace Go.Proofs.YtcafppconcghhaaDoor
open Go.RowKit
open Go.Lib (itoa)

theorem index_at {s : ByteArray} {j : Nat} (h : j < s.size) {b : Nat} (hb : (byteAt s j).toNat = b) : ∀ W, (Instr.index 9 (.string s) (.int .i64 (j : Int))).run Tryd.prog W = .ok (.int .u8 (b : Int)) W := fun W => by
  subst hb
  exact str_index W s h
theorem refSum_plain {l : List UInt8} (h : ∀ r, l ≠ 45 :: r) : refSum l = refL false 0 l := by
  unfold refSum
  split
  · rename_i r
    exact absurd rfl (h r)
  · rfl
theorem refL_yes {s : Bool} {n : Int} {b : UInt8} {r : List UInt8} (h1 : 48 ≤ b.toNat) (h2 : b.toNat ≤ 57) : refL s n (b :: r) = refL s (IntKind.i64.wrap (IntKind.i64.wrap (10 * n) + if s = true then -((b.toNat : Int) - 48) else (b.toNat : Int) - 48)) r := by rw [refL_step, if_pos ⟨h1, h2⟩]
theorem refL_no {s : Bool} {n : Int} {b : UInt8} {r : List UInt8} (h : ¬ (48 ≤ b.toNat ∧ b.toNat ≤ 57)) : refL s n (b :: r) = none := by rw [refL_step, if_neg h]

set_option maxHeartbeats 2000000 in
theorem refRead_is (w : World) (s : ByteArray) {n : Int} {k : Bool} (hr : readV (txt s) = (n, k)) : Calls Tryd.prog 9 #[.string s] w fun e w' => e = .returned (.tuple #[.int .i64 n, .bool k]) ∧ w = w' := by
  by_cases hz : 1 ≤ s.size ∧ s.size ≤ 20
  · obtain ⟨hz1, hz2⟩ := hz
    have HR := Lib.hid (ref_read (txt s))
    rw [hr] at HR
    clear hr
    obtain ⟨b0, hb0⟩ : ∃ b, (byteAt s 0).toNat = b := ⟨_, rfl⟩
    have hb0l : b0 < 256 := by rw [← hb0]; exact UInt8.toNat_lt _
    have hix0 : ∀ W, (Instr.index 9 (.string s) (.int .i64 0)).run Tryd.prog W = .ok (.int .u8 (b0 : Int)) W := index_at (j := 0) (by omega) hb0
    have g1 : ¬ (s.size : Int) < 1 := by omega
    have g2 : ¬ 20 < (s.size : Int) := by omega
    obtain ⟨neg, hneg⟩ : ∃ b : Bool, decide (b0 = 45) = b := ⟨_, rfl⟩
    have HN1 : Hid (neg = true → refSum (txt s) = refL true 0 (left s 1)) := fun h => by
      have e : byteAt s 0 = 45 := by
        rw [h] at hneg
        rw [byte_of hb0, of_decide_eq_true hneg]
        rfl
      rw [← left_zero, left_lt (by omega), e]
      rfl
    have HN2 : Hid (neg = false → refSum (txt s) = refL false 0 (left s 0)) := fun h => by
      refine refSum_plain fun r e => ?_
      rw [h] at hneg
      rw [← left_zero, left_lt (by omega)] at e
      injection e with e _
      rw [e] at hb0
      exact of_decide_eq_false hneg hb0.symm
    obtain ⟨m, hm⟩ : ∃ m, s.size = m := ⟨_, rfl⟩
    rw [hm] at hz1 hz2 g1 g2
    have hm' : (s.size : Int) = (m : Int) := by rw [hm]
    go_enter Tryd.func9, Tryd.ntmps9
    go_wp2
    go_loopw [4, 5] (fun a b wr => ∃ (v : Int) (i : Nat), a = .int .i64 v ∧ b = .int .i64 i ∧ i ≤ m ∧ -9223372036854775808 ≤ v ∧ v ≤ 9223372036854775807 ∧ Hid ((neg = true ∧ i = 0 ∧ v = 0) ∨ ((neg = true → 1 ≤ i) ∧ refL neg v (left s i) = refSum (txt s))) ∧ wr = w) (fun _ b _ => m - (RowKit.intOf b).toNat)
    case atStart =>
      refine ⟨0, 0, rfl, rfl, Nat.zero_le _, by omega, by omega, ?_, rfl⟩
      cases neg with
      | true => exact .inl ⟨rfl, rfl, rfl⟩
      | false => exact .inr ⟨(fun h => by cases h), (HN2.out rfl).symm⟩
    case round =>
      obtain ⟨v, i, rfl, rfl, hi, hv1, hv2, HI, rfl⟩ := hrel
      have hms : m - (i + 1) < m - i ∨ ¬ i < m := by omega
      have hw : ∀ x, IntKind.i64.wrap x = wrap64 x := fun x => by unfold wrap64; rw [IntKind.wrap_i64]
      by_cases hc : i < m
      · have hms : m - (i + 1) < m - i := by omega
        by_cases hA : neg = true ∧ i = 0
        · obtain ⟨hn, hi0⟩ := hA
          subst hi0
          have hv0 : v = 0 := by
            rcases HI.out with h | h
            · exact h.2.2
            · exact absurd (h.1 hn) (by omega)
          subst hv0
          have HI2 : Hid ((neg = true ∧ 1 = 0 ∧ (0 : Int) = 0) ∨ ((neg = true → 1 ≤ 1) ∧ refL neg 0 (left s 1) = refSum (txt s))) := .inr ⟨fun _ => Nat.le_refl _, by rw [HN1.out hn, hn]⟩
          rw [hn] at hneg
          rw [of_decide_eq_true hneg] at hix0
          have hix0 : ∀ W, (Instr.index 9 (.string s) (.int .i64 0)).run Tryd.prog W = .ok (.int .u8 45) W := hix0
          clear HI HN1 HN2 HR hneg hb0 hb0l hn hw
          go_wp2
          go_roundw
          case rel => exact ⟨0, 1, rfl, rfl, hc, hv1, hv2, HI2, by trivial⟩
          case measure => exact hms
        · have hI : (neg = true → 1 ≤ i) ∧ refL neg v (left s i) = refSum (txt s) := by
            rcases HI.out with h | h
            · exact absurd ⟨h.1, h.2.1⟩ hA
            · exact h
          obtain ⟨hI1, hI2⟩ := hI
          rw [left_lt (by omega)] at hI2
          obtain ⟨c, hcb⟩ : ∃ c, (byteAt s i).toNat = c := ⟨_, rfl⟩
          have hcl : c < 256 := by rw [← hcb]; exact UInt8.toNat_lt _
          have hix := index_at (s := s) (j := i) (by omega) hcb
          clear HI hA
          by_cases hd : 48 ≤ c ∧ c ≤ 57
          · obtain ⟨hd1, hd2⟩ := hd
            rw [refL_yes (by omega) (by omega), hcb, hw, hw] at hI2
            have hw1 : ∀ x, -9223372036854775808 ≤ wrap64 x := fun x => by unfold wrap64; omega
            have hw2 : ∀ x, wrap64 x ≤ 9223372036854775807 := fun x => by unfold wrap64; omega
            have q1 : ¬ (c : Int) < 48 := by omega
            have q2 : ¬ 57 < (c : Int) := by omega
            have q3 : ¬ c < 48 := by omega
            have q4 : ¬ 57 < c := by omega
            cases neg with
            | true =>
              have hi1 := hI1 rfl
              have hi0 : ¬ (i : Int) = 0 := by omega
              have hi0' : ¬ i = 0 := by omega
              have HI2 := Lib.hid hI2
              rw [of_decide_eq_true hneg] at hix0
              have hix0 : ∀ W, (Instr.index 9 (.string s) (.int .i64 0)).run Tryd.prog W = .ok (.int .u8 45) W := hix0
              have hw1 := Lib.hid hw1
              have hw2 := Lib.hid hw2
              clear HN1 HN2 HR hneg hb0 hb0l hw hI1 hI2 hcb hcl
              go_wp2
              go_roundw
              case rel => exact ⟨_, i + 1, rfl, rfl, hc, hw1.out _, hw2.out _, .inr ⟨fun _ => by omega, HI2.out⟩, by trivial⟩
              case measure => exact hms
            | false =>
              have HI2 := Lib.hid hI2
              have hb45 : ¬ (b0 : Int) = 45 := by have := of_decide_eq_false hneg; omega
              have hb45' : ¬ b0 = 45 := of_decide_eq_false hneg
              have hw1 := Lib.hid hw1
              have hw2 := Lib.hid hw2
              clear HN1 HN2 HR hneg hb0 hw hI1 hI2 hcb hcl
              by_cases hi0 : i = 0
              · subst hi0
                have hix : ∀ W, (Instr.index 9 (.string s) (.int .i64 0)).run Tryd.prog W = .ok (.int .u8 (c : Int)) W := hix
                have hcb0 : c = b0 := by
                  have h := (hix wr).symm.trans (hix0 wr)
                  injection h with h _
                  injection h with _ h
                  omega
                subst hcb0
                go_wp2
                go_roundw
                case rel => exact ⟨_, 0 + 1, rfl, rfl, hc, hw1.out _, hw2.out _, .inr ⟨(fun h => by cases h), HI2.out⟩, by trivial⟩
                case measure => exact hms
              · have hi0 : ¬ (i : Int) = 0 := by omega
                go_wp2
                go_roundw
                case rel => exact ⟨_, i + 1, rfl, rfl, hc, hw1.out _, hw2.out _, .inr ⟨(fun h => by cases h), HI2.out⟩, by trivial⟩
                case measure => exact hms
          · rw [refL_no (by omega)] at hI2
            have hr := HR.out
            rw [← hI2] at hr
            injection hr with e1 e2
            subst e1 e2
            clear HN1 HN2 HR hw hI2 hcb hms
            have HG : Hid ((neg = true ∧ ¬ (i : Int) = 0) ∨ (neg = false ∧ ¬ (b0 : Int) = 45)) := by
              cases neg with
              | true => exact .inl ⟨rfl, by have := hI1 rfl; omega⟩
              | false => exact .inr ⟨rfl, by have := of_decide_eq_false hneg; omega⟩
            clear hI1 hneg
            have HD : Hid (c < 48 ∨ (¬ c < 48 ∧ 57 < c)) := by
              show _ ∨ _
              omega
            by_cases hi0 : i = 0
            · subst hi0
              have hix : ∀ W, (Instr.index 9 (.string s) (.int .i64 0)).run Tryd.prog W = .ok (.int .u8 (c : Int)) W := hix
              have hcb0 : c = b0 := by
                have h := (hix wr).symm.trans (hix0 wr)
                injection h with h _
                injection h with _ h
                omega
              subst hcb0
              have hb45 : ¬ (c : Int) = 45 := by
                rcases HG.out with h | h
                · exact absurd rfl h.2
                · exact h.2
              rcases HD.out with q1 | ⟨q1, q2⟩
              · have q3 : (c : Int) < 48 := by omega
                go_wp2
                go_ret2
                exact ⟨rfl, rfl⟩
              · have q3 : ¬ (c : Int) < 48 := by omega
                have q4 : 57 < (c : Int) := by omega
                go_wp2
                go_ret2
                exact ⟨rfl, rfl⟩
            · have hi0' : ¬ (i : Int) = 0 := by omega
              rcases HD.out with q1 | ⟨q1, q2⟩
              · have q3 : (c : Int) < 48 := by omega
                go_wp2
                go_ret2
                exact ⟨rfl, rfl⟩
              · have q3 : ¬ (c : Int) < 48 := by omega
                have q4 : 57 < (c : Int) := by omega
                go_wp2
                go_ret2
                exact ⟨rfl, rfl⟩
      · have hI : refL neg v (left s i) = refSum (txt s) := by
          rcases HI.out with h | h
          · exact absurd h.2.1 (by omega)
          · exact h.2
        rw [left_end (by omega)] at hI
        have hI : some v = refSum (txt s) := hI
        have hr := HR.out
        rw [← hI] at hr
        have hr : (n, k) = if itoa v = txt s then (v, true) else (0, false) := hr
        clear HI HR HN1 HN2 hI hms hix0 hneg hb0 hw
        by_cases he : itoa v = txt s
        · rw [if_pos he] at hr
          injection hr with e1 e2
          subst e1 e2
          have HC := Lib.hid (refNum_is wr ⟨hv1, hv2⟩ (S := s) (by rw [he]))
          clear he
          go_wp2_with fail
          refine HC.out.mono ?_
          rintro e w1 ⟨rfl, rfl⟩
          go_wp2
          go_ret2
          exact ⟨rfl, rfl⟩
        · rw [if_neg he] at hr
          injection hr with e1 e2
          subst e1 e2
          have HC := Lib.hid (refNum_is wr ⟨hv1, hv2⟩ (S := mkT (itoa v)) rfl)
          have hne : ((mkT (itoa v)).toList == s.toList) = false := by
            rw [ByteArray.toList_eq, ByteArray.toList_eq, beq_eq_false_iff_ne]
            exact he
          clear he
          generalize mkT (itoa v) = S at *
          go_wp2_with fail
          refine HC.out.mono ?_
          rintro e w1 ⟨rfl, rfl⟩
          go_wp2
          go_ret2
          exact ⟨rfl, rfl⟩
  · have e0 := readV_long (l := txt s) hz
    rw [e0] at hr
    injection hr with e1 e2
    subst e1 e2
    by_cases h1 : s.size < 1
    · have g1 : (s.size : Int) < 1 := by omega
      go_enter Tryd.func9, Tryd.ntmps9
      go_wp2
      go_ret2
      exact ⟨rfl, rfl⟩
    · have g1 : ¬ (s.size : Int) < 1 := by omega
      have g2 : 20 < (s.size : Int) := by omega
      clear h1 hz e0
      go_enter Tryd.func9, Tryd.ntmps9
      go_wp2
      go_ret2
      exact ⟨rfl, rfl⟩
theorem refWithin_is (w : World) (s : ByteArray) (low high : Int) {n : Int} {k : Bool} (hr : withinV (readV (txt s)) low high = (n, k)) : Calls Tryd.prog 11 #[.string s, .int .i64 low, .int .i64 high] w fun e w' => e = .returned (.tuple #[.int .i64 n, .bool k]) ∧ w = w' := by
  obtain ⟨m, km, hm⟩ : ∃ m km, readV (txt s) = (m, km) := ⟨_, _, rfl⟩
  have HC := Lib.hid (refRead_is w s hm)
  rw [hm] at hr
  clear hm
  unfold withinV at hr
  go_enter Tryd.func11, Tryd.ntmps11
  go_wp2_with fail
  refine HC.out.mono ?_
  rintro e w1 ⟨rfl, rfl⟩
  have HR := Lib.hid hr
  clear hr HC
  cases km with
  | false =>
    have hr := HR.out
    rw [if_neg (by simp)] at hr
    injection hr with e1 e2
    subst e1 e2
    go_wp2
    go_ret2
    exact ⟨rfl, rfl⟩
  | true =>
    go_wp2
    all_goals first
      | (have hr := HR.out
         rw [if_pos ⟨by trivial, by omega, by omega⟩] at hr
         injection hr with e1 e2
         subst e1 e2
         go_ret2
         exact ⟨rfl, rfl⟩)
      | (have hr := HR.out
         rw [if_neg (by rintro ⟨_, h1, h2⟩; omega)] at hr
         injection hr with e1 e2
         subst e1 e2
         go_ret2
         exact ⟨rfl, rfl⟩)
end Go.Proofs.YtcafppconcghhaaDoor
