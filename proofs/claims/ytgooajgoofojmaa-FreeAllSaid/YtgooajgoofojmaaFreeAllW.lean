/- The walk of FreeAll. -/
import Derived.Test.YtgooajgoofojmaaFreeNew
namespace Go.Proofs.Ytgooajgoofojmaa
open Go.RowKit

theorem downK_drop {n k : Nat} (h : k < n) : (downK n (n - k)).dropLast = downK n (n - (k + 1)) ∧ topV (downK n (n - k)) = k ∧ someB (downK n (n - k)) = true := by
  obtain ⟨m, e1⟩ : ∃ m, n - k = m + 1 := ⟨n - k - 1, by omega⟩
  have e2 : n - (k + 1) = m := by omega
  have e3 : n - 1 - m = k := by omega
  rw [e1, e2, downK_succ, e3]
  exact ⟨List.dropLast_concat, topV_snoc _ _, by unfold someB; simp⟩
theorem range_drop (m : Nat) : (List.range (m + 1)).dropLast = List.range m ∧ topV (List.range (m + 1)) = m ∧ someB (List.range (m + 1)) = true := by
  rw [List.range_succ]
  exact ⟨List.dropLast_concat, topV_snoc _ _, by unfold someB; simp⟩
set_option maxHeartbeats 1600000 in
theorem all_any {w : World} {n : Nat} (hn : n < 256) : Calls Try.prog 3 #[.int .u8 n] w (TrueBelow w) := by
  have hnot := not_any
  go_enter Try.func3, Try.ntmps3
  go_wp2_with fail
  refine (fnew_in (n := n) (by omega)).mono ?_
  rintro e w1 ⟨q, hi, rfl, s1, b1⟩
  go_wp2
  go_loopw [4] (fun i wr => ∃ k : Nat, k ≤ n ∧ i = .int .i64 k ∧ FreeIn wr w.heap.size hi (.pointer (some ⟨q, 0, none⟩)) n (downK n (n - k)) ∧ Below w.heap.size w wr) (fun i _ => n - (intOf i).toNat)
  case atStart => exact ⟨0, by omega, rfl, s1, b1⟩
  case round =>
    obtain ⟨k, hk, rfl, s2, b2⟩ := hrel
    clear s1 b1
    by_cases hlt : k < n
    · have HF := Lib.hid (take_at s2 (downK_drop hlt).1 (downK_drop hlt).2.1 (downK_drop hlt).2.2)
      have hbb : ((k : Int) != (k : Int)) = false := by simp
      clear s2
      go_wp2_with fail
      refine HF.out.mono ?_
      rintro e w3 ⟨rfl, s3, c3⟩
      have b3 := c3.below b2 b2.size (.inl (Nat.le_refl _))
      clear c3 b2 HF
      go_wp2
      go_roundw
      case rel => exact ⟨k + 1, by omega, by go_num, s3, b3⟩
      case measure => simp [intOf]; omega
    · have e : k = n := by omega
      subst e
      have s2' := s2.like (show downK k (k - k) = [] by rw [Nat.sub_self]; rfl)
      clear s2 hlt
      go_wp2_with fail
      refine (take_at (l' := []) (t := 0) (r := false) s2' rfl rfl rfl).mono ?_
      rintro e w3 ⟨rfl, s3, c3⟩
      have b3 := c3.below b2 b2.size (.inl (Nat.le_refl _))
      clear c3 b2 s2'
      go_wp2
      go_loopw [9] (fun i wr => ∃ m : Nat, m ≤ k ∧ i = .int .i64 m ∧ FreeIn wr w.heap.size hi (.pointer (some ⟨q, 0, none⟩)) k (List.range m) ∧ Below w.heap.size w wr) (fun i _ => k - (intOf i).toNat)
      case atStart => exact ⟨0, by omega, rfl, s3, b3⟩
      case round =>
        obtain ⟨m, hm, rfl, s4, b4⟩ := hrel
        clear s3 b3
        by_cases hlt : m < k
        · have HG := Lib.hid (give_yes s4 hlt (by simp))
          have HL : Hid (List.range m ++ [m] = List.range (m + 1)) := List.range_succ.symm
          clear s4
          go_wp2_with fail
          refine HG.out.mono ?_
          rintro e w5 ⟨rfl, s5, c5⟩
          rw [HL.out] at s5
          have b5 := c5.below b4 b4.size (.inl (Nat.le_refl _))
          clear c5 b4 HG
          go_wp2
          go_roundw
          case rel => exact ⟨m + 1, by omega, by go_num, s5, b5⟩
          case measure => simp [intOf]; omega
        · have e : m = k := by omega
          subst e
          clear hlt
          go_wp2
          go_loopw [10] (fun i wr => ∃ j : Nat, j ≤ m ∧ i = .int .i64 ((j : Int) - 1) ∧ FreeIn wr w.heap.size hi (.pointer (some ⟨q, 0, none⟩)) m (List.range j) ∧ Below w.heap.size w wr) (fun i _ => (intOf i + 1).toNat)
          case atStart => exact ⟨m, by omega, rfl, s4, b4⟩
          case round =>
            obtain ⟨j, hj, rfl, s6, b6⟩ := hrel
            clear s4 b4
            by_cases hj0 : j = 0
            · subst hj0
              go_wp2_with fail
              refine (flen_is (m := 0) s6 rfl).mono ?_
              rintro e w' ⟨rfl, rfl⟩
              go_wp2_with fail
              refine works_any.mono ?_
              rintro e w7 ⟨rfl, b7⟩
              have b8 := b6.trans (b7.mono b6.size)
              go_wp2
              go_ret
              exact ⟨rfl, b8⟩
            · obtain ⟨p, rfl⟩ : ∃ p, j = p + 1 := ⟨j - 1, by omega⟩
              obtain ⟨h1, h2, h3⟩ := range_drop p
              have HF := Lib.hid (take_at s6 h1 h2 h3)
              have hpe : ((p + 1 : Nat) : Int) - 1 = (p : Int) := by omega
              have hbb : ((p : Int) != (p : Int)) = false := by simp
              clear s6 h1 h2 h3
              rw [hpe]
              clear hpe
              go_wp2_with fail
              refine HF.out.mono ?_
              rintro e w7 ⟨rfl, s7, c7⟩
              have b7 := c7.below b6 b6.size (.inl (Nat.le_refl _))
              clear c7 b6 HF
              go_wp2
              go_roundw
              case rel => exact ⟨p, by omega, by go_num, s7, b7⟩
              case measure => simp [intOf]
end Go.Proofs.Ytgooajgoofojmaa
