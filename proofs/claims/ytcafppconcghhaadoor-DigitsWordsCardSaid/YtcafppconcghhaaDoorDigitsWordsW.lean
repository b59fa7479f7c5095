/- The walk of DigitsWords. -/
import Derived.Test.YtcafppconcghhaaDoorDigitsBackW
import Derived.Test.YtcafppconcghhaaDoorBaseTextsIn
namespace Go.Proofs.YtcafppconcghhaaDoor
open Go.RowKit

set_option maxHeartbeats 2000000 in
theorem words_any {w : World} {s : ByteArray} {A : Option Addr} {len cap : Nat} {M : List (List UInt8)} (hM : TextsIn w A len cap M) (hT : Tabs w.heap.size w) : Calls Tryd.prog 4 #[.string s, .slice A len cap] w fun e w' => e = .returned (.bool true) ∧ Below w.heap.size w w' := by
  obtain ⟨hlen, hat⟩ := hM
  have HAT := Lib.hid hat
  obtain ⟨A', c', hv, hA⟩ := hat
  injection hv with e1 e2 e3
  subst e1 e3
  have HA := Lib.hid hA
  have HLE := Lib.hid hlen
  have HT := Lib.hid hT
  clear hA hT e2 hlen
  by_cases hsz : s.size ≤ 300
  · by_cases hl : len ≤ 20
    · have hg : ¬ 300 < (s.size : Int) := by omega
      have hg2 : ¬ 20 < (len : Int) := by omega
      go_enter Tryd.func4, Tryd.ntmps4
      go_wp2
      go_loopw [5] (fun i wr => ∃ k : Nat, k ≤ len ∧ i = .int .i64 k ∧ wr = w ∧ Hid (∀ j x, j < k → M[j]? = some x → x.length ≤ 100)) (fun i _ => len - (RowKit.intOf i).toNat)
      case atStart => exact ⟨0, by omega, rfl, rfl, fun j x hj => by omega⟩
      case round =>
        obtain ⟨k, hk, rfl, rfl, hh⟩ := hrel
        by_cases hlt : k < len
        · have hxl : k < M.length := by have := HLE.out; omega
          have HQ : Hid (M[k]? = some (M[k]'hxl)) := List.getElem?_eq_getElem hxl
          obtain ⟨b, off, rfl, hb1, hc1⟩ := HA.out k _ HQ.out
          have hi : 0 ≤ (k : Int) ∧ (k : Int) < (len : Int) := by omega
          have hms : len - (k + 1) < len - k := by omega
          have hsx := mk_size (M[k]'hxl)
          have HSX := Lib.hid hsx
          obtain ⟨x, hxe⟩ : ∃ x, M[k]'hxl = x := ⟨_, rfl⟩
          rw [hxe] at HQ hc1 HSX
          unfold textV at hc1
          clear hsx hxe hb1
          obtain ⟨X, hX⟩ : ∃ X, mkT x = X := ⟨_, rfl⟩
          rw [hX] at hc1 HSX
          clear hX
          by_cases hx : 100 < (X.size : Int)
          · go_wp2_with fail
            refine (works_is _ HT.out (Nat.le_refl _)).mono ?_
            rintro e w9 ⟨rfl, b9⟩
            go_wp2
            go_ret
            exact ⟨rfl, b9⟩
          · have hx' : X.size ≤ 100 := by omega
            go_wp2
            go_roundw
            case rel =>
              refine ⟨k + 1, by omega, by first | rfl | go_num, by first | rfl | trivial, fun j y hj hy => ?_⟩
              by_cases e : j = k
              · subst e
                rw [HQ.out] at hy
                injection hy with hy
                have := HSX.out
                rw [← hy]
                omega
              · exact hh.out j y (by omega) hy
            case measure => exact hms
        · have hkl : k = len := by omega
          subst hkl
          have HMX : Hid (M.length ≤ 301 ∧ ∀ x, x ∈ M → x.length ≤ 300) := by
            refine ⟨by have := HLE.out; omega, fun x hx => ?_⟩
            obtain ⟨j, hj, e⟩ := List.getElem_of_mem hx
            have := hh.out j x (by have := HLE.out; omega) (by rw [List.getElem?_eq_getElem hj, e])
            omega
          obtain ⟨L, q, hw⟩ : ∃ L q, wordsE (txt s) = (L, q) := ⟨_, _, rfl⟩
          obtain ⟨r, hr⟩ : ∃ r, wordV (txt s) = r := ⟨_, rfl⟩
          obtain ⟨S, hS⟩ : ∃ S, mkT (joinL M) = S := ⟨_, rfl⟩
          have hLl : L.length ≤ 1048576 := by
            unfold wordsE at hw
            cases ho : wordsO (txt s) with
            | none =>
              rw [ho] at hw
              injection hw with h _
              rw [← h]
              exact Nat.zero_le _
            | some N =>
              rw [ho] at hw
              injection hw with h _
              have h1 := (join_least N).1
              rw [words_back ho, txt_len] at h1
              rw [← h]
              omega
          have HW1 : Hid (∀ W, Calls Tryd.prog 14 #[.string s] W fun e w' => ∃ v, e = .returned (.tuple #[v, .bool q]) ∧ TextsAt w' v L ∧ Below W.heap.size W w') := fun W => words_is W s hsz hw
          have HW2 : Hid (∀ W, Calls Tryd.prog 15 #[.string s] W fun e w' => ∃ v, e = .returned (.tuple #[v, .bool q]) ∧ TextsAt w' v L ∧ Below W.heap.size W w') := fun W => refWords_is W s hsz hw
          have HD1 : Hid (∀ W, Calls Tryd.prog 16 #[.string s] W fun e w' => e = .returned (.bool r) ∧ Below W.heap.size W w') := fun W => word_is W s hr
          have HD2 : Hid (∀ W, Calls Tryd.prog 17 #[.string s] W fun e w' => e = .returned (.bool r) ∧ W = w') := fun W => refWord_is W s (by omega) hr
          have HSM : Hid (∀ W v v', TextsAt W v L → TextsAt W v' L → Calls Tryd.prog 18 #[v, v'] W fun e w' => e = .returned (.bool true) ∧ ∃ n, w' = W.drewN n) := fun W v v' h1 h2 => same_texts h1 h2 hLl (by unfold sameTexts; exact decide_eq_true rfl)
          have HJ1 : Hid (∀ W, TextsAt W (.slice A k cap) M → Calls Tryd.prog 19 #[.slice A k cap] W fun e w' => e = .returned (.string S) ∧ Below W.heap.size W w') := fun W h => join_is W h HMX.out.1 HMX.out.2 hS
          have HJ2 : Hid (∀ W, TextsAt W (.slice A k cap) M → Calls Tryd.prog 20 #[.slice A k cap] W fun e w' => e = .returned (.string S) ∧ ∃ q, w' = W.drewN q) := fun W h => refJoin_is W h HMX.out.1 HMX.out.2 hS
          have z1 : (S.toList == S.toList) = true := by simp
          have z2 : (r == r) = true := by simp
          have z3 : (q == q) = true := by simp
          clear hw hr hS hLl hsz hh
          go_wp2_with fail
          refine (HW1.out _).mono ?_
          rintro e w1 ⟨v1, rfl, T1, b1⟩
          go_wp2_with fail
          refine (HW2.out _).mono ?_
          rintro e w2 ⟨v2, rfl, T2, b2⟩
          have B2 : Hid (Below wr.heap.size wr w2) := below_next b1.size b1 b2
          have T1 := Lib.hid (T1.below b2)
          have T2 := Lib.hid T2
          clear b1 b2
          go_wp2_with fail
          refine (HD1.out _).mono ?_
          rintro e w3 ⟨rfl, b3⟩
          have B3 : Hid (Below wr.heap.size wr w3) := below_next B2.out.size B2.out b3
          have T3 := Lib.hid (T1.out.below b3)
          have T4 := Lib.hid (T2.out.below b3)
          clear b3
          go_wp2_with fail
          refine (HD2.out _).mono ?_
          rintro e w4 ⟨rfl, rfl⟩
          go_wp2_with fail
          refine (HSM.out _ _ _ T3.out T4.out).mono ?_
          rintro e w5 ⟨rfl, n5, hw5⟩
          have B5 : Hid (Below wr.heap.size wr w5) := by rw [hw5]; exact below_drewN B3.out n5
          clear hw5
          go_wp2_with fail
          refine (HJ1.out _ (HAT.out.below B5.out)).mono ?_
          rintro e w6 ⟨rfl, b6⟩
          have B6 : Hid (Below wr.heap.size wr w6) := below_next B5.out.size B5.out b6
          clear b6
          go_wp2_with fail
          refine (HJ2.out _ (HAT.out.below B6.out)).mono ?_
          rintro e w7 ⟨rfl, n7, hw7⟩
          have B7 : Hid (Below wr.heap.size wr w7) := by rw [hw7]; exact below_drewN B6.out n7
          clear hw7
          go_wp2_with fail
          refine (works_is _ (HT.out.on B7.out) B7.out.size).mono ?_
          rintro e w9 ⟨rfl, b9⟩
          have B9 := below_next B7.out.size B7.out b9
          go_wp2
          go_ret
          exact ⟨rfl, B9⟩
    · have hg : ¬ 300 < (s.size : Int) := by omega
      have hg2 : 20 < (len : Int) := by omega
      go_enter Tryd.func4, Tryd.ntmps4
      go_wp2_with fail
      refine (works_is _ HT.out (Nat.le_refl _)).mono ?_
      rintro e w9 ⟨rfl, b9⟩
      go_wp2
      go_ret
      exact ⟨rfl, b9⟩
  · have hg : 300 < (s.size : Int) := by omega
    go_enter Tryd.func4, Tryd.ntmps4
    go_wp2_with fail
    refine (works_is _ HT.out (Nat.le_refl _)).mono ?_
    rintro e w9 ⟨rfl, b9⟩
    go_wp2
    go_ret
    exact ⟨rfl, b9⟩
end Go.Proofs.YtcafppconcghhaaDoor
