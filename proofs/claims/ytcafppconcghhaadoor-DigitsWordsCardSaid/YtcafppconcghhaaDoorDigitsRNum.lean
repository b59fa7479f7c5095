/- Layer 11 (digits): what the document's Num returns: a contract. -/
import Derived.Test.YtcafppconcghhaaDoorDigitsRead
namespace Go.Proofs.YtcafppconcghhaaDoor
open Go.RowKit
open Go.Lib (itoa)

def dec10 : ByteArray := ⟨#[48, 49, 50, 51, 52, 53, 54, 55, 56, 57]⟩
theorem dec10_fin : ∀ K : Fin 10, (dec10.data.toList.drop K.val).take 1 = [UInt8.ofNat (48 + K.val)] := by decide
theorem dec10_cut {K : Nat} (h : K < 10) : dec10.extract K (K + 1) = mkT [UInt8.ofNat (48 + K)] := by
  apply txt_inj
  rw [txt_extract, show K + 1 - K = 1 by omega]
  exact dec10_fin ⟨K, h⟩
theorem decN_length {u : Nat} (h : u ≤ 9223372036854775808) : (decN u).length ≤ 19 := by
  unfold decN
  split
  · exact Nat.zero_le _
  · exact dec_length 19 u (by omega) (by omega)
theorem mk_empty (l : List UInt8) : (mkT l).toList.isEmpty = decide (l = []) := by
  rw [ByteArray.toList_eq]
  cases l <;> rfl

set_option maxHeartbeats 1000000 in
theorem refNum_is (w : World) {N : Int} (hN : -9223372036854775808 ≤ N ∧ N ≤ 9223372036854775807) {S : ByteArray} (hS : mkT (itoa N) = S) : Calls Tryd.prog 13 #[.int .i64 N] w fun e w' => e = .returned (.string S) ∧ w = w' := by
  obtain ⟨T, hT⟩ : ∃ T, decN N.natAbs = T := ⟨_, rfl⟩
  have hTl : T.length ≤ 19 := by rw [← hT]; exact decN_length (by omega)
  rw [itoa_of, hT] at hS
  have HS := Lib.hid hS
  have HT := Lib.hid hT
  clear hS hT
  obtain ⟨neg, hneg⟩ : ∃ b, decide (N < 0) = b := ⟨_, rfl⟩
  go_enter Tryd.func13, Tryd.ntmps13
  go_wp2
  go_loopw [0, 4] (fun a b wr => ∃ (n : Int) (t : List UInt8), a = .int .i64 n ∧ b = .string (mkT t) ∧ -9223372036854775808 ≤ n ∧ n ≤ 9223372036854775807 ∧ Hid (decN n.natAbs ++ t = T) ∧ wr = w) (fun a _ _ => (RowKit.intOf a).natAbs)
  case atStart => exact ⟨N, [], rfl, rfl, hN.1, hN.2, by show _ = _; rw [List.append_nil]; exact HT.out, rfl⟩
  case round =>
    obtain ⟨n, t, rfl, rfl, hn1, hn2, HI, rfl⟩ := hrel
    by_cases h0 : n = 0
    · subst h0
      have ht : t = T := HI.out
      subst ht
      have hs := HS.out
      have hem := mk_empty t
      by_cases he : t = []
      · rw [decide_eq_true he] at hem
        rw [if_pos he] at hs
        clear he HI HT HS hTl
        generalize mkT t = D at *
        cases neg with
        | true =>
          rw [if_pos (of_decide_eq_true hneg)] at hs
          clear hneg
          go_wp2
          go_ret
          exact ⟨by rw [← hs]; rfl, rfl⟩
        | false =>
          rw [if_neg (of_decide_eq_false hneg)] at hs
          clear hneg
          subst hs
          go_wp2
          go_ret
          exact ⟨rfl, rfl⟩
      · rw [decide_eq_false he] at hem
        rw [if_neg he] at hs
        cases neg with
        | true =>
          rw [if_pos (of_decide_eq_true hneg)] at hs
          have hadd : ∀ W, (Op.stringOp .add ⟨#[45]⟩ (mkT t)).run Tryd.prog W = .ok (.string S) W := fun W => by
            rw [← hs, ← mk_append]
            exact str_add W (by have := mk_size t; show 1 + (mkT t).size ≤ _; omega)
          clear he HI HT HS hTl hs hneg
          generalize mkT t = D at *
          go_wp2
          go_ret
          exact ⟨rfl, rfl⟩
        | false =>
          rw [if_neg (of_decide_eq_false hneg)] at hs
          clear he HI HT HS hTl hneg
          have hs' : mkT t = S := hs
          clear hs
          generalize mkT t = D at *
          subst hs'
          go_wp2
          go_ret
          exact ⟨rfl, rfl⟩
    · obtain ⟨K, hK⟩ : ∃ K, n.natAbs % 10 = K := ⟨_, rfl⟩
      obtain ⟨M, hM⟩ : ∃ M : Int, Int.tdiv n 10 = M := ⟨_, rfl⟩
      have hMa : M.natAbs = n.natAbs / 10 := by rw [← hM, Int.natAbs_tdiv]; rfl
      have hKl : K < 10 := by omega
      have hi := HI.out
      rw [decN_step (show n.natAbs ≠ 0 by omega), hK, ← hMa, List.append_assoc] at hi
      have htl : t.length ≤ 19 := by
        have := congrArg List.length HI.out
        rw [List.length_append] at this
        omega
      have HI2 : Hid (decN M.natAbs ++ UInt8.ofNat (48 + K) :: t = T) := hi
      have hcut : ∀ W, (Instr.slice 9 (.string ⟨#[48, 49, 50, 51, 52, 53, 54, 55, 56, 57]⟩) (some (.int .i64 (K : Int))) (some (.int .i64 ((K : Int) + 1))) none).run Tryd.prog W = .ok (.string (mkT [UInt8.ofNat (48 + K)])) W := fun W => by
        rw [← dec10_cut hKl]
        exact str_mid W dec10 (a := K) (b := K + 1) (by omega) (by show K + 1 ≤ 10; omega)
      have hadd : ∀ W, (Op.stringOp .add (mkT [UInt8.ofNat (48 + K)]) (mkT t)).run Tryd.prog W = .ok (.string (mkT (UInt8.ofNat (48 + K) :: t))) W := fun W => by
        refine (str_add W (by rw [mk_size, mk_size]; simp; omega)).trans ?_
        rw [mk_append]
        rfl
      clear hi HI
      generalize UInt8.ofNat (48 + K) = c at *
      have hm1 : -9223372036854775808 ≤ M ∧ M ≤ 9223372036854775807 := by omega
      have hms : M.natAbs < n.natAbs := by omega
      have wM : IntKind.i64.wrap M = M := by rw [IntKind.wrap_i64]; omega
      have hmod : Int.tmod n 10 = if n < 0 then -(K : Int) else (K : Int) := by
        have h1 := Int.natAbs_tmod n 10
        have h2 : (Int.natAbs 10) = 10 := rfl
        rw [h2, hK] at h1
        by_cases hg : n < 0
        · have h3 : Int.tmod n 10 = -(Int.tmod (-n) 10) := by rw [Int.neg_tmod, Int.neg_neg]
          have h4 := Int.tmod_nonneg 10 (a := -n) (by omega)
          rw [if_pos hg]
          omega
        · have h4 := Int.tmod_nonneg 10 (a := n) (by omega)
          rw [if_neg hg]
          omega
      obtain ⟨X, hX⟩ : ∃ X : Int, Int.tmod n 10 = X := ⟨_, rfl⟩
      rw [hX] at hmod
      have wX : IntKind.i64.wrap X = X := by
        rw [IntKind.wrap_i64, hmod]
        split <;> omega
      by_cases hg : n < 0 ∧ 0 < K
      · rw [if_pos hg.1] at hmod
        have hX0 : X < 0 := by omega
        have wX2 : IntKind.i64.wrap (-X) = (K : Int) := by rw [IntKind.wrap_i64]; omega
        have nX : -X = (K : Int) := by omega
        clear hMa hK hmod hg
        go_wp2
        go_roundw
        case rel => exact ⟨M, _, rfl, rfl, hm1.1, hm1.2, HI2, by trivial⟩
        case measure => exact hms
      · have hXK : X = (K : Int) := by
          rw [hmod]
          split <;> omega
        subst hXK
        have hX0 : ¬ (K : Int) < 0 := by omega
        clear hMa hK hmod hg
        go_wp2
        go_roundw
        case rel => exact ⟨M, _, rfl, rfl, hm1.1, hm1.2, HI2, by trivial⟩
        case measure => exact hms
end Go.Proofs.YtcafppconcghhaaDoor
