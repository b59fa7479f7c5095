/- Layer 11 (digits): what the document's ReadHex, Hex and Word return: contracts. -/
import Derived.Test.YtcafppconcghhaaDoorDigitsRRead
namespace Go.Proofs.YtcafppconcghhaaDoor
open Go.RowKit

set_option maxHeartbeats 2000000 in
theorem refReadHex_is (w : World) (s : ByteArray) {n : Int} {k : Bool} (hr : readHexV (txt s) = (n, k)) : Calls Tryd.prog 22 #[.string s] w fun e w' => e = .returned (.tuple #[.int .i64 n, .bool k]) ∧ w = w' := by
  by_cases hz : 1 ≤ s.size ∧ s.size ≤ 16
  · have HR : Hid ((match valL 16 9223372036854775807 0 (txt s) with
      | some n => ((n : Int), true)
      | none => (0, false)) = (n, k)) := by
      show _ = _
      rw [← hr]
      unfold readHexV
      exact (if_pos hz).symm
    obtain ⟨hz1, hz2⟩ := hz
    clear hr
    have g1 : ¬ (s.size : Int) < 1 := by omega
    have g2 : ¬ 16 < (s.size : Int) := by omega
    obtain ⟨m, hm⟩ : ∃ m, s.size = m := ⟨_, rfl⟩
    rw [hm] at hz1 hz2 g1 g2
    go_enter Tryd.func22, Tryd.ntmps22
    go_wp2
    go_loopw [4, 5] (fun a b wr => ∃ (v i : Nat), a = .int .i64 v ∧ b = .int .i64 i ∧ i ≤ m ∧ v ≤ 9223372036854775807 ∧ Hid (valL 16 9223372036854775807 v (left s i) = valL 16 9223372036854775807 0 (txt s)) ∧ wr = w) (fun _ b _ => m - (RowKit.intOf b).toNat)
    case atStart => exact ⟨0, 0, rfl, rfl, Nat.zero_le _, by omega, rfl, rfl⟩
    case round =>
      obtain ⟨v, i, rfl, rfl, hi, hv, HI, rfl⟩ := hrel
      by_cases hc : i < m
      · have hms : m - (i + 1) < m - i := by omega
        have hI2 := HI.out
        rw [left_lt (by omega)] at hI2
        obtain ⟨c, hcb⟩ : ∃ c, (byteAt s i).toNat = c := ⟨_, rfl⟩
        have hcl : c < 256 := by rw [← hcb]; exact UInt8.toNat_lt _
        have hix := index_at (s := s) (j := i) (by omega) hcb
        clear HI
        cases hdg : dig (byteAt s i) with
        | none =>
          rw [valL_none hdg] at hI2
          have hr := HR.out
          rw [← hI2] at hr
          injection hr with e1 e2
          subst e1 e2
          have HD : Hid (c < 48 ∨ (¬ c < 48 ∧ 57 < c ∧ c < 97) ∨ (102 < c)) := by
            show _ ∨ _
            unfold dig at hdg
            rw [hcb] at hdg
            by_cases h1 : 48 ≤ c ∧ c ≤ 57
            · rw [if_pos h1] at hdg; cases hdg
            · rw [if_neg h1] at hdg
              by_cases h2 : 97 ≤ c ∧ c ≤ 102
              · rw [if_pos h2] at hdg; cases hdg
              · omega
          clear HR hI2 hcb hms hdg
          rcases HD.out with q1 | ⟨q1, q2, q3⟩ | q1
          · have p1 : ¬ 48 ≤ (c : Int) := by omega
            have p2 : ¬ 97 ≤ (c : Int) := by omega
            have p3 : ¬ 48 ≤ c := by omega
            have p4 : ¬ 97 ≤ c := by omega
            go_wp2
            go_ret2
            exact ⟨rfl, rfl⟩
          · have p1 : 48 ≤ (c : Int) := by omega
            have p2 : ¬ (c : Int) ≤ 57 := by omega
            have p3 : ¬ 97 ≤ (c : Int) := by omega
            have p4 : 48 ≤ c := by omega
            have p5 : ¬ c ≤ 57 := by omega
            have p6 : ¬ 97 ≤ c := by omega
            go_wp2
            go_ret2
            exact ⟨rfl, rfl⟩
          · have p1 : 48 ≤ (c : Int) := by omega
            have p2 : ¬ (c : Int) ≤ 57 := by omega
            have p3 : 97 ≤ (c : Int) := by omega
            have p4 : ¬ (c : Int) ≤ 102 := by omega
            have p5 : 48 ≤ c := by omega
            have p6 : ¬ c ≤ 57 := by omega
            have p7 : 97 ≤ c := by omega
            have p8 : ¬ c ≤ 102 := by omega
            go_wp2
            go_ret2
            exact ⟨rfl, rfl⟩
        | some d =>
          have hdl := dig_lt hdg
          have HD : Hid ((c = 48 + d ∧ d < 10) ∨ (c = 87 + d ∧ 10 ≤ d)) := by
            show _ ∨ _
            unfold dig at hdg
            rw [hcb] at hdg
            by_cases h1 : 48 ≤ c ∧ c ≤ 57
            · rw [if_pos h1] at hdg
              injection hdg with hdg
              omega
            · rw [if_neg h1] at hdg
              by_cases h2 : 97 ≤ c ∧ c ≤ 102
              · rw [if_pos h2] at hdg
                injection hdg with hdg
                omega
              · rw [if_neg h2] at hdg; cases hdg
          have HV : Hid ((v < 576460752303423488 ∧ valL 16 9223372036854775807 (v * 16 + d) (left s (i + 1)) = valL 16 9223372036854775807 0 (txt s)) ∨ (¬ v < 576460752303423488 ∧ (n, k) = (0, false))) := by
            by_cases hlt : v < 576460752303423488
            · rw [valL_cons hdg hdl (by omega)] at hI2
              exact .inl ⟨hlt, hI2⟩
            · rw [valL_over hdg (by omega)] at hI2
              have hr := HR.out
              rw [← hI2] at hr
              exact .inr ⟨hlt, hr.symm⟩
          clear hI2 hcb hdg HR
          rcases HD.out with ⟨h1, h2⟩ | ⟨h1, h2⟩
          · have p1 : 48 ≤ (c : Int) := by omega
            have p2 : (c : Int) ≤ 57 := by omega
            have p3 : ¬ 97 ≤ (c : Int) := by omega
            have p4 : ¬ (c : Int) - 48 < 0 := by omega
            have p5 : 48 ≤ c := by omega
            have p6 : c ≤ 57 := by omega
            have p7 : ¬ 97 ≤ c := by omega
            rcases HV.out with ⟨q1, q2⟩ | ⟨q1, q2⟩
            · have r1 : ¬ (576460752303423488 : Int) ≤ (v : Int) := by omega
              have r2 : ¬ 576460752303423488 ≤ v := by omega
              have Q := Lib.hid q2
              have C := Lib.hid h1
              clear q2 h1 HD HV hcl
              go_wp2
              go_roundw
              case rel =>
                refine ⟨v * 16 + d, i + 1, ?_, rfl, hc, by omega, Q.out, by trivial⟩
                have h1 := C.out
                refine congrArg (Value.int .i64) ?_
                first
                  | omega
                  | (unfold wrap64; omega)
              case measure => exact hms
            · have r1 : (576460752303423488 : Int) ≤ (v : Int) := by omega
              have r2 : 576460752303423488 ≤ v := by omega
              injection q2 with e1 e2
              subst e1 e2
              clear h1 HD HV hcl hms
              go_wp2
              go_ret2
              exact ⟨rfl, rfl⟩
          · have p1 : 48 ≤ (c : Int) := by omega
            have p2 : ¬ (c : Int) ≤ 57 := by omega
            have p3 : 97 ≤ (c : Int) := by omega
            have p4 : (c : Int) ≤ 102 := by omega
            have p9 : ¬ (c : Int) - 87 < 0 := by omega
            have p5 : 48 ≤ c := by omega
            have p6 : ¬ c ≤ 57 := by omega
            have p7 : 97 ≤ c := by omega
            have p8 : c ≤ 102 := by omega
            rcases HV.out with ⟨q1, q2⟩ | ⟨q1, q2⟩
            · have r1 : ¬ (576460752303423488 : Int) ≤ (v : Int) := by omega
              have r2 : ¬ 576460752303423488 ≤ v := by omega
              have Q := Lib.hid q2
              have C := Lib.hid h1
              clear q2 h1 HD HV hcl
              go_wp2
              go_roundw
              case rel =>
                refine ⟨v * 16 + d, i + 1, ?_, rfl, hc, by omega, Q.out, by trivial⟩
                have h1 := C.out
                refine congrArg (Value.int .i64) ?_
                first
                  | omega
                  | (unfold wrap64; omega)
              case measure => exact hms
            · have r1 : (576460752303423488 : Int) ≤ (v : Int) := by omega
              have r2 : 576460752303423488 ≤ v := by omega
              injection q2 with e1 e2
              subst e1 e2
              clear h1 HD HV hcl hms
              go_wp2
              go_ret2
              exact ⟨rfl, rfl⟩
      · have hI := HI.out
        rw [left_end (by omega)] at hI
        have hI : some v = valL 16 9223372036854775807 0 (txt s) := hI
        have hr := HR.out
        rw [← hI] at hr
        injection hr with e1 e2
        subst e1 e2
        clear HI HR hI
        go_wp2
        go_ret2
        exact ⟨rfl, rfl⟩
  · have e0 : readHexV (txt s) = (0, false) := by
      unfold readHexV
      exact if_neg hz
    rw [e0] at hr
    injection hr with e1 e2
    subst e1 e2
    by_cases h1 : s.size < 1
    · have g1 : (s.size : Int) < 1 := by omega
      go_enter Tryd.func22, Tryd.ntmps22
      go_wp2
      go_ret2
      exact ⟨rfl, rfl⟩
    · have g1 : ¬ (s.size : Int) < 1 := by omega
      have g2 : 16 < (s.size : Int) := by omega
      clear h1 hz e0
      go_enter Tryd.func22, Tryd.ntmps22
      go_wp2
      go_ret2
      exact ⟨rfl, rfl⟩

def hex16 : ByteArray := ⟨#[48, 49, 50, 51, 52, 53, 54, 55, 56, 57, 97, 98, 99, 100, 101, 102]⟩
theorem hex16_fin : ∀ K : Fin 16, (hex16.data.toList.drop K.val).take 1 = [hexB K.val] := by decide
theorem hex16_cut {K : Nat} (h : K < 16) : hex16.extract K (K + 1) = mkT [hexB K] := by
  apply txt_inj
  rw [txt_extract, show K + 1 - K = 1 by omega]
  exact hex16_fin ⟨K, h⟩
set_option maxHeartbeats 1000000 in
theorem refHex_is (w : World) {N wide : Int} (hN : -9223372036854775808 ≤ N ∧ N ≤ 9223372036854775807) {S : ByteArray} (hS : mkT (hexE N wide) = S) : Calls Tryd.prog 24 #[.int .i64 N, .int .i64 wide] w fun e w' => e = .returned (.string S) ∧ w = w' := by
  unfold hexE at hS
  by_cases hz : N < 0 ∨ wide < 1 ∨ 16 < wide
  · rw [if_pos hz] at hS
    subst hS
    go_enter Tryd.func24, Tryd.ntmps24
    by_cases h1 : N < 0
    · go_wp2
      go_ret
      exact ⟨rfl, rfl⟩
    · by_cases h2 : wide < 1
      · go_wp2
        go_ret
        exact ⟨rfl, rfl⟩
      · have h3 : 16 < wide := by omega
        clear hz
        go_wp2
        go_ret
        exact ⟨rfl, rfl⟩
  · rw [if_neg hz] at hS
    obtain ⟨U, rfl⟩ : ∃ U : Nat, N = U := ⟨N.toNat, by omega⟩
    obtain ⟨V, rfl⟩ : ∃ V : Nat, wide = V := ⟨wide.toNat, by omega⟩
    have hU : U ≤ 9223372036854775807 := by omega
    have hV : 1 ≤ V ∧ V ≤ 16 := by omega
    obtain ⟨hV1, hV2⟩ := hV
    have h1 : ¬ (U : Int) < 0 := by omega
    have h2 : ¬ (V : Int) < 1 := by omega
    have h3 : ¬ 16 < (V : Int) := by omega
    rw [Int.toNat_natCast, Int.toNat_natCast, ← hexN_pad U hV1] at hS
    have HS := Lib.hid hS
    clear hS hz hN
    have HL : Hid (∀ u (t : List UInt8), pad V (hexN u ++ t) = pad V (hexN U) → t.length ≤ 16) := fun u t h => by
      have h1 := congrArg List.length h
      rw [pad_length, pad_length, List.length_append] at h1
      have h2 : (hexN U).length ≤ 16 := by
        unfold hexN
        split
        · exact Nat.zero_le _
        · exact hexD_length 16 U (by omega) (by omega)
      omega
    go_enter Tryd.func24, Tryd.ntmps24
    go_wp2
    go_loopw [0, 6] (fun a b wr => ∃ (u : Nat) (t : List UInt8), a = .int .i64 u ∧ b = .string (mkT t) ∧ u ≤ 9223372036854775807 ∧ Hid (pad V (hexN u ++ t) = pad V (hexN U)) ∧ wr = w) (fun a b _ => (RowKit.intOf a).toNat + (16 - (match b with | .string s => s.size | _ => 0)))
    case atStart => exact ⟨U, [], rfl, rfl, hU, by show _ = _; rw [List.append_nil], rfl⟩
    case round =>
      obtain ⟨u, t, rfl, rfl, hu, HI, rfl⟩ := hrel
      have htl := HL.out u t HI.out
      have hsz := mk_size t
      by_cases hc : 0 < u ∨ t.length < V
      · have hK : u % 16 < 16 := by omega
        have hI2 : pad V (hexN (u / 16) ++ hexB (u % 16) :: t) = pad V (hexN U) := by
          rw [← HI.out]
          by_cases h0 : u = 0
          · subst h0
            exact pad_more (l := t) (by rcases hc with h | h; exact absurd h (by omega); exact h)
          · rw [hexN_step h0, List.append_assoc]
            rfl
        have HI2 := Lib.hid hI2
        have htl2 := HL.out _ _ hI2
        have hadd : ∀ W, (Op.stringOp .add (mkT [hexB (u % 16)]) (mkT t)).run Tryd.prog W = .ok (.string (mkT (hexB (u % 16) :: t))) W := fun W => by
          refine (str_add W (by rw [mk_size, mk_size]; simp; omega)).trans ?_
          rw [mk_append]
          rfl
        have hmod : Int.tmod (u : Int) 16 = ((u % 16 : Nat) : Int) := by
          rw [Int.tmod_eq_emod_of_nonneg (by omega)]
          exact (Int.natCast_emod _ _).symm
        have hdiv : Int.tdiv (u : Int) 16 = ((u / 16 : Nat) : Int) := by
          rw [Int.tdiv_eq_ediv_of_nonneg (by omega)]
          exact (Int.natCast_ediv _ _).symm
        have hcut : ∀ W, (Instr.slice 9 (.string ⟨#[48, 49, 50, 51, 52, 53, 54, 55, 56, 57, 97, 98, 99, 100, 101, 102]⟩) (some (.int .i64 ((u % 16 : Nat) : Int))) (some (.int .i64 (((u % 16 : Nat) : Int) + 1))) none).run Tryd.prog W = .ok (.string (mkT [hexB (u % 16)])) W := fun W => by
          rw [← hex16_cut hK]
          exact str_mid W hex16 (a := u % 16) (b := u % 16 + 1) (by omega) (by show u % 16 + 1 ≤ 16; omega)
        have hq : u / 16 ≤ 9223372036854775807 := by omega
        have hqu : u / 16 ≤ u := by omega
        have hms : (u / 16) + (16 - (t.length + 1)) < u + (16 - t.length) := by
          rw [List.length_cons] at htl2
          omega
        by_cases q1 : 0 < (u : Int)
        · clear hI2 HI hc HL HS htl2
          generalize u / 16 = M at *
          generalize u % 16 = K at *
          generalize hexB K = c at *
          go_wp2
          go_roundw
          case rel => exact ⟨M, _, rfl, rfl, hq, HI2, by trivial⟩
          case measure =>
            show M + (16 - (mkT ([c] ++ t)).size) < u + (16 - (mkT t).size)
            rw [mk_size, mk_size]
            exact hms
        · obtain rfl : u = 0 := by omega
          have q3 : ((mkT t).size : Int) < (V : Int) := by omega
          have q4 : (mkT t).size < V := by omega
          have HI3 : Hid (pad V (hexN 0 ++ 48 :: t) = pad V (hexN U)) := hI2
          have e16 : (⟨#[48, 49, 50, 51, 52, 53, 54, 55, 56, 57, 97, 98, 99, 100, 101, 102]⟩ : ByteArray).extract 0 1 ++ mkT t = mkT (48 :: t) := (congrArg (· ++ mkT t) (hex16_cut (K := 0) (by omega))).trans (mk_append [hexB 0] t)
          have E := Lib.hid e16
          clear hI2 HI hc HL HS htl2 hcut hmod hdiv hadd HI2 e16
          go_wp2
          go_roundw
          case rel => exact ⟨0, 48 :: t, rfl, congrArg Value.string E.out, hq, HI3, by trivial⟩
          case measure =>
            show 0 + (16 - ((⟨#[48, 49, 50, 51, 52, 53, 54, 55, 56, 57, 97, 98, 99, 100, 101, 102]⟩ : ByteArray).extract 0 1 ++ mkT t).size) < 0 + (16 - (mkT t).size)
            rw [E.out, mk_size, mk_size]
            exact hms
      · have hu0 : u = 0 := by omega
        subst hu0
        have ht : pad V t = t := pad_full (by omega)
        have hI := HI.out
        rw [hexN_zero, List.nil_append, ht] at hI
        have hs := HS.out
        rw [← hI] at hs
        have q3 : ¬ ((mkT t).size : Int) < (V : Int) := by omega
        have q4 : ¬ (mkT t).size < V := by omega
        clear HI HS HL hI ht hsz
        generalize mkT t = D at *
        subst hs
        go_wp2
        go_ret
        exact ⟨rfl, rfl⟩

theorem left_all {s : ByteArray} {i : Nat} (h : i < s.size) : (left s i).all inW = (inW (byteAt s i) && (left s (i + 1)).all inW) := by rw [left_lt h]; rfl
theorem refWord_is (w : World) (s : ByteArray) (hs : s.size ≤ 1048576) {k : Bool} (hr : wordV (txt s) = k) : Calls Tryd.prog 17 #[.string s] w fun e w' => e = .returned (.bool k) ∧ w = w' := by
  obtain ⟨m, hm⟩ : ∃ m, s.size = m := ⟨_, rfl⟩
  rw [hm] at hs
  have HR : Hid ((decide (0 < m) && (txt s).all inW) = k) := by
    show _ = _
    rw [← hr]
    unfold wordV
    congr 1
    rw [← hm, ← txt_len, decide_eq_decide]
    exact List.length_pos_iff
  clear hr
  go_enter Tryd.func17, Tryd.ntmps17
  go_wp2
  go_loopw [3] (fun b wr => ∃ (i : Nat), b = .int .i64 i ∧ i ≤ m ∧ Hid ((left s i).all inW = (txt s).all inW) ∧ wr = w) (fun b _ => m - (RowKit.intOf b).toNat)
  case atStart => exact ⟨0, rfl, Nat.zero_le _, rfl, rfl⟩
  case round =>
    obtain ⟨i, rfl, hi, HI, rfl⟩ := hrel
    by_cases hc : i < m
    · have hms : m - (i + 1) < m - i := by omega
      have hI2 := HI.out
      rw [left_all (by omega)] at hI2
      obtain ⟨c, hcb⟩ : ∃ c, (byteAt s i).toNat = c := ⟨_, rfl⟩
      have hcl : c < 256 := by rw [← hcb]; exact UInt8.toNat_lt _
      have hix := index_at (s := s) (j := i) (by omega) hcb
      have hin : inW (byteAt s i) = decide (33 ≤ c ∧ c ≤ 126) := by unfold inW; rw [hcb]
      rw [hin] at hI2
      clear HI hin hcb
      by_cases hd : 33 ≤ c ∧ c ≤ 126
      · rw [decide_eq_true hd, Bool.true_and] at hI2
        have HI2 := Lib.hid hI2
        obtain ⟨d1, d2⟩ := hd
        have p1 : ¬ (c : Int) < 33 := by omega
        have p2 : ¬ 126 < (c : Int) := by omega
        have p3 : ¬ c < 33 := by omega
        have p4 : ¬ 126 < c := by omega
        clear hI2 HR hcl
        go_wp2
        go_roundw
        case rel => exact ⟨i + 1, rfl, hc, HI2, by trivial⟩
        case measure => exact hms
      · rw [decide_eq_false hd, Bool.false_and] at hI2
        have hk := HR.out
        rw [← hI2, Bool.and_false] at hk
        subst hk
        have HD : Hid (c < 33 ∨ (¬ c < 33 ∧ 126 < c)) := by
          show _ ∨ _
          omega
        clear hI2 HR hms hd
        rcases HD.out with q1 | ⟨q1, q2⟩
        · have p1 : (c : Int) < 33 := by omega
          go_wp2
          go_ret
          exact ⟨rfl, rfl⟩
        · have p1 : ¬ (c : Int) < 33 := by omega
          have p2 : 126 < (c : Int) := by omega
          go_wp2
          go_ret
          exact ⟨rfl, rfl⟩
    · have hI := HI.out
      rw [left_end (by omega)] at hI
      have hk := HR.out
      rw [← hI, List.all_nil, Bool.and_true] at hk
      clear HI HR hI
      by_cases h0 : 0 < m
      · rw [decide_eq_true h0] at hk
        subst hk
        have p1 : 0 < (m : Int) := by omega
        go_wp2
        go_ret
        exact ⟨rfl, rfl⟩
      · rw [decide_eq_false h0] at hk
        subst hk
        have p1 : ¬ 0 < (m : Int) := by omega
        go_wp2
        go_ret
        exact ⟨rfl, rfl⟩
end Go.Proofs.YtcafppconcghhaaDoor
