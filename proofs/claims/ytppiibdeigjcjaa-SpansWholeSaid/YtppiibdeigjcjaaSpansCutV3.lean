/- Layer 8 (spans): what Cut returns, one way of six: a contract. -/
import Derived.Test.YtppiibdeigjcjaaSpansCut0
namespace Go.Proofs.Ytppiibdeigjcjaa
open Go.RowKit

set_option maxHeartbeats 800000 in
theorem cut_over3 {w : World} {v : Value} {l : List Sp} {x nn : Int} (h : SpansIn w v l) (hs : l.length ≤ 1048576) (hx : InInt x) (hn : InInt nn) (hb : ordB 0 l = true) (hx0 : 0 ≤ x) (hn0 : 0 < nn) (hf : ¬ x + nn ≤ 9223372036854775807) (hp : l[firstL x l]? = none) : Calls Try.prog 26 #[v, .int .i64 x, .int .i64 nn] w (MadeB w (cutR l x nn) true) := by
  have h0 := h
  obtain ⟨⟨A, c, rfl, h1, h2, h3⟩, hi⟩ := h
  have hnot := not_any
  obtain ⟨n, en⟩ : ∃ n, l.length = n := ⟨_, rfl⟩
  obtain ⟨o, eo⟩ : ∃ o, ordB 0 l = o := ⟨_, rfl⟩
  have RS : Hid (Calls Try.prog 13 #[.slice A l.length c] w fun e w' => e = .returned (.bool o) ∧ Below w.heap.size w w') := right_spans h0 eo
  have HS0 : Hid (∀ W, Below w.heap.size w W → SpansIn W (.slice A n c) l) := fun W hW => by have := h0.below hW; rwa [en] at this
  have HS := Lib.hid hs
  rw [en] at RS ⊢
  have HP3 := Lib.hid h3
  have HN := Lib.hid en
  have HO := Lib.hid eo
  have HII := Lib.hid hi
  have HX := Lib.hid hx
  have HNN := Lib.hid hn
  obtain rfl : o = true := eo.symm.trans hb
  obtain ⟨e, ee⟩ : ∃ e, stopI x nn = e := ⟨_, rfl⟩
  have HCF : Hid (l.take (firstL x l) ++ (leftA x l ++ leftB e l) ++ l.drop (toN e l) = cutL x e l) := by
    have := cut_any (n := nn) HO.out HX.out.2 (by omega)
    rwa [ee] at this
  have HCV : Hid (cutR l x nn = cutL x e l) := by show _ = _; unfold cutR; rw [if_neg (by omega), ee]
  have HEE : Hid (0 ≤ e ∧ e ≤ 9223372036854775807 ∧ 0 ≤ x) := by
    have := HX.out.2
    rw [← ee]
    unfold stopI
    split <;> exact ⟨by omega, by omega, by omega⟩
  obtain ⟨k, ek⟩ : ∃ k, firstL x l = k := ⟨_, rfl⟩
  obtain ⟨j, ej⟩ : ∃ j, firstL e l = j := ⟨_, rfl⟩
  rw [ek] at hp
  have HKL : Hid (k ≤ l.length) := by show _ ≤ _; rw [← ek]; exact firstL_le x l
  have hjl : j ≤ n := by rw [← ej, ← HN.out]; exact firstL_le e l
  rw [ek] at HCF
  have HK := Lib.hid ek
  have HJ := Lib.hid ej
  have F1 : Hid (∀ W, Below w.heap.size w W → Calls Try.prog 31 #[.slice A n c, .int .i64 x] W fun e w' => e = .returned (.int .i64 (k : Nat)) ∧ Below W.heap.size W w') := fun W hb => first_is (HS0.out W hb) HO.out HS.out HK.out
  have F2 : Hid (∀ W, Below w.heap.size w W → Calls Try.prog 31 #[.slice A n c, .int .i64 e] W fun e w' => e = .returned (.int .i64 (j : Nat)) ∧ Below W.heap.size W w') := fun W hb => first_is (HS0.out W hb) HO.out HS.out HJ.out
  have hadd := fun W => add_any x nn W HX.out.1 HX.out.2 HNN.out.1 HNN.out.2
  have hd1 : decide (x < 0) = false := decide_eq_false (by omega)
  have hd2 : decide (nn < 0) = false := decide_eq_false (by omega)
  have hd3 : (nn == 0) = false := by simp; omega
  have hfb : fitB (x + nn) = false := fitB_no (by omega)
  have heq : 9223372036854775807 = e := by rw [← ee]; unfold stopI; rw [if_neg hf]
  rw [fitV_no hfb, hfb] at hadd
  have HADD := Lib.hid hadd
  have hjn : j = n := by
    have := first_top HO.out
    rw [heq, HJ.out, HN.out] at this
    exact this
  have HLB : Hid (leftB e l = []) := leftB_none HJ.out (List.getElem?_eq_none (by rw [HN.out]; omega))
  have HP0 := Lib.hid hp
  subst hjn
  clear h0 h1 h2 h3 hi eo hb hx hn en hs hadd hfb ee hf ek ej hp hx0 hn0
  go_enter Try.func26, Try.ntmps26
  go_wp2_with fail
  refine RS.out.mono ?_
  rintro e0 w1 ⟨rfl, b1⟩
  go_wp2_with fail
  refine (HADD.out _).mono ?_
  rintro e2 w2 ⟨rfl, rfl⟩
  go_upto_region 8 with fail
  rw [heq]
  go_wp2_with fail
  refine (F1.out _ b1).mono ?_
  rintro e2 w2 ⟨rfl, b2⟩
  have b3 := step_below b1 b2
  go_wp2_with fail
  refine (F2.out _ b3).mono ?_
  rintro e2 w3 ⟨rfl, b4⟩
  have b5 := step_below b3 b4
  clear b1 b2 b3 b4 heq F1 F2 HADD hd1 hd2 hd3
  have hp := HP0.out
  clear HP0
  go_upto_region 10 with fail
  have hkn : ¬ k < j := by have := List.getElem?_eq_none_iff.1 hp; rw [HN.out] at this; omega
  have hkn1 : decide ((k : Int) < (j : Int)) = false := decide_eq_false (by omega)
  have hkn2 : decide (k < j) = false := decide_eq_false hkn
  have HLA : Hid (leftA x l = []) := leftA_none HK.out hp
  have hjn1 : decide ((j : Int) < (j : Int)) = false := decide_eq_false (by omega)
  have hjn2 : decide (j < j) = false := decide_eq_false (by omega)
  have HL7 : Hid (SpansIn w3 (.slice none 0 0) ([] : List Sp)) := ((Head.nil w3 w.heap.size)).spans (by simp) (fun p hp => by cases hp)
  have HLI := Lib.hid (HS0.out _ b5)
  have HBB := Lib.hid b5
  have HTO : Hid (j ≤ l.length) := by show _ ≤ _; have := HN.out; omega
  have HRES : Hid (l.take k ++ ([] : List Sp) ++ l.drop (j) = cutL x e l) := by
    show _ = _
    rw [← HCF.out, HLA.out, HLB.out, toN, HLB.out, HJ.out]
    simp
  go_wp2_with fail
  refine (instead_is HLI.out HL7.out HS.out (by simp) HKL.out HTO.out).mono ?_
  rintro e6 w6 ⟨v6, rfl, hv, b6⟩
  rw [HRES.out, ← HCV.out] at hv
  go_wp2
  go_ret2
  exact ⟨_, rfl, hv, step_below HBB.out b6⟩
end Go.Proofs.Ytppiibdeigjcjaa
