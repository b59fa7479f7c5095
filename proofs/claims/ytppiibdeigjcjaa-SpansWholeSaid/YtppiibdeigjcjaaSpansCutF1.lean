/- Layer 8 (spans): what Cut returns, one way of six: a contract. -/
import Derived.Test.YtppiibdeigjcjaaSpansCut0
namespace Go.Proofs.Ytppiibdeigjcjaa
open Go.RowKit

set_option maxHeartbeats 800000 in
theorem cut_fits1 {w : World} {v : Value} {l : List Sp} {x nn : Int} (h : SpansIn w v l) (hs : l.length ≤ 1048576) (hx : InInt x) (hn : InInt nn) (hb : ordB 0 l = true) (hx0 : 0 ≤ x) (hn0 : 0 < nn) (hf : x + nn ≤ 9223372036854775807) {u pt : Int} (hp : l[firstL x l]? = some (u, pt)) (hux : u < x) : Calls Try.prog 26 #[v, .int .i64 x, .int .i64 nn] w (MadeB w (cutR l x nn) true) := by
  have h0 := h
  obtain ⟨⟨A, c, rfl, h1, h2, h3⟩, hi⟩ := h
  have hnot := not_any
  obtain ⟨n, en⟩ : ∃ n, l.length = n := ⟨_, rfl⟩
  obtain ⟨o, eo⟩ : ∃ o, ordB 0 l = o := ⟨_, rfl⟩
  have RS : Hid (Calls Try.prog 13 #[.slice A l.length c] w fun e w' => e = .returned (.bool o) ∧ Below w.heap.size w w') := right_spans h0 eo
  have HS0 : Hid (∀ W, Below w.heap.size w W → SpansIn W (.slice A n c) l) := fun W hW => by have := h0.below hW; rwa [en] at this
  have HS := Lib.hid hs
  rw [en] at RS ⊢
  have HP3 := Lib.hid h3
  have HN := Lib.hid en
  have HO := Lib.hid eo
  have HII := Lib.hid hi
  have HX := Lib.hid hx
  have HNN := Lib.hid hn
  obtain rfl : o = true := eo.symm.trans hb
  obtain ⟨e, ee⟩ : ∃ e, stopI x nn = e := ⟨_, rfl⟩
  have HCF : Hid (l.take (firstL x l) ++ (leftA x l ++ leftB e l) ++ l.drop (toN e l) = cutL x e l) := by
    have := cut_any (n := nn) HO.out HX.out.2 (by omega)
    rwa [ee] at this
  have HCV : Hid (cutR l x nn = cutL x e l) := by show _ = _; unfold cutR; rw [if_neg (by omega), ee]
  have HEE : Hid (0 ≤ e ∧ e ≤ 9223372036854775807 ∧ 0 ≤ x) := by
    have := HX.out.2
    rw [← ee]
    unfold stopI
    split <;> exact ⟨by omega, by omega, by omega⟩
  obtain ⟨k, ek⟩ : ∃ k, firstL x l = k := ⟨_, rfl⟩
  obtain ⟨j, ej⟩ : ∃ j, firstL e l = j := ⟨_, rfl⟩
  rw [ek] at hp
  have HKL : Hid (k ≤ l.length) := by show _ ≤ _; rw [← ek]; exact firstL_le x l
  have hjl : j ≤ n := by rw [← ej, ← HN.out]; exact firstL_le e l
  rw [ek] at HCF
  have HK := Lib.hid ek
  have HJ := Lib.hid ej
  have F1 : Hid (∀ W, Below w.heap.size w W → Calls Try.prog 31 #[.slice A n c, .int .i64 x] W fun e w' => e = .returned (.int .i64 (k : Nat)) ∧ Below W.heap.size W w') := fun W hb => first_is (HS0.out W hb) HO.out HS.out HK.out
  have F2 : Hid (∀ W, Below w.heap.size w W → Calls Try.prog 31 #[.slice A n c, .int .i64 e] W fun e w' => e = .returned (.int .i64 (j : Nat)) ∧ Below W.heap.size W w') := fun W hb => first_is (HS0.out W hb) HO.out HS.out HJ.out
  have hadd := fun W => add_any x nn W HX.out.1 HX.out.2 HNN.out.1 HNN.out.2
  have hd1 : decide (x < 0) = false := decide_eq_false (by omega)
  have hd2 : decide (nn < 0) = false := decide_eq_false (by omega)
  have hd3 : (nn == 0) = false := by simp; omega
  have hfb : fitB (x + nn) = true := fitB_yes (by omega) hf
  have heq : x + nn = e := by rw [← ee]; unfold stopI; rw [if_pos hf]
  rw [fitV_yes hfb, hfb, heq] at hadd
  have HADD := Lib.hid hadd
  have HP0 := Lib.hid hp
  have hnb : n ≤ 1048576 := by rw [← HN.out]; exact hs
  clear h0 h1 h2 h3 hi eo hb hx hn en hs hadd hfb heq ee hf ek ej hp hx0 hn0
  go_enter Try.func26, Try.ntmps26
  go_wp2_with fail
  refine RS.out.mono ?_
  rintro e0 w1 ⟨rfl, b1⟩
  go_wp2_with fail
  refine (HADD.out _).mono ?_
  rintro e2 w2 ⟨rfl, rfl⟩
  go_wp2_with fail
  refine (F1.out _ b1).mono ?_
  rintro e2 w2 ⟨rfl, b2⟩
  have b3 := step_below b1 b2
  go_wp2_with fail
  refine (F2.out _ b3).mono ?_
  rintro e2 w3 ⟨rfl, b4⟩
  have b5 := step_below b3 b4
  clear b1 b2 b3 b4 F1 F2 HADD hd1 hd2 hd3
  have hp := HP0.out
  clear HP0
  go_upto_region 10 with fail
  have hkn : k < n := by have := (List.getElem?_eq_some_iff.1 hp).1; rwa [HN.out] at this
  obtain ⟨pb, off, rfl, hpbl, c0, c1⟩ := (HP3.out.below b5).one hp
  have hik : 0 ≤ (k : Int) ∧ (k : Int) < (n : Int) := by omega
  have hkn1 : decide ((k : Int) < (n : Int)) = true := decide_eq_true (by omega)
  have hkn2 : decide (k < n) = true := decide_eq_true hkn
  have hpo := ordB_mem HO.out _ (List.mem_of_getElem? hp)
  simp only at c0 c1 hpo
  have hd4 : decide (u < x) = true := decide_eq_true hux
  have HLA : Hid (leftA x l = [(u, x - u)]) := leftA_yes HK.out hp hux
  have HUX : Hid (0 ≤ u ∧ u < x) := ⟨hpo.1, hux⟩
  have hw4 : IntKind.i64.wrap (x - u) = x - u := i64_is (by have := HX.out; unfold InInt at this; omega)
  have KK : Hid (∀ W W', (Below w.heap.size w W ∧ W.cell? ⟨pb, off + k * 2, none⟩ = some (.int .i64 u)) → Below w.heap.size W W' → (Below w.heap.size w W' ∧ W'.cell? ⟨pb, off + k * 2, none⟩ = some (.int .i64 u))) := fun W W' h hb => ⟨h.1.trans hb, (pairs_at2 (HP3.out.below (h.1.trans hb)) hp).1⟩
  clear hp hpo c1
  go_upto_region 11 with fail
  have S0 : Below w.heap.size w w3 ∧ w3.cell? ⟨pb, off + k * 2, none⟩ = some (.int .i64 u) := ⟨b5, c0⟩
  have S1 := KK.out _ w3.drew S0 (Below.mono (drew_below w3) b5.size)
  go_region_held3 (fun X => Below w.heap.size w X ∧ X.cell? ⟨pb, off + k * 2, none⟩ = some (.int .i64 u))
    (first
      | with_reducible assumption
      | (rename Below w.heap.size w _ ∧ _ => hS
         exact KK.out _ _ hS ((Below.refl _ _).alloc hS.1.size _)))
    (first
      | (refine step_head (by rfl) (.tmp 55) (.tmp 69) (by rfl) (base := w.heap.size) (v := _) (xs := []) (by rfl) (Head.nil _ _) (by rename Below w.heap.size w _ ∧ _ => hS; exact hS.1.size) _ 1 1 (zs := [(u, x - u)]) (by rfl) (one_pairs' _ u (x - u) (by first | rfl | simp)) rfl (by simp) ?_
         intro v7 w7 hh7 hb7 hg7
         rename Below w.heap.size w _ ∧ _ => hS
         have hS7 := KK.out _ _ hS hb7))
  have b7 := hS7.1
  rw [List.nil_append] at hh7
  obtain ⟨A7, c7, e7, _⟩ := hh7.slice (by simp)
  have e8 : v7 = .slice A7 1 c7 := e7
  subst e8
  have HD7 : Hid (Head w7 w.heap.size (.slice A7 1 c7) [(u, x - u)]) := hh7
  clear e7 hh7 hb7 hg7 S0 S1 hS7 c0 KK
  by_cases hjn : j < n
  · obtain ⟨q, hq0⟩ : ∃ q, l[j]? = some q := ⟨_, List.getElem?_eq_getElem (by rw [HN.out]; exact hjn)⟩
    obtain ⟨g0, g1⟩ := pairs_at2 (HP3.out.below b7) hq0
    have hij : 0 ≤ (j : Int) ∧ (j : Int) < (n : Int) := by omega
    have hjn1 : decide ((j : Int) < (n : Int)) = true := decide_eq_true (by omega)
    have hjn2 : decide (j < n) = true := decide_eq_true hjn
    have hqo := ordB_mem HO.out q (List.mem_of_getElem? hq0)
    obtain ⟨s, t⟩ := q
    simp only at g0 g1 hqo
    by_cases hse : s < e
    · have hd3 : decide (s < e) = true := decide_eq_true hse
      have HLB : Hid (leftB e l = [(e, s + t - e)]) := leftB_yes HJ.out hq0 hse
      have HEJ : Hid (e < s + t) := firstL_from (a := 0) j (s, t) HO.out (by rw [HJ.out]; exact Nat.le_refl _) hq0
      have HQO : Hid (0 ≤ s ∧ 1 ≤ t ∧ s + t ≤ 9223372036854775807) := hqo
      have hw5 : IntKind.i64.wrap (s + t - e) = s + t - e := i64_is (by have := HEJ.out; have := HEE.out; omega)
      clear hq0 hqo
      go_wp2_with fail
      refine (behind_is (x := s + t) _ (by have := HQO.out; exact ⟨by omega, by omega⟩) rfl).mono ?_
      rintro e5 w5 ⟨rfl, b9⟩
      have hd5 := (HD7.out).below b9
      have b55 := step_below b7 b9
      clear g0 g1
      go_wp2_with (at_builtin; refine wpList_head (by rfl) (.tmp 84) (.tmp 94) (by rfl) (base := w.heap.size) (v := _) (xs := [(u, x - u)]) (by rfl) (hd5.below (new_below w5 _)) (by have := b55.size; simp; omega) (some ⟨w5.heap.size, 0, none⟩) 1 1 (zs := [(e, s + t - e)]) (by rfl) (one_pairs w5 e (s + t - e)) rfl (by simp) ?_; intro v7 w7 hd7 hb7 _)
      have b77 := (b55.alloc b55.size (.cells #[.int .i64 e, .int .i64 (s + t - e)] 24)).trans hb7
      have hd7' : Head w7 w.heap.size v7 [(u, x - u), (e, s + t - e)] := hd7
      have HL7 : Hid (SpansIn w7 v7 [(u, x - u), (e, s + t - e)]) := hd7'.spans (by simp) (fun p hp => by
        rcases List.mem_append.1 (show p ∈ [(u, x - u)] ++ [(e, s + t - e)] from hp) with hp | hp
        · (rw [List.mem_singleton.1 hp]; have a1 := HUX.out; have a2 := HX.out; have a3 := HEE.out; unfold InInt at a2; exact ⟨⟨by simp only; omega, by simp only; omega⟩, ⟨by simp only; omega, by simp only; omega⟩⟩)
        · rw [List.mem_singleton.1 hp]
          have := HEJ.out
          have := HEE.out
          have := HQO.out
          exact ⟨⟨by simp only; omega, by simp only; omega⟩, ⟨by simp only; omega, by simp only; omega⟩⟩)
      clear hd7 hd7' hb7 hd5 b9
      obtain ⟨v7A, v7c, ev7, _⟩ := HL7.out.ex
      have ev8 : v7 = .slice v7A 2 v7c := ev7
      subst ev8
      clear ev7
      go_upto_region 15 with fail
      have HLI := Lib.hid (HS0.out _ b77)
      have HBB := Lib.hid b77
      have HTO : Hid (j + 1 ≤ l.length) := by show _ ≤ _; have := HN.out; omega
      have HRES : Hid (l.take k ++ [(u, x - u), (e, s + t - e)] ++ l.drop (j + 1) = cutL x e l) := by
        show _ = _
        rw [← HCF.out, HLA.out, HLB.out, toN, HLB.out, HJ.out]
        simp
      go_wp2_with fail
      refine (instead_is HLI.out HL7.out HS.out (by simp) HKL.out HTO.out).mono ?_
      rintro e6 w6 ⟨v6, rfl, hv, b6⟩
      rw [HRES.out, ← HCV.out] at hv
      go_wp2
      go_ret2
      exact ⟨_, rfl, hv, step_below HBB.out b6⟩
    · have hd3 : decide (s < e) = false := decide_eq_false hse
      have HLB : Hid (leftB e l = []) := leftB_no HJ.out hq0 hse
      have HL7 : Hid (SpansIn w7 (.slice A7 1 c7) [(u, x - u)]) := (HD7.out).spans (by simp) (fun p hp => by (rw [List.mem_singleton.1 hp]; have a1 := HUX.out; have a2 := HX.out; have a3 := HEE.out; unfold InInt at a2; exact ⟨⟨by simp only; omega, by simp only; omega⟩, ⟨by simp only; omega, by simp only; omega⟩⟩))
      have HLI := Lib.hid (HS0.out _ b7)
      have HBB := Lib.hid b7
      have HTO : Hid (j ≤ l.length) := by show _ ≤ _; have := HN.out; omega
      have HRES : Hid (l.take k ++ [(u, x - u)] ++ l.drop (j) = cutL x e l) := by
        show _ = _
        rw [← HCF.out, HLA.out, HLB.out, toN, HLB.out, HJ.out]
        simp
      go_wp2_with fail
      refine (instead_is HLI.out HL7.out HS.out (by simp) HKL.out HTO.out).mono ?_
      rintro e6 w6 ⟨v6, rfl, hv, b6⟩
      rw [HRES.out, ← HCV.out] at hv
      go_wp2
      go_ret2
      exact ⟨_, rfl, hv, step_below HBB.out b6⟩
  · have hjn1 : decide ((j : Int) < (n : Int)) = false := decide_eq_false (by omega)
    have hjn2 : decide (j < n) = false := decide_eq_false hjn
    have HLB : Hid (leftB e l = []) := leftB_none HJ.out (List.getElem?_eq_none (by rw [HN.out]; omega))
    have HL7 : Hid (SpansIn w7 (.slice A7 1 c7) [(u, x - u)]) := (HD7.out).spans (by simp) (fun p hp => by (rw [List.mem_singleton.1 hp]; have a1 := HUX.out; have a2 := HX.out; have a3 := HEE.out; unfold InInt at a2; exact ⟨⟨by simp only; omega, by simp only; omega⟩, ⟨by simp only; omega, by simp only; omega⟩⟩))
    have HLI := Lib.hid (HS0.out _ b7)
    have HBB := Lib.hid b7
    have HTO : Hid (j ≤ l.length) := by show _ ≤ _; have := HN.out; omega
    have HRES : Hid (l.take k ++ [(u, x - u)] ++ l.drop (j) = cutL x e l) := by
      show _ = _
      rw [← HCF.out, HLA.out, HLB.out, toN, HLB.out, HJ.out]
      simp
    go_wp2_with fail
    refine (instead_is HLI.out HL7.out HS.out (by simp) HKL.out HTO.out).mono ?_
    rintro e6 w6 ⟨v6, rfl, hv, b6⟩
    rw [HRES.out, ← HCV.out] at hv
    go_wp2
    go_ret2
    exact ⟨_, rfl, hv, step_below HBB.out b6⟩
end Go.Proofs.Ytppiibdeigjcjaa
