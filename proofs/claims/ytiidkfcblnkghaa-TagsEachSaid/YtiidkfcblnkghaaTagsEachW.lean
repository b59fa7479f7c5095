/- Layer 16 (tags): the walk of TagsEach. -/
import Derived.Test.YtiidkfcblnkghaaTagsWorks
import Derived.Test.YtiidkfcblnkghaaBaseRows
namespace Go.Proofs.Ytiidkfcblnkghaa
open Go.RowKit

/-! ### what a chunk is behind its calls -/
theorem in_yes {n p : Nat} (h : p < n) : isIn n (p : Int) = true := isIn_iff.2 ⟨by omega, by omega⟩
theorem own_chunk {O : List Nat} {p o : Nat} (hp : p < O.length) (ho : 1 ≤ o) : ownE O (p : Int) (o : Int) = (if 0 < atI O (p : Int) then 19 else 0) ∧ 0 < atI (ownV O (p : Int) (o : Int)) (p : Int) := by
  have hE : ownE O (p : Int) (o : Int) = if 0 < atI O (p : Int) then 19 else 0 := by
    unfold ownE
    rw [if_neg]
    rintro (h | h)
    · rw [in_yes hp] at h; cases h
    · omega
  refine ⟨hE, ?_⟩
  unfold ownV
  rw [hE]
  by_cases h : 0 < atI O (p : Int)
  · rw [if_pos h, if_neg (by omega)]; exact h
  · rw [if_neg h, if_pos rfl, Int.toNat_natCast, Int.toNat_natCast, atI_nat, getD_set' _ _ _ _ hp, if_pos rfl]
    omega
theorem leave_in {O : List Nat} {p : Nat} (hp : p < O.length) (h : 0 < atI O (p : Int)) : leaveE O (p : Int) = 0 ∧ atI (leaveV O (p : Int)) (p : Int) = 0 := by
  have hE : leaveE O (p : Int) = 0 := by
    unfold leaveE
    rw [if_neg (by rw [in_yes hp]; simp), if_neg (by omega)]
  refine ⟨hE, ?_⟩
  unfold leaveV
  rw [hE, if_pos rfl, Int.toNat_natCast, atI_nat, getD_set' _ _ _ _ hp, if_pos rfl]
theorem raise_in {O G : List Nat} {p : Nat} (hp : p < O.length) (hg : p < G.length) (h : atI O (p : Int) = 0) (hl : atI G (p : Int) < 1048575) : raiseE O G (p : Int) = 0 ∧ raiseV O G (p : Int) = G.set p (atI G (p : Int) + 1) ∧ genV (raiseV O G (p : Int)) (p : Int) = (atI G (p : Int) : Int) + 1 := by
  have hE : raiseE O G (p : Int) = 0 := by
    unfold raiseE
    rw [if_neg (by rw [in_yes hp]; simp), if_neg (by omega), if_neg (by omega)]
  have hV : raiseV O G (p : Int) = G.set p (atI G (p : Int) + 1) := by
    unfold raiseV
    rw [hE, if_pos rfl, Int.toNat_natCast]
  refine ⟨hE, hV, ?_⟩
  rw [hV]
  unfold genV
  rw [if_pos (in_yes (by rw [List.length_set]; exact hg)), atI_nat, getD_set' _ _ _ _ hg, if_pos rfl]
  omega
theorem gen_in {G : List Nat} {p : Nat} (hg : p < G.length) : genV G (p : Int) = (atI G (p : Int) : Int) := by unfold genV; rw [if_pos (in_yes hg)]
theorem owner_in {O : List Nat} {p : Nat} (hp : p < O.length) : ownerV O (p : Int) = atI O (p : Int) := by unfold ownerV; rw [if_pos (in_yes hp)]

theorem each_out {w : World} {A : Option Addr} {n c : Nat} (h : 100 < n) : Calls Try.prog 4 #[.slice A n c] w (TrueBelow w) := by
  have d1 : 100 < (n : Int) := by omega
  clear h
  go_enter Try.func4, Try.ntmps4
  go_wp2_with fail
  refine (works_is _).mono ?_
  rintro e w3 ⟨rfl, b3⟩
  have B3 := Lib.hid b3
  clear b3
  go_wp2
  go_ret
  exact ⟨rfl, B3.out⟩
/-- What the loop keeps. -/
def EachAt (w wr : World) (q k : Nat) (O G : List Nat) : Prop := One w wr q 8 O G ∧ ∀ j : Nat, G[j]?.getD 0 ≤ k
set_option maxRecDepth 100000 in
set_option maxHeartbeats 3200000 in
theorem each_in {w : World} {A : Option Addr} {n c : Nat} {xs : List Nat} (h : BytesAt w A xs) (hn : n = xs.length) (hle : ¬ 100 < n) : Calls Try.prog 4 #[.slice A n c] w (TrueBelow w) := by
  have d1 : ¬ 100 < (n : Int) := by omega
  have HN := Lib.hid hn
  have HP := Lib.hid h
  have HW := Lib.hid fun W => works_is W
  have HLE := Lib.hid hle
  clear h hn hle
  go_enter Try.func4, Try.ntmps4
  go_wp2_with fail
  refine (new_is w (n := 8) (by omega)).mono ?_
  rintro e w1 ⟨rfl, ht, hB, _⟩
  have H1 : Hid (EachAt w w1 w.heap.size 0 (List.replicate 8 0) (List.replicate 8 0)) := ⟨⟨ht, hB, Nat.le_refl _⟩, fun j => by rw [zeros_getD]; exact Nat.le_refl _⟩
  clear ht hB
  obtain ⟨q, hq⟩ : ∃ q, w.heap.size = q := ⟨_, rfl⟩
  rw [hq] at H1 ⊢
  clear hq
  go_wp2_with fail
  go_loopw [4] (fun vi wr => ∃ (k : Nat) (O G : List Nat), k ≤ n ∧ vi = .int .i64 k ∧ Hid (EachAt w wr q k O G)) (fun vi _ => n - (RowKit.intOf vi).toNat)
  case atStart => exact ⟨0, _, _, by omega, rfl, H1⟩
  case round =>
    clear H1
    obtain ⟨k, O, G, hk, rfl, HB⟩ := hrel
    by_cases hlt : k < n
    · have hkx : k < xs.length := by have := HN.out; omega
      obtain ⟨b, off, rfl, hx8, hc⟩ := HP.out.at_ hkx
      have hbl := World.block_lt_of_cell? w _ hc
      generalize xs[k]'hkx = x at *
      have HC : Hid (∀ W, Below w.heap.size w W → W.cell? ⟨b, off + k, none⟩ = some (.int .u8 x)) := fun W hW => (hW.cell (p := ⟨b, off + k, none⟩) hbl).trans hc
      have hi : 0 ≤ (k : Int) ∧ (k : Int) < (n : Int) := by omega
      obtain ⟨p, ep⟩ : ∃ p, p = x % 8 := ⟨_, rfl⟩
      obtain ⟨d, ed⟩ : ∃ d, d = x / 8 := ⟨_, rfl⟩
      obtain ⟨z, ez⟩ : ∃ z, z = d % 3 := ⟨_, rfl⟩
      obtain ⟨o, eo⟩ : ∃ o, o = 1 + z := ⟨_, rfl⟩
      have hwx : IntKind.i64.wrap (x : Int) = (x : Int) := IntWalk.i64_in _ (by omega)
      have htm1 : Int.tmod (x : Int) 8 = (p : Int) := by rw [Int.tmod_eq_emod_of_nonneg (by omega), ep]; push_cast; rfl
      have hdv : Int.tdiv (x : Int) 8 = (d : Int) := by rw [Int.tdiv_eq_ediv_of_nonneg (by omega), ed]; push_cast; rfl
      have htm2 : Int.tmod (d : Int) 3 = (z : Int) := by rw [Int.tmod_eq_emod_of_nonneg (by omega), ez]; push_cast; rfl
      have hwp : IntKind.i64.wrap (p : Int) = (p : Int) := IntWalk.i64_in _ (by omega)
      have hwd : IntKind.i64.wrap (d : Int) = (d : Int) := IntWalk.i64_in _ (by omega)
      have hwz : IntKind.i64.wrap (z : Int) = (z : Int) := IntWalk.i64_in _ (by omega)
      have hwo : IntKind.i64.wrap (1 + (z : Int)) = (o : Int) := by rw [IntWalk.i64_in _ (by omega)]; omega
      have hp8 : p < 8 := by omega
      have ho1 : 1 ≤ o := by omega
      have ho3 : o ≤ 3 := by omega
      clear hc ep ed ez eo hbl
      have c0 : ∀ j, (wr.drewN j).cell? ⟨b, off + k, none⟩ = some (.int .u8 x) := fun j => HC.out _ (below_drewN HB.out.1.bel j)
      go_wp2_with fail
      go_quiet (fail)
      have HB2 : Hid (EachAt w (wr.drewN nq) q k O G) := ⟨HB.out.1.below (below_drewN (Below.refl _ _) nq), HB.out.2⟩
      clear HB c0 hwx htm1 hdv htm2 hwp hwd hwz hwo
      generalize wr.drewN nq = w2 at *
      obtain ⟨lO, lG, _⟩ := HB2.out.1.tags.len
      have hpO : p < O.length := by omega
      have hpG : p < G.length := by omega
      obtain ⟨a, ha⟩ : ∃ a, atI O (p : Int) = a := ⟨_, rfl⟩
      obtain ⟨g, hg⟩ : ∃ g, atI G (p : Int) = g := ⟨_, rfl⟩
      have hgk : g ≤ k := by have := HB2.out.2 p; rw [atI_nat] at hg; omega
      have hn100 := HLE.out
      have GO : Hid (ownerV O (p : Int) = a) := by show _ = _; rw [owner_in hpO, ha]
      have GG : Hid (genV G (p : Int) = (g : Int)) := by show _ = _; rw [gen_in hpG, hg]
      obtain ⟨O1, hO1⟩ : ∃ O1, ownV O (p : Int) (o : Int) = O1 := ⟨_, rfl⟩
      have hO1l : O1.length = O.length := by rw [← hO1, ownV_length]
      obtain ⟨hE, hpos⟩ := own_chunk (O := O) (o := o) hpO ho1
      rw [hO1] at hpos
      rw [ha] at hE
      have HO1 := Lib.hid hO1
      have hgg : ((g : Int) != (g : Int)) = false := by simp
      have hxo : InInt (o : Int) := ⟨by omega, by omega⟩
      obtain ⟨hL0, hL1⟩ := leave_in (O := O1) (p := p) (by omega) hpos
      obtain ⟨O2, hO2⟩ : ∃ O2, leaveV O1 (p : Int) = O2 := ⟨_, rfl⟩
      have hO2l : O2.length = O.length := by rw [← hO2, leaveV_length, hO1l]
      rw [hO2] at hL1
      obtain ⟨hR0, hR1, hR2⟩ := raise_in (O := O2) (G := G) (p := p) (by omega) hpG hL1 (by omega)
      rw [hg] at hR1 hR2
      obtain ⟨G2, hG2⟩ : ∃ G2, raiseV O2 G (p : Int) = G2 := ⟨_, rfl⟩
      rw [hG2] at hR1 hR2
      have HL0 := Lib.hid hL0
      have HO2 := Lib.hid hO2
      have HR0 := Lib.hid hR0
      have HR2 := Lib.hid hR2
      have HG2 := Lib.hid hG2
      have HGB : Hid (∀ j : Nat, G2[j]?.getD 0 ≤ k + 1) := fun j => by
        rw [hR1, getD_set' _ _ _ _ hpG]
        split
        · omega
        · have := HB2.out.2 j; omega
      have hwg : IntKind.i64.wrap ((g : Int) + 1) = (g : Int) + 1 := IntWalk.i64_in _ (by omega)
      have hg1 : (((g : Int) + 1) != ((g : Int) + 1)) = false := by simp
      have HX : Hid (InInt (o : Int)) := hxo
      clear lO lG hpO hpG ha hg hO1 hO1l hpos hL0 hL1 hO2 hO2l hR0 hR1 hR2 hG2 hxo hgk
      obtain ⟨e1, he1⟩ : ∃ e1, (if 0 < a then 19 else 0) = e1 := ⟨_, rfl⟩
      rw [he1] at hE
      obtain ⟨r, hr⟩ : ∃ r, ((a : Int) == 0) = r := ⟨_, rfl⟩
      have hr2 : ((e1 : Int) == 0) = r := by
        rw [← he1, ← hr]
        by_cases h0 : 0 < a
        · rw [if_pos h0]; simp; omega
        · rw [if_neg h0]; simp; omega
      have hrr : (r != r) = false := by simp
      have HE := Lib.hid hE
      clear hE he1
      go_wp2_with fail
      refine (owner_is HB2.out.1.tags GO.out).mono ?_
      rintro e _ ⟨rfl, rfl⟩
      go_wp2_with fail
      refine (gen_is HB2.out.1.tags GG.out).mono ?_
      rintro e _ ⟨rfl, rfl⟩
      go_wp2_with fail
      refine (o_own HB2.out.1 _ _ HX.out HE.out HO1.out).mono ?_
      rintro e w3 ⟨rfl, h3⟩
      have H3 := Lib.hid h3
      have HG3 := Lib.hid HB2.out.2
      clear h3 HB2
      go_wp2_with fail
      refine (gen_is H3.out.tags GG.out).mono ?_
      rintro e _ ⟨rfl, rfl⟩
      have c3 := HC.out _ H3.out.bel
      by_cases hx : 127 < x
      · have dx : (127 : Int) < (x : Int) := by omega
        clear hx hr hr2 hrr
        go_wp2_with fail
        refine (o_leave H3.out _ HL0.out HO2.out).mono ?_
        rintro e w4 ⟨rfl, h4⟩
        have H4 := Lib.hid h4
        clear h4 H3 c3
        go_wp2_with fail
        refine (o_raise H4.out _ HR0.out HG2.out).mono ?_
        rintro e w5 ⟨rfl, h5⟩
        have H5 := Lib.hid h5
        clear h5 H4
        go_wp2_with fail
        refine (gen_is H5.out.tags HR2.out).mono ?_
        rintro e _ ⟨rfl, rfl⟩
        have HS : Hid (EachAt w w5 q (k + 1) O2 G2) := ⟨H5.out, HGB.out⟩
        clear H5
        have hcl := fun x => cntV_le O2 x
        have h8 := HS.out.1.tags.len.1
        obtain ⟨c1, hc1⟩ : ∃ c1, cntV O2 1 = c1 := ⟨_, rfl⟩
        obtain ⟨c2, hc2⟩ : ∃ c2, cntV O2 2 = c2 := ⟨_, rfl⟩
        obtain ⟨c3, hc3⟩ : ∃ c3, cntV O2 3 = c3 := ⟨_, rfl⟩
        have l1 := hcl 1
        have l2 := hcl 2
        have l3 := hcl 3
        rw [hc1] at l1
        rw [hc2] at l2
        rw [hc3] at l3
        have e1 := ofV_length O2 1
        have e2 := ofV_length O2 2
        have e3 := ofV_length O2 3
        rw [hc1] at e1
        rw [hc2] at e2
        rw [hc3] at e3
        have E1 := Lib.hid e1
        have E2 := Lib.hid e2
        have E3 := Lib.hid e3
        have C1 := Lib.hid hc1
        have C2 := Lib.hid hc2
        have C3 := Lib.hid hc3
        obtain ⟨s1, hs1⟩ : ∃ s1, c1 + c2 = s1 := ⟨_, rfl⟩
        obtain ⟨s2, hs2⟩ : ∃ s2, s1 + c3 = s2 := ⟨_, rfl⟩
        have w1 : IntKind.i64.wrap ((c1 : Int) + (c2 : Int)) = (s1 : Int) := by rw [IntWalk.i64_in _ (by omega)]; omega
        have w2' : IntKind.i64.wrap ((s1 : Int) + (c3 : Int)) = (s2 : Int) := by rw [IntWalk.i64_in _ (by omega)]; omega
        have hss : ((s2 : Int) != (s2 : Int)) = false := by simp
        clear hcl h8 hc1 hc2 hc3 l1 l2 l3 e1 e2 e3 hs1 hs2
        go_wp2_with fail
        refine (count_is HS.out.1.tags (x := 1) ⟨by omega, by omega⟩ C1.out).mono ?_
        rintro e _ ⟨rfl, rfl⟩
        go_wp2_with fail
        refine (count_is HS.out.1.tags (x := 2) ⟨by omega, by omega⟩ C2.out).mono ?_
        rintro e _ ⟨rfl, rfl⟩
        go_wp2_with fail
        refine (count_is HS.out.1.tags (x := 3) ⟨by omega, by omega⟩ C3.out).mono ?_
        rintro e _ ⟨rfl, rfl⟩
        go_wp2_with fail
        refine (o_of HS.out.1 (x := 1) ⟨by omega, by omega⟩ rfl).mono ?_
        rintro e w10 ⟨A1, k1, rfl, _, h10⟩
        rw [E1.out]
        have H10 := Lib.hid h10
        clear h10
        go_wp2_with fail
        refine (o_of H10.out (x := 2) ⟨by omega, by omega⟩ rfl).mono ?_
        rintro e w11 ⟨A2, k2, rfl, _, h11⟩
        rw [E2.out]
        have H11 := Lib.hid h11
        clear h11 H10
        go_wp2_with fail
        refine (o_of H11.out (x := 3) ⟨by omega, by omega⟩ rfl).mono ?_
        rintro e w12 ⟨A3, k3, rfl, _, h12⟩
        rw [E3.out]
        have H12 : Hid (EachAt w w12 q (k + 1) O2 G2) := ⟨h12, HS.out.2⟩
        clear h12 H11 HS
        go_wp2
        go_roundw
        case rel => exact ⟨k + 1, O2, G2, by omega, by go_num, H12⟩
        case measure => simp [RowKit.intOf]; omega
      · have dx : ¬ (127 : Int) < (x : Int) := by omega
        have HS : Hid (EachAt w w3 q (k + 1) O1 G) := ⟨H3.out, fun j => Nat.le_succ_of_le (HG3.out j)⟩
        clear hx hr hr2 hrr H3
        have hcl := fun x => cntV_le O1 x
        have h8 := HS.out.1.tags.len.1
        obtain ⟨c1, hc1⟩ : ∃ c1, cntV O1 1 = c1 := ⟨_, rfl⟩
        obtain ⟨c2, hc2⟩ : ∃ c2, cntV O1 2 = c2 := ⟨_, rfl⟩
        obtain ⟨c3, hc3⟩ : ∃ c3, cntV O1 3 = c3 := ⟨_, rfl⟩
        have l1 := hcl 1
        have l2 := hcl 2
        have l3 := hcl 3
        rw [hc1] at l1
        rw [hc2] at l2
        rw [hc3] at l3
        have e1 := ofV_length O1 1
        have e2 := ofV_length O1 2
        have e3 := ofV_length O1 3
        rw [hc1] at e1
        rw [hc2] at e2
        rw [hc3] at e3
        have E1 := Lib.hid e1
        have E2 := Lib.hid e2
        have E3 := Lib.hid e3
        have C1 := Lib.hid hc1
        have C2 := Lib.hid hc2
        have C3 := Lib.hid hc3
        obtain ⟨s1, hs1⟩ : ∃ s1, c1 + c2 = s1 := ⟨_, rfl⟩
        obtain ⟨s2, hs2⟩ : ∃ s2, s1 + c3 = s2 := ⟨_, rfl⟩
        have w1 : IntKind.i64.wrap ((c1 : Int) + (c2 : Int)) = (s1 : Int) := by rw [IntWalk.i64_in _ (by omega)]; omega
        have w2' : IntKind.i64.wrap ((s1 : Int) + (c3 : Int)) = (s2 : Int) := by rw [IntWalk.i64_in _ (by omega)]; omega
        have hss : ((s2 : Int) != (s2 : Int)) = false := by simp
        clear hcl h8 hc1 hc2 hc3 l1 l2 l3 e1 e2 e3 hs1 hs2
        go_wp2_with fail
        refine (count_is HS.out.1.tags (x := 1) ⟨by omega, by omega⟩ C1.out).mono ?_
        rintro e _ ⟨rfl, rfl⟩
        go_wp2_with fail
        refine (count_is HS.out.1.tags (x := 2) ⟨by omega, by omega⟩ C2.out).mono ?_
        rintro e _ ⟨rfl, rfl⟩
        go_wp2_with fail
        refine (count_is HS.out.1.tags (x := 3) ⟨by omega, by omega⟩ C3.out).mono ?_
        rintro e _ ⟨rfl, rfl⟩
        go_wp2_with fail
        refine (o_of HS.out.1 (x := 1) ⟨by omega, by omega⟩ rfl).mono ?_
        rintro e w10 ⟨A1, k1, rfl, _, h10⟩
        rw [E1.out]
        have H10 := Lib.hid h10
        clear h10
        go_wp2_with fail
        refine (o_of H10.out (x := 2) ⟨by omega, by omega⟩ rfl).mono ?_
        rintro e w11 ⟨A2, k2, rfl, _, h11⟩
        rw [E2.out]
        have H11 := Lib.hid h11
        clear h11 H10
        go_wp2_with fail
        refine (o_of H11.out (x := 3) ⟨by omega, by omega⟩ rfl).mono ?_
        rintro e w12 ⟨A3, k3, rfl, _, h12⟩
        rw [E3.out]
        have H12 : Hid (EachAt w w12 q (k + 1) O1 G) := ⟨h12, HS.out.2⟩
        clear h12 H11 HS
        go_wp2
        go_roundw
        case rel => exact ⟨k + 1, O1, G, by omega, by go_num, H12⟩
        case measure => simp [RowKit.intOf]; omega
    · obtain rfl : k = n := by omega
      have HZ : Hid (Gone (wr.alloc (.cells #[.slice none 0 0, .map none] 46)) (.pointer (some ⟨wr.heap.size, 0, none⟩))) := zero_lit wr
      have HB3 : Hid (Below w.heap.size w (wr.alloc (.cells #[.slice none 0 0, .map none] 46))) := step_below HB.out.1.bel (new_below wr _)
      obtain ⟨zz, hzz⟩ : ∃ zz, wr.heap.size = zz := ⟨_, rfl⟩
      clear HB
      go_upto_region 18 with fail
      generalize wr.alloc (.cells #[.slice none 0 0, .map none] 46) = w2 at *
      rw [hzz] at HZ
      clear hzz
      have HN0 : Hid (∀ W : World, Gone W (.pointer none)) := fun W => .inl rfl
      go_wp2_with fail
      refine (own_gone (HN0.out w2) 0 1).mono ?_
      rintro e _ ⟨rfl, rfl⟩
      go_wp2_with fail
      refine (leave_gone HZ.out 0).mono ?_
      rintro e _ ⟨rfl, rfl⟩
      go_wp2_with fail
      refine (raise_gone (HN0.out w2) 0).mono ?_
      rintro e _ ⟨rfl, rfl⟩
      go_wp2_with fail
      refine (owner_gone (HN0.out w2) 0).mono ?_
      rintro e _ ⟨rfl, rfl⟩
      go_wp2_with fail
      refine (owner_gone HZ.out 0).mono ?_
      rintro e _ ⟨rfl, rfl⟩
      go_wp2_with fail
      refine (count_gone (HN0.out w2) (x := 1) ⟨by omega, by omega⟩).mono ?_
      rintro e _ ⟨rfl, rfl⟩
      go_wp2_with fail
      refine (count_gone HZ.out (x := 1) ⟨by omega, by omega⟩).mono ?_
      rintro e _ ⟨rfl, rfl⟩
      go_wp2_with fail
      refine (gen_gone (HN0.out w2) 0).mono ?_
      rintro e _ ⟨rfl, rfl⟩
      go_wp2_with fail
      refine (gen_gone HZ.out 0).mono ?_
      rintro e _ ⟨rfl, rfl⟩
      go_wp2_with fail
      refine (of_gone (HN0.out w2) (x := 1) ⟨by omega, by omega⟩).mono ?_
      rintro e w3 ⟨v3, rfl, l3, b3⟩
      obtain ⟨A3, c3, rfl, _, _, _⟩ := l3
      rw [show ([] : List Nat).length = 0 from rfl]
      have HZ3 := Lib.hid (HZ.out.below b3)
      have B3 := Lib.hid (step_below HB3.out b3)
      clear b3 HZ HB3
      go_wp2_with fail
      refine (of_gone HZ3.out (x := 1) ⟨by omega, by omega⟩).mono ?_
      rintro e w4 ⟨v4, rfl, l4, b4⟩
      obtain ⟨A4, c4, rfl, _, _, _⟩ := l4
      rw [show ([] : List Nat).length = 0 from rfl]
      have B4 := Lib.hid (step_below B3.out b4)
      clear b4 HZ3 B3
      go_wp2_with fail
      refine (HW.out _).mono ?_
      rintro e w5 ⟨rfl, b5⟩
      have B5 := Lib.hid (step_below B4.out b5)
      clear b5 B4
      go_wp2
      go_ret
      exact ⟨rfl, B5.out⟩
theorem each_any {w : World} {A : Option Addr} {n c : Nat} {xs : List Nat} (h : BytesAt w A xs) (hn : n = xs.length) : Calls Try.prog 4 #[.slice A n c] w (TrueBelow w) := by
  by_cases hle : 100 < n
  · exact each_out hle
  · exact each_in h hn hle
end Go.Proofs.Ytiidkfcblnkghaa
