/- Layer 16 (tags): the document's New, Own, Leave, Raise, each in one form; Of, Owners, Hand: contracts. -/
import Derived.Test.YtiidkfcblnkghaaTagsDocs
namespace Go.Proofs.Ytiidkfcblnkghaa
open Go.RowKit

section
variable {w : World} {T : Nat → Prop} {A B : Option Addr} {O G : List Nat} {n c d : Nat}
theorem DocTo.like {O' G' : List Nat} {r r' : Nat} {e : Ending} {w' : World} (h : DocTo w T n O G r e w') (hO : O = O') (hG : G = G') (hr : r = r') : DocTo w T n O' G' r' e w' := by subst hO hG hr; exact h
theorem rown_is (hA : IntsF w T A (ints O)) (hB : IntsF w T B (ints G)) (hT : ∀ k, w.heap.size ≤ k → T k) (hs : n ≤ 1048576) (lO : n = O.length) (lG : n = G.length) {i x : Int} {e : Nat} {O' : List Nat} (he : ownE O i x = e) (hO : ownV O i x = O') :
    Calls Try.prog 9 #[.agg #[.slice A n c, .slice B n d], .int .i64 i, .int .i64 x] w (DocTo w T n O' G e) := by
  subst he hO
  have no : ∀ {r : Nat}, ownE O i x = r → r ≠ 0 → ownV O i x = O := fun {r} hr hne => by unfold ownV; rw [if_neg (by omega)]
  by_cases h0 : i < 0
  · have hE : ownE O i x = 2 := by unfold ownE; rw [if_pos (.inl (isIn_not.2 (.inl h0)))]
    exact (rown_no1 hA hB h0).mono fun a w' h => h.like (no hE (by omega)).symm rfl hE.symm
  · by_cases h1 : (n : Int) ≤ i
    · have hE : ownE O i x = 2 := by unfold ownE; rw [if_pos (.inl (isIn_not.2 (.inr (by omega))))]
      exact (rown_no2 hA hB h0 h1).mono fun a w' h => h.like (no hE (by omega)).symm rfl hE.symm
    · obtain ⟨k, rfl⟩ := Int.eq_ofNat_of_zero_le (show 0 ≤ i by omega)
      have hk : k < n := by omega
      have hin : ¬ (isIn O.length (k : Int) = false) := fun h => by have := isIn_not.1 h; omega
      by_cases h2 : x < 1
      · have hE : ownE O (k : Int) x = 2 := by unfold ownE; rw [if_pos (.inr h2)]
        exact (rown_no3 hA hB hk h2).mono fun a w' h => h.like (no hE (by omega)).symm rfl hE.symm
      · obtain ⟨y, hy⟩ : ∃ y, O[k]? = some y := ⟨_, List.getElem?_eq_getElem (by omega)⟩
        have hat : atI O (k : Int) = y := by rw [atI_nat, hy]; rfl
        by_cases h3 : 0 < y
        · have hE : ownE O (k : Int) x = 19 := by unfold ownE; rw [if_neg (fun h => h.elim hin h2), hat, if_pos h3]
          exact (rown_no4 hA hB hk h2 hy h3).mono fun a w' h => h.like (no hE (by omega)).symm rfl hE.symm
        · have hE : ownE O (k : Int) x = 0 := by unfold ownE; rw [if_neg (fun h => h.elim hin h2), hat, if_neg h3]
          obtain ⟨z, rfl⟩ := Int.eq_ofNat_of_zero_le (show 0 ≤ x by omega)
          have hy0 : O[k]? = some 0 := by rw [hy, show y = 0 by omega]
          refine (rown_yes hA hB hT hs lO lG hk (x := z) (by omega) hy0).mono fun a w' h => h.like ?_ rfl hE.symm
          unfold ownV
          rw [hE, if_pos rfl, Int.toNat_natCast, Int.toNat_natCast]
theorem rleave_is (hA : IntsF w T A (ints O)) (hB : IntsF w T B (ints G)) (hT : ∀ k, w.heap.size ≤ k → T k) (hs : n ≤ 1048576) (lO : n = O.length) (lG : n = G.length) {i : Int} {e : Nat} {O' : List Nat} (he : leaveE O i = e) (hO : leaveV O i = O') :
    Calls Try.prog 11 #[.agg #[.slice A n c, .slice B n d], .int .i64 i] w (DocTo w T n O' G e) := by
  subst he hO
  have no : ∀ {r : Nat}, leaveE O i = r → r ≠ 0 → leaveV O i = O := fun {r} hr hne => by unfold leaveV; rw [if_neg (by omega)]
  by_cases h0 : i < 0
  · have hE : leaveE O i = 2 := by unfold leaveE; rw [if_pos (isIn_not.2 (.inl h0))]
    exact (rleave_no1 hA hB h0).mono fun a w' h => h.like (no hE (by omega)).symm rfl hE.symm
  · by_cases h1 : (n : Int) ≤ i
    · have hE : leaveE O i = 2 := by unfold leaveE; rw [if_pos (isIn_not.2 (.inr (by omega)))]
      exact (rleave_no2 hA hB h0 h1).mono fun a w' h => h.like (no hE (by omega)).symm rfl hE.symm
    · obtain ⟨k, rfl⟩ := Int.eq_ofNat_of_zero_le (show 0 ≤ i by omega)
      have hk : k < n := by omega
      have hin : ¬ (isIn O.length (k : Int) = false) := fun h => by have := isIn_not.1 h; omega
      obtain ⟨y, hy⟩ : ∃ y, O[k]? = some y := ⟨_, List.getElem?_eq_getElem (by omega)⟩
      have hat : atI O (k : Int) = y := by rw [atI_nat, hy]; rfl
      by_cases h3 : 0 < y
      · have hE : leaveE O (k : Int) = 0 := by unfold leaveE; rw [if_neg hin, hat, if_neg (by omega)]
        refine (rleave_yes hA hB hT hs lO lG hk hy h3).mono fun a w' h => h.like ?_ rfl hE.symm
        unfold leaveV
        rw [hE, if_pos rfl, Int.toNat_natCast]
      · have hE : leaveE O (k : Int) = 20 := by unfold leaveE; rw [if_neg hin, hat, if_pos (by omega)]
        have hy0 : O[k]? = some 0 := by rw [hy, show y = 0 by omega]
        exact (rleave_no3 hA hB hk hy0).mono fun a w' h => h.like (no hE (by omega)).symm rfl hE.symm
theorem rraise_is (hA : IntsF w T A (ints O)) (hB : IntsF w T B (ints G)) (hT : ∀ k, w.heap.size ≤ k → T k) (hs : n ≤ 1048576) (lO : n = O.length) (lG : n = G.length) {i : Int} {e : Nat} {G' : List Nat} (he : raiseE O G i = e) (hG : raiseV O G i = G') :
    Calls Try.prog 13 #[.agg #[.slice A n c, .slice B n d], .int .i64 i] w (DocTo w T n O G' e) := by
  subst he hG
  have no : ∀ {r : Nat}, raiseE O G i = r → r ≠ 0 → raiseV O G i = G := fun {r} hr hne => by unfold raiseV; rw [if_neg (by omega)]
  by_cases h0 : i < 0
  · have hE : raiseE O G i = 2 := by unfold raiseE; rw [if_pos (isIn_not.2 (.inl h0))]
    exact (rraise_no1 hA hB h0).mono fun a w' h => h.like rfl (no hE (by omega)).symm hE.symm
  · by_cases h1 : (n : Int) ≤ i
    · have hE : raiseE O G i = 2 := by unfold raiseE; rw [if_pos (isIn_not.2 (.inr (by omega)))]
      exact (rraise_no2 hA hB h0 h1).mono fun a w' h => h.like rfl (no hE (by omega)).symm hE.symm
    · obtain ⟨k, rfl⟩ := Int.eq_ofNat_of_zero_le (show 0 ≤ i by omega)
      have hk : k < n := by omega
      have hin : ¬ (isIn O.length (k : Int) = false) := fun h => by have := isIn_not.1 h; omega
      obtain ⟨y, hy⟩ : ∃ y, O[k]? = some y := ⟨_, List.getElem?_eq_getElem (by omega)⟩
      have hat : atI O (k : Int) = y := by rw [atI_nat, hy]; rfl
      obtain ⟨z, hz⟩ : ∃ z, G[k]? = some z := ⟨_, List.getElem?_eq_getElem (by omega)⟩
      have hag : atI G (k : Int) = z := by rw [atI_nat, hz]; rfl
      by_cases h3 : 0 < y
      · have hE : raiseE O G (k : Int) = 19 := by unfold raiseE; rw [if_neg hin, hat, if_pos h3]
        exact (rraise_no3 hA hB hk hy h3).mono fun a w' h => h.like rfl (no hE (by omega)).symm hE.symm
      · have hy0 : O[k]? = some 0 := by rw [hy, show y = 0 by omega]
        by_cases h4 : 1048575 ≤ z
        · have hE : raiseE O G (k : Int) = 6 := by unfold raiseE; rw [if_neg hin, hat, if_neg h3, hag, if_pos h4]
          exact (rraise_no4 hA hB hk hy0 hz h4).mono fun a w' h => h.like rfl (no hE (by omega)).symm hE.symm
        · have hE : raiseE O G (k : Int) = 0 := by unfold raiseE; rw [if_neg hin, hat, if_neg h3, hag, if_neg h4]
          refine (rraise_yes hA hB hT hs lO lG hk hy0 hz h4).mono fun a w' h => h.like rfl ?_ hE.symm
          unfold raiseV
          rw [hE, if_pos rfl, Int.toNat_natCast, hag]
end

/-! ### New -/
theorem alloc_first3 (w : World) (a b c : Obj) : (((w.alloc a).alloc b).alloc c).heap[w.heap.size]? = some a := by
  rw [Below.heap_alloc _ _ _ (by simp; omega), Below.heap_alloc _ _ _ (by simp)]
  show (w.heap.push _)[w.heap.size]? = _
  simp
theorem alloc_below3 (w : World) (a b c : Obj) : Below w.heap.size w (((w.alloc a).alloc b).alloc c) := (((Below.refl _ _).alloc (Nat.le_refl _) _).alloc (by simp) _).alloc (by simp; omega) _
theorem zerosF {w : World} {T : Nat → Prop} {b n : Nat} (h : w.rowIs b 3 n (fun _ => .int .i64 0)) (ht : T b) : IntsF w T (some ⟨b, 0, none⟩) (ints (List.replicate n 0)) :=
  .inr ⟨b, 0, rfl, ht, h.lt, fun k x hx => by
    have hk : k < n := by
      have := (List.getElem?_eq_some_iff.1 hx).1
      rw [ints_length, List.length_replicate] at this
      exact this
    rw [Nat.zero_add, h.cell hk]
    unfold ints at hx
    rw [List.getElem?_map, List.getElem?_replicate, if_pos hk] at hx
    injection hx with hx
    rw [← hx]
    rfl⟩
theorem rnew_is (w : World) {T : Nat → Prop} (hT : ∀ k, w.heap.size ≤ k → T k) {n : Nat} (hn : n ≤ 1048576) : Calls Try.prog 8 #[.int .i64 n] w (DocOne w T n (List.replicate n 0) (List.replicate n 0)) := by
  have hmi := fun W => run_make_row' (P := Try.prog) 26 3 (.int .i64 0) 8 Try.underlying26 int_info rfl .i64 .i64 n (by omega) (by omega) W
  have HT := Lib.hid hT
  clear hT
  go_enter Try.func8, Try.ntmps8
  go_wp2
  go_region_held3 (fun _ => True) (first | exact trivial) (first | fail)
  all_goals go_wp2
  all_goals
    refine bodyPost_ret_by (results_cell_row rfl _ _ w.heap.size 28 _ (0, 0) _ rfl (alloc_first3 _ _ _ _) Try.underlying28 rfl (by kernel_rfl)) rfl ?_
  · refine ⟨_, _, _, _, rfl, zerosF (World.rowIs.drew ?_) (HT.out _ (by omega)), zerosF (World.rowIs.drew ?_) (HT.out _ (by omega)), below_drewN (alloc_below3 _ _ _ _) 1⟩
    · have := (World.rowIs_made (w.alloc (.cells #[.slice (some ⟨w.heap.size + 1, 0, none⟩) n n, .slice (some ⟨w.heap.size + 1 + 1, 0, none⟩) n n] 28)) (.int .i64 0) n 3).alloc (.cells (madeCells #[.int .i64 0] n) 3)
      simpa using this
    · have := World.rowIs_made ((w.alloc (.cells #[.slice (some ⟨w.heap.size + 1, 0, none⟩) n n, .slice (some ⟨w.heap.size + 1 + 1, 0, none⟩) n n] 28)).alloc (.cells (madeCells #[.int .i64 0] n) 3)) (.int .i64 0) n 3
      simpa using this
  · refine ⟨_, _, _, _, rfl, zerosF (World.rowIs.drew ?_) (HT.out _ (by omega)), zerosF (World.rowIs.drew ?_) (HT.out _ (by omega)), below_drewN (alloc_below3 _ _ _ _) 1⟩
    · have := World.rowIs_made ((w.alloc (.cells #[.slice (some ⟨w.heap.size + 1 + 1, 0, none⟩) n n, .slice (some ⟨w.heap.size + 1, 0, none⟩) n n] 28)).alloc (.cells (madeCells #[.int .i64 0] n) 3)) (.int .i64 0) n 3
      simpa using this
    · have := (World.rowIs_made (w.alloc (.cells #[.slice (some ⟨w.heap.size + 1 + 1, 0, none⟩) n n, .slice (some ⟨w.heap.size + 1, 0, none⟩) n n] 28)) (.int .i64 0) n 3).alloc (.cells (madeCells #[.int .i64 0] n) 3)
      simpa using this

/-! ### Of -/
section
variable {w : World} {T : Nat → Prop} {A B : Option Addr} {O G : List Nat} {n c d : Nat}
set_option maxHeartbeats 1600000 in
theorem rof_yes (hA : IntsF w T A (ints O)) (lO : n = O.length) (hs : n ≤ 1048576) {x : Int} (hx : 0 < x) : Calls Try.prog 18 #[.agg #[.slice A n c, .slice B n d], .int .i64 x] w (MadeL w (ofV O x)) := by
  obtain ⟨i0, hi0, hz0, hz1, hz2⟩ := info_parts int_info
  have HI := Lib.hid hi0
  have HZ0 := Lib.hid hz0
  have HZ1 := Lib.hid hz1
  have HZ2 := Lib.hid hz2
  have r0 := duo_lit w (.slice A n c) (.slice B n d) 28
  have b0 := new_below w (.cells #[.slice A n c, .slice B n d] 28)
  have hA0 := hA.keep (.of_below T b0)
  have HLO := Lib.hid lO
  clear hA lO hi0 hz0 hz1 hz2
  go_enter Try.func18, Try.ntmps18
  go_upto_region 1 with fail
  generalize w.alloc (.cells #[.slice A n c, .slice B n d] 28) = W at *
  obtain ⟨⟨e0, _⟩, _⟩ := duo_any r0
  have hlt := r0.lt
  have HA0 := Lib.hid hA0
  have B0 := Lib.hid b0
  have HW : Hid (OfAt W W O x 0 none 0 0) := ⟨World.ownsRow_nil _ _ _ _, rfl, Below.refl _ _⟩
  clear r0 b0 hA0
  go_wp2
  go_loopw [5, 6] (fun o i wr => ∃ (k : Nat) (A' : Option Addr) (lp cc : Nat), k ≤ n ∧ o = .slice A' lp cc ∧ i = .int .i64 k ∧ Hid (OfAt W wr O x k A' lp cc)) (fun _ i _ => n - (RowKit.intOf i).toNat)
  case atStart => exact ⟨0, _, 0, 0, Nat.zero_le _, rfl, rfl, HW⟩
  case round =>
    clear HW
    obtain ⟨k, A', lp, cc, hk, rfl, rfl, HO⟩ := hrel
    have hlp : lp ≤ k := by
      have h1 := HO.out.2.1
      have h2 := ofK_length O x k (by have := HLO.out; omega)
      have h3 := cntV_le (O.take k) x
      rw [List.length_take] at h3
      omega
    have e0' : wr.cell? ⟨w.heap.size, 0, none⟩ = some (.slice A n c) := (HO.out.2.2.cell (p := ⟨w.heap.size, 0, none⟩) hlt).trans e0
    by_cases hkn : k < n
    · have hki : 0 ≤ (k : Int) ∧ (k : Int) < (n : Int) := by omega
      obtain ⟨y, hyo⟩ : ∃ y, O[k]? = some y := ⟨_, List.getElem?_eq_getElem (by have := HLO.out; omega)⟩
      obtain ⟨bo, oo, rfl, _, _, d0⟩ := ints_cellF (HA0.out.keep (.of_below T HO.out.2.2)) hyo
      by_cases hyx : (y : Int) = x
      · have HP := Lib.hid (ofK_yes hx hyo hyx)
        have hb : ((y : Int) == x) = true := by simp [hyx]
        have HB : Hid (Below W.heap.size W (wr.alloc (.cells #[.int .i64 (k : Int)] 3))) := HO.out.2.2.alloc HO.out.2.2.size _
        clear hyx hyo e0
        go_wp2_with (at_builtin; refine wpList_append_own _ rfl _ _ 26 rfl W.heap.size 3 i0 (.int .i64 0) 1 8 Try.underlying26 HI.out HZ0.out HZ1.out HZ2.out rfl (by decide) _ _ _ rfl (HO.out.1.alloc _) ⟨wr.heap.size, 0, none⟩ 1 1 [.int .i64 k] rfl rfl (new_one _ _ _) (one_int _ _) (by unfold maxLen; omega) (by omega) HB.out.size ?_; intro v' w4 hown2 hgr2 _)
        have HB5 := Lib.hid (HB.out.grown hgr2 HB.out.size fun j hj => (HO.out.1.lt j hj).1)
        rw [show vals (ofK O k x) ++ [.int .i64 (k : Int)] = vals (ofK O (k + 1) x) by rw [HP.out, vals_append]; rfl] at hown2
        have hl5 : (ofK O (k + 1) x).length = lp + 1 := by rw [HP.out, List.length_append, HO.out.2.1]; rfl
        obtain ⟨A5, c5, rfl, _⟩ := own_len hown2
        have H5 : Hid (OfAt W w4 O x (k + 1) A5 (lp + 1) c5) := ⟨hown2, hl5, HB5.out⟩
        clear hown2 hgr2 hl5 HB5
        go_roundw
        case rel => exact ⟨k + 1, A5, lp + 1, c5, by omega, rfl, by go_num, H5⟩
        case measure => simp [RowKit.intOf]; omega
      · have HP := Lib.hid (ofK_no (k := k) hyo hyx)
        have hb : ((y : Int) == x) = false := by simp [hyx]
        have H5 : Hid (OfAt W wr O x (k + 1) A' lp cc) := by
          have e := HP.out
          refine ⟨?_, ?_, HO.out.2.2⟩
          · rw [e]; exact HO.out.1
          · rw [e]; exact HO.out.2.1
        clear hyx hyo e0
        go_wp2
        go_roundw
        case rel => exact ⟨k + 1, A', lp, cc, by omega, rfl, by go_num, H5⟩
        case measure => simp [RowKit.intOf]; omega
    · obtain rfl : k = n := by omega
      clear e0
      go_wp2
      go_ret
      have e : ofK O k x = ofV O x := by unfold ofV; rw [← HLO.out]
      have h1 := HO.out.1
      rw [e] at h1
      exact ⟨_, rfl, (own_list h1 (by rw [← e]; exact HO.out.2.1.symm)).more B0.out.size, step_below B0.out HO.out.2.2⟩
theorem rof_no {x : Int} (hx : ¬ 0 < x) : Calls Try.prog 18 #[.agg #[.slice A n c, .slice B n d], .int .i64 x] w (MadeL w []) := by
  have r0 := duo_lit w (.slice A n c) (.slice B n d) 28
  have b0 := new_below w (.cells #[.slice A n c, .slice B n d] 28)
  go_enter Try.func18, Try.ntmps18
  go_upto_region 1 with fail
  generalize w.alloc (.cells #[.slice A n c, .slice B n d] 28) = W at *
  obtain ⟨⟨e0, _⟩, _⟩ := duo_any r0
  have B0 := Lib.hid b0
  clear r0 b0
  go_wp2
  go_loopw [5, 6] (fun o i wr => o = .slice none 0 0 ∧ i = .int .i64 0 ∧ W = wr) (fun _ _ _ => 0)
  case atStart => exact ⟨rfl, rfl, rfl⟩
  case round =>
    obtain ⟨rfl, rfl, rfl⟩ := hrel
    by_cases hn : 0 < n
    · have hn2 : (0 : Int) < (n : Int) := by omega
      go_wp2
      go_ret
      exact ⟨_, rfl, ListAt.nil _ _, B0.out⟩
    · obtain rfl : n = 0 := by omega
      go_wp2
      go_ret
      exact ⟨_, rfl, ListAt.nil _ _, B0.out⟩
theorem rof_is (hA : IntsF w T A (ints O)) (lO : n = O.length) (hs : n ≤ 1048576) {x : Int} {l : List Nat} (hl : ofV O x = l) : Calls Try.prog 18 #[.agg #[.slice A n c, .slice B n d], .int .i64 x] w (MadeL w l) := by
  subst hl
  by_cases hx : 0 < x
  · exact rof_yes hA lO hs hx
  · rw [show ofV O x = [] from ofK_low O _ (by omega)]
    exact rof_no hx
end
end Go.Proofs.Ytiidkfcblnkghaa
