/- What the document's own answers for layer 5 (copyholdref05) make of lists: contracts of Put, Add, Drop, Move, Join. -/
import Derived.Test.YtffpnpcbfogemaaChainTell
import Derived.Deep.RegionHeld3
namespace Go.Proofs.Ytffpnpcbfogemaa
open Go.RowKit
variable {w w' : World} {L N : Nat} {lo hi : Nat} {v : Value} {m : Nat → List Nat}

theorem list_info : (Try.prog.info? 38).map (fun i => (i.zero, i.size, i.bytes)) = some (some (.slice none 0 0), 1, 24) := by kernel_rfl
theorem LsAt.vals (h : LsAt w lo v L m) (hL : 0 < L) : ∃ (b c : Nat) (us : List Value), v = .slice (some ⟨b, 0, none⟩) L c ∧ lo ≤ b ∧ us.length = L ∧ (∀ j u, us[j]? = some u → w.cell? ((⟨b, 0, none⟩ : Addr).add j) = some u) ∧ (∀ u ∈ us, u.oneCell' = true) ∧ ∀ k, k < L → ∃ u, us[k]? = some u ∧ ListAt w lo u (m k) := by
  obtain ⟨A, c, rfl, h | ⟨b, rfl, hb, _, h3⟩⟩ := h
  · omega
  · have hch : ∀ k : Nat, ∃ u : Value, k < L → w.cell? ⟨b, k, none⟩ = some u ∧ ListAt w lo u (m k) := fun k => by
      by_cases hk : k < L
      · obtain ⟨u, hu⟩ := h3 k hk
        exact ⟨u, fun _ => hu⟩
      · exact ⟨.bool false, fun h => absurd h hk⟩
    have hsp := fun k => Classical.choose_spec (hch k)
    refine ⟨b, c, (List.range L).map fun k => Classical.choose (hch k), rfl, hb, by simp, fun j u hj => ?_, fun u hu => ?_, fun k hk => ⟨_, ?_, (hsp k hk).2⟩⟩
    · have hjl := (List.getElem?_eq_some_iff.1 hj).1
      simp at hjl
      rw [List.getElem?_map, List.getElem?_range hjl] at hj
      injection hj with hj
      rw [Addr.add_lit, Nat.zero_add, ← hj]
      exact (hsp j hjl).1
    · obtain ⟨k, hk, rfl⟩ := List.mem_map.1 hu
      obtain ⟨_, A', d, e, _⟩ := hsp k (List.mem_range.1 hk)
      rw [e]
      rfl
    · rw [List.getElem?_map, List.getElem?_range hk]
      rfl
def RLs (w : World) (lo L : Nat) (m : Nat → List Nat) (e : Ending) (w' : World) : Prop := ∃ v, e = .returned v ∧ LsAt w' lo v L m ∧ Below w.heap.size w w'
set_option maxHeartbeats 800000 in
theorem rput (h : LsAt w lo v L m) (hlo : lo ≤ w.heap.size) (hL : L ≤ 1048576) {i : Nat} (hil : i < L) {A' : Option Addr} {n' c' : Nat} {l' : List Nat} (hu : ListAt w lo (.slice A' n' c') l') :
    Calls Try.prog 32 #[v, .int .i64 i, .slice A' n' c'] w (RLs w lo L (upd m i l')) := by
  obtain ⟨i0, hi0, hz0, hz1, hz2⟩ := info_parts list_info
  have HI := Lib.hid hi0
  have HZ0 := Lib.hid hz0
  have HZ1 := Lib.hid hz1
  have HZ2 := Lib.hid hz2
  obtain ⟨b, c, us, rfl, hb, hus, hcell, hone, hat⟩ := h.vals (by omega)
  have hir : 0 ≤ (i : Int) ∧ (i : Int) < (L : Int) := by omega
  have OWN0 : Hid ((w.alloc (.cells #[] 38)).ownsRow w.heap.size 38 1 (.slice (some ⟨w.heap.size, 0, none⟩) 0 0) 0 []) := World.ownsRow_lit w #[] 0 (Nat.le_refl _) (by unfold maxLen; omega) (by simp)
  have b1 : Below w.heap.size w (w.alloc (.cells #[] 38)) := (Below.refl _ _).alloc (Nat.le_refl _) _
  have hcell2 : ∀ j u, us[j]? = some u → (w.alloc (.cells #[] 38)).cell? ((⟨b, 0, none⟩ : Addr).add j) = some u := fun j u hj => by
    have h1 := hcell j u hj
    rw [Addr.add_lit] at h1 ⊢
    exact (b1.cell (p := ⟨b, 0 + j, none⟩) (World.block_lt_of_cell? _ _ h1)).trans h1
  have HC := Lib.hid hcell2
  have HAT := Lib.hid hat
  have HU := Lib.hid hu
  have HUS := Lib.hid hus
  have HONE := Lib.hid hone
  have B1 := Lib.hid b1
  clear h hcell hcell2 hat hu hus hone b1 hi0 hz0 hz1 hz2
  go_enter Try.func32, Try.ntmps32
  go_wp2_with (at_builtin; refine wpList_append_own _ rfl (.tmp 8) (.tmp 9) 27 rfl w.heap.size 38 i0 (.slice none 0 0) 1 24 Try.underlying27 HI.out HZ0.out HZ1.out HZ2.out rfl (by decide) (.slice (some ⟨w.heap.size, 0, none⟩) 0 0) 0 [] rfl OWN0.out ⟨b, 0, none⟩ L c us rfl (by rw [Nat.mul_one]; exact HUS.out) HC.out HONE.out (by unfold maxLen; omega) (by omega) (by simp) ?_; intro v1 w1 hown hgr hif; clear hif)
  have b2 := B1.out.grown hgr B1.out.size fun x hx => (OWN0.out.lt x hx).1
  rw [List.nil_append, Nat.zero_add] at hown
  obtain ⟨g, cap, rfl, hg1, hg2⟩ := hown.form (by omega)
  obtain ⟨u0, hu0, _⟩ := HAT.out i hil
  have c1 : w1.cell? ⟨g, i, none⟩ = some u0 := (hown.cellAt i (by omega)).trans hu0
  have f1 := hown.frozenAt i
  have HOWN := Lib.hid hown
  have B3 := Lib.hid (b2.setCell (p := ⟨g, i, none⟩) hg1 (.slice A' n' c'))
  have B2 := Lib.hid b2
  clear hown hgr b2 hu0
  have hix : (Instr.indexAt 27 (.slice (some ⟨g, 0, none⟩) L cap) (.int .i64 i)).run Try.prog w1 = .ok (.pointer (some ⟨g, i, none⟩)) w1 := by
    rw [run_indexAt_slice (P := Try.prog) w1 27 ⟨g, 0, none⟩ L cap .i64 i (by kernel_rfl), if_pos hir]
    rw [show (sizeOf (Try.prog.elem 27)).run Try.prog w1 = .ok 1 w1 by kernel_rfl]
    simp [Result.andThen, Addr.add_lit]
  go_wp2
  rw [hix]
  simp only [Result.andThen]
  go_wp2
  go_ret
  refine ⟨_, rfl, ⟨some ⟨g, 0, none⟩, cap, rfl, .inr ⟨g, rfl, by omega, by simpa using hg2, fun k hk => ?_⟩⟩, B3.out⟩
  by_cases e : k = i
  · subst e
    rw [upd_same]
    exact ⟨_, World.cell?_setCell_same _ _ _ c1, HU.out.below B3.out⟩
  · rw [upd_ne e]
    obtain ⟨u, hu1, hu2⟩ := HAT.out k hk
    refine ⟨u, ?_, hu2.below B3.out⟩
    rw [World.cell?_setCell_other _ _ _ _ (by first | (simp; done) | (simp; omega)), HOWN.out.cellAt k (by omega), hu1]

/-! ### Add -/
def RLsB (w : World) (lo L : Nat) (m : Nat → List Nat) (r : Bool) (e : Ending) (w' : World) : Prop := ∃ v, e = .returned (.tuple #[v, .bool r]) ∧ LsAt w' lo v L m ∧ Below w.heap.size w w'
set_option maxHeartbeats 1600000 in
theorem radd_yes (h : LsAt w lo v L m) (hlo : lo ≤ w.heap.size) (hI : Inv L N m) (hL : L ≤ 1048576) (hN : N ≤ 1048576) {i x : Nat} (hil : i < L) (hx : x < N) (ho : Out m (x : Int)) :
    Calls Try.prog 11 #[v, .int .i64 N, .int .i64 i, .int .i64 x] w (RLsB w lo L (upd m i (m i ++ [x])) true) := by
  obtain ⟨i0, hi0, hz0, hz1, hz2⟩ := info_parts int_info
  have HI0 := Lib.hid hi0
  have HZ0 := Lib.hid hz0
  have HZ1 := Lib.hid hz1
  have HZ2 := Lib.hid hz2
  have hir : 0 ≤ (i : Int) ∧ (i : Int) < (L : Int) := by omega
  have hxr : 0 ≤ (x : Int) ∧ (x : Int) < (N : Int) := by omega
  have hml := hI.len i
  have H := Lib.hid h
  have HS : Hid (Spot m (x : Int) (-1) (-1) (-1)) := out_spot ho
  have HI := Lib.hid hI
  obtain ⟨b, c, A, d, rfl, hc, hd, hl⟩ := h.at_ hil
  obtain ⟨_, _, e, _, hia, _⟩ := hl
  injection e with e1 e2 e3
  subst e1 e3
  have HIA := Lib.hid (hia.alloc (.cells #[] 3))
  have HC : w.cell? ⟨b, i, none⟩ = some (.slice A (m i).length d) := hc
  have OWN0 : Hid ((w.alloc (.cells #[] 3)).ownsRow w.heap.size 3 1 (.slice (some ⟨w.heap.size, 0, none⟩) 0 0) 0 []) := World.ownsRow_lit w #[] 0 (Nat.le_refl _) (by unfold maxLen; omega) (by simp)
  have B1 : Hid (Below w.heap.size w (w.alloc (.cells #[] 3))) := (Below.refl _ _).alloc (Nat.le_refl _) _
  obtain ⟨n, en⟩ : ∃ n, (m i).length = n := ⟨_, rfl⟩
  rw [en] at hc hml
  have HN := Lib.hid en
  have hcA : (w.alloc (.cells #[] 3)).cell? ⟨b, i, none⟩ = some (.slice A n d) := (B1.out.cell (p := ⟨b, i, none⟩) (World.block_lt_of_cell? _ _ hc)).trans hc
  clear h hI ho hi0 hz0 hz1 hz2 hd hia en HC e2
  go_enter Try.func11, Try.ntmps11
  go_wp2_with fail
  refine (rof H.out HI.out hL hN HS.out).mono ?_
  rintro e w' ⟨rfl, rfl⟩
  go_wp2_with (first
    | (at_builtin; refine wpList_append_ints _ rfl (.tmp 36) (.tmp 40) 38 rfl w.heap.size 3 i0 Try.underlying38 HI0.out HZ0.out HZ1.out HZ2.out (.slice (some ⟨w.heap.size, 0, none⟩) 0 0) 0 [] rfl OWN0.out A n d (ints (m i)) rfl HIA.out (by rw [ints_length]; exact HN.out.symm) (by omega) (by omega) (by simp) ?_; intro v1 w1 hown1 hgr1)
    | (at_builtin; refine wpList_append_own _ rfl (.tmp 41) (.tmp 43) 38 rfl w.heap.size 3 i0 (.int .i64 0) 1 8 Try.underlying38 HI0.out HZ0.out HZ1.out HZ2.out rfl (by decide) v1 (0 + n) _ rfl (hown1.alloc _) ⟨w1.heap.size, 0, none⟩ 1 1 [.int .i64 x] rfl rfl (new_one _ _ _) (one_int _ _) (by unfold maxLen; omega) (by omega) (by have := hgr1.size; simp at this ⊢; omega) ?_; intro v2 w2 hown2 hgr2 hif; clear hif))
  have b2 := B1.out.grown hgr1 B1.out.size fun x hx => (OWN0.out.lt x hx).1
  have b3 := b2.alloc b2.size (.cells #[.int .i64 (x : Int)] 3)
  have b4 := b3.grown hgr2 b3.size fun x hx => (hown1.lt x hx).1
  have ev : [] ++ (ints (m i)).map (Value.int .i64) ++ [.int .i64 (x : Int)] = vals (m i ++ [x]) := by rw [List.nil_append, vals_ints, vals_append]; rfl
  rw [ev] at hown2
  have l2 := (own_list hown2 (by have := HN.out; simp; omega)).more hlo
  obtain ⟨A2, c2, rfl, l3⟩ := l2
  have h2 := H.out.below b4
  have B4 := Lib.hid b4
  have L2 : Hid (ListAt w2 lo (.slice A2 (m i ++ [x]).length c2) (m i ++ [x])) := ⟨A2, c2, rfl, l3⟩
  clear b2 b3 b4 hown1 hown2 hgr1 hgr2 ev l3
  refine (rput h2 (Nat.le_trans hlo B4.out.size) hL hil L2.out).mono ?_
  rintro e w3 ⟨v3, rfl, h3, b5⟩
  have b6 := B4.out.trans (b5.mono B4.out.size)
  go_wp2
  go_ret2
  exact ⟨v3, rfl, h3, b6⟩
theorem radd_no (h : LsAt w lo v L m) (hI : Inv L N m) (hL : L ≤ 1048576) (hN : N ≤ 1048576) {i x : Int} (hc : ¬ Can L N m i x) :
    Calls Try.prog 11 #[v, .int .i64 N, .int .i64 i, .int .i64 x] w (RLsB w lo L m false) := by
  have h00 := h
  obtain ⟨A, c, rfl⟩ := h.form
  by_cases h1 : i < 0
  · clear hc h
    go_enter Try.func11, Try.ntmps11
    go_wp2
    go_ret2
    exact ⟨_, rfl, h00, Below.refl _ _⟩
  · by_cases h2 : (L : Int) ≤ i
    · clear hc h
      go_enter Try.func11, Try.ntmps11
      go_wp2
      go_ret2
      exact ⟨_, rfl, h00, Below.refl _ _⟩
    · by_cases h3 : x < 0
      · clear hc h
        go_enter Try.func11, Try.ntmps11
        go_wp2
        go_ret2
        exact ⟨_, rfl, h00, Below.refl _ _⟩
      · by_cases h4 : (N : Int) ≤ x
        · clear hc h
          go_enter Try.func11, Try.ntmps11
          go_wp2
          go_ret2
          exact ⟨_, rfl, h00, Below.refl _ _⟩
        · have ho : ¬ Out m x := fun ho => hc ⟨decide_eq_true (by omega), decide_eq_true (by omega), ho⟩
          obtain ⟨j, a, k, b, rfl, e⟩ := not_out ho
          have HS : Hid (Spot m (k : Int) (j : Int) (lst a (-1)) (hd b (-1))) := .at_ j a k b rfl e
          clear hc h ho e
          go_enter Try.func11, Try.ntmps11
          go_wp2_with fail
          refine (rof h00 hI hL hN HS.out).mono ?_
          rintro e w' ⟨rfl, rfl⟩
          go_wp2
          go_ret2
          exact ⟨_, rfl, h00, Below.refl _ _⟩
theorem radd (h : LsAt w lo v L m) (hlo : lo ≤ w.heap.size) (hI : Inv L N m) (hL : L ≤ 1048576) (hN : N ≤ 1048576) (i x : Int) :
    Calls Try.prog 11 #[v, .int .i64 N, .int .i64 i, .int .i64 x] w (RLsB w lo L (addM L N m i x) (addB L N m i x)) := by
  unfold addM
  cases hb : addB L N m i x with
  | true =>
    rw [if_pos rfl]
    obtain ⟨h1, h2, h3⟩ := addB_true.1 hb
    obtain ⟨k, rfl, hk⟩ := hasB_nat h1
    obtain ⟨q, rfl, hq⟩ := hasB_nat h2
    rw [Int.toNat_natCast, Int.toNat_natCast]
    exact radd_yes h hlo hI hL hN hk hq h3
  | false =>
    rw [if_neg (by simp)]
    exact radd_no h hI hL hN fun hc => by rw [addB_true.2 hc] at hb; cases hb
end Go.Proofs.Ytffpnpcbfogemaa
