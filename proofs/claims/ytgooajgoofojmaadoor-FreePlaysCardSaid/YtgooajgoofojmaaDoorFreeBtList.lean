/- What List of package bits returns: a contract. -/
import Derived.Test.YtgooajgoofojmaaDoorFreeBtCount
import Derived.OwnWalk
import Derived.Laws.AppendOwn
import Derived.Laws.OwnMore
import Derived.Laws.MakeOwn
import Derived.Deep.Onto
namespace Go.Proofs.YtgooajgoofojmaaDoor
open Go.RowKit

theorem listV_step {f : Nat → Bool} {p i : Nat} (hp : p ≤ i) (hi : f i = true) (hz : ∀ j, p ≤ j → j < i → f j = false) : listV f (i + 1) = listV f p ++ [i] ∧ cnt f (i + 1) = cnt f p + 1 := by
  have e := listV_more (f := f) (n := p) (m := i) hz hp
  have h : listV f (i + 1) = listV f p ++ [i] := by rw [listV_succ, e, if_pos hi]
  refine ⟨h, ?_⟩
  rw [← listV_length, h, List.length_append, listV_length]
  rfl
theorem word_from_next {f : Nat → Bool} {p k i : Nat} (hpi : p ≤ i) : word (fromF (fromF f p) (i + 1)) k = word (fromF f (i + 1)) k :=
  word_congr fun j _ => by
    unfold fromF
    by_cases h : i + 1 ≤ 64 * k + j
    · rw [decide_eq_true (show p ≤ 64 * k + j by omega)]; simp
    · rw [decide_eq_false h]; simp
theorem word_from0 (f : Nat → Bool) (k : Nat) : word (fromF f (64 * k)) k = word f k := word_congr fun j _ => by unfold fromF; rw [decide_eq_true (by omega)]; simp
theorem and_pred_lt {x : Nat} (h : x ≠ 0) : x &&& (x - 1) < x := Nat.lt_of_le_of_lt Nat.and_le_right (by omega)
def ListDone (w : World) (g size : Nat) (A : Option Addr) (f : Nat → Bool) (e : Ending) (w' : World) : Prop :=
  ∃ v, e = .returned v ∧ w'.ownsRow w.heap.size 3 1 v (cnt f size) (vals (listV f size)) ∧ SetAt w' g A size f ∧ w.grownBy w' (some g)
set_option maxRecDepth 100000 in
set_option maxHeartbeats 1600000 in
theorem list_any {w : World} {g size : Nat} {A : Option Addr} {f : Nat → Bool} (h : SetAt w g A size f) (hT : TabOk w) (hgt : 0 ≠ g) : Calls Tryd.prog 35 #[.pointer (some ⟨g, 0, none⟩)] w (ListDone w g size A f) := by
  have hs := h.small
  have hcn := cnt_le f size
  obtain ⟨i0, hi0, hz0, hz1, hz2⟩ := info_parts int_info
  have hmk := fun W => run_make (P := Tryd.prog) W 26 3 i0 (.int .i64 0) Tryd.underlying26 hi0 hz0 .i64 .i64 0 (cnt f size) (by omega) (by omega) (by rw [hz2]; omega) (by omega)
  have hmk' : ∀ W : World, (Instr.makeSlice 26 (.int .i64 0) (.int .i64 (cnt f size))).run Tryd.prog W = .ok (.slice (some ⟨W.heap.size, 0, none⟩) 0 (cnt f size)) (W.alloc (.cells (madeCells #[.int .i64 0] (cnt f size)) 3)) := fun W => by
    have := hmk W
    rw [hz1, Nat.mul_one, show (Value.int .i64 0).cells = #[.int .i64 0] from rfl] at this
    simpa using this
  have HI := Lib.hid hi0
  have HZ0 := Lib.hid hz0
  have HZ1 := Lib.hid hz1
  have HZ2 := Lib.hid hz2
  clear hmk hi0 hz0 hz1 hz2
  go_enter Tryd.func35, Tryd.ntmps35
  go_wp2_with (first
    | (go_at_call 40; refine (count_any h).mono ?_; rintro e w1 ⟨rfl, hs1, hg1⟩)
    | (go_at_call 41; refine (row_any (hs1.alloc _)).mono ?_; rintro e w' ⟨rfl, rfl⟩))
  have hT1 : TabOk w1 := hT.grown hg1 (by simpa using hgt)
  have hB := hs1.body
  have HO := Lib.hid h.out
  have HE : Hid (cnt f (64 * nw size) = cnt f size) := cnt_more h.out (nw_more size)
  have HL : Hid (listV f (64 * nw size) = listV f size) := listV_more (fun j h1 _ => h.out j h1) (nw_more size)
  have hn := nw_le hs
  have hown0 : (w1.alloc (.cells (madeCells #[.int .i64 0] (cnt f size)) 3)).ownsRow w1.heap.size 3 1 (.slice (some ⟨w1.heap.size, 0, none⟩) 0 (cnt f size)) 0 [] :=
    World.ownsRow_made w1 _ _ (Nat.le_refl _) (by unfold maxLen; omega) (by rw [size_madeCells, Nat.mul_one])
  have hgr0 : w1.grownBy (w1.alloc (.cells (madeCells #[.int .i64 0] (cnt f size)) 3)) none := World.grownBy_alloc _ _ _
  have HG1 := Lib.hid hg1
  have HS1 := Lib.hid hs1
  have HT1 := Lib.hid hT1
  have HB := Lib.hid hB
  clear h hs1 hg1 hT1 hB hT hmk'
  generalize hnn : nw size = n at *
  have HN := Lib.hid hnn
  clear hnn
  go_loopw [3, 14] (fun v i wr => ∃ k : Nat, k ≤ n ∧ i = .int .i64 k ∧ wr.ownsRow w1.heap.size 3 1 v (cnt f (64 * k)) (vals (listV f (64 * k))) ∧ w1.grownBy wr none) (fun _ i _ => n - (intOf i).toNat)
  case atStart => exact ⟨0, by omega, rfl, hown0, hgr0⟩
  case round =>
    obtain ⟨k, hk, rfl, hown, hgr⟩ := hrel
    by_cases hlt : k < n
    · obtain ⟨b, rfl, hb⟩ := HB.out.at_ hlt
      have hc : wr.cell? ⟨b, k, none⟩ = some (.int .u64 (word f k)) := hgr.cell (hb.cell hlt) (by simp)
      clear hb
      have h00 : wr.ownsRow w1.heap.size 3 1 _ (cnt f (64 * k)) (vals (listV f (64 * k))) := hown
      go_wp2
      go_loopw [3, 6] (fun v x wr => ∃ p : Nat, 64 * k ≤ p ∧ p ≤ 64 * (k + 1) ∧ x = .int .u64 (word (fromF f p) k) ∧ wr.ownsRow w1.heap.size 3 1 v (cnt f p) (vals (listV f p)) ∧ w1.grownBy wr none) (fun _ x _ => (intOf x).toNat)
      case atStart => exact ⟨64 * k, by omega, by omega, by rw [word_from0], h00, hgr⟩
      case round =>
        obtain ⟨p, hp1, hp2, rfl, hown1, hgr1⟩ := hrel
        by_cases hz0 : word (fromF f p) k = 0
        · have hbb : ((word (fromF f p) k : Int) != 0) = false := by simp [hz0]
          have hfz : ∀ j, p ≤ j → j < 64 * (k + 1) → f j = false := fun j j1 j2 => by
            have := word_zero_iff.1 hz0 (j - 64 * k) (by omega)
            rw [show 64 * k + (j - 64 * k) = j by omega] at this
            unfold fromF at this
            simpa [j1] using this
          have hL : listV f (64 * (k + 1)) = listV f p := listV_more hfz hp2
          have hC : cnt f (64 * (k + 1)) = cnt f p := by rw [← listV_length, hL, listV_length]
          have hq : ∀ (W : World) (V : Value), W.ownsRow w1.heap.size 3 1 V (cnt f p) (vals (listV f p)) → W.ownsRow w1.heap.size 3 1 V (cnt f (64 * (k + 1))) (vals (listV f (64 * (k + 1)))) := fun W V h => by rw [hL, hC]; exact h
          have HQ := Lib.hid hq
          clear hz0 hL hC hfz hq
          go_wp2
          go_roundw
          case rel => exact ⟨k + 1, by omega, by go_num, HQ.out _ _ hown1, hgr1⟩
          case measure => simp [intOf]; omega
        · have hbb : ((word (fromF f p) k : Int) != 0) = true := by simp [hz0]
          have hwl := word_lt (fromF f p) k
          obtain ⟨l1, l2, l3⟩ := low_spec hz0
          have hnx := word_next hz0
          have hpl := and_pred_lt hz0
          have hsub : IntKind.u64.wrap ((word (fromF f p) k : Int) - 1) = ((word (fromF f p) k - 1 : Nat) : Int) := by rw [IntKind.wrap_u64]; omega
          have hand := (u64_and_nat (word (fromF f p) k) (word (fromF f p) k - 1) hwl (by omega)).trans (congrArg Int.ofNat hnx)
          rw [hnx] at hpl
          generalize hi : 64 * k + Lib.ctz 64 (word (fromF f p) k) = i at *
          have hpi : p ≤ i ∧ f i = true := by unfold fromF at l1; simpa [and_comm] using l1
          obtain ⟨sL, sC⟩ := listV_step hpi.1 hpi.2 fun j j1 j2 => by
            have := l3 j (by omega) j2
            unfold fromF at this
            simpa [j1] using this
          rw [word_from_next hpi.1] at hand hpl
          have hcl := cnt_le f p
          have hsum : (k : Int) * 64 + (Lib.ctz 64 (word (fromF f p) k) : Int) = (i : Int) := by omega
          have HSL : Hid (listV f (i + 1) = listV f p ++ [i]) := sL
          have HSC : Hid (cnt f (i + 1) = cnt f p + 1) := sC
          have HTr : TabOk wr := HT1.out.grown hgr1 (by simp)
          clear hz0 hnx l1 l3 sL sC
          go_wp2_with (first
            | (go_at_call 42; refine (tz_any hwl _ HTr).mono ?_; rintro e w' ⟨rfl, rfl⟩)
            | (at_builtin; refine wpList_append_own _ rfl _ _ 26 rfl w1.heap.size 3 i0 (.int .i64 0) 1 8 Tryd.underlying26 HI.out HZ0.out HZ1.out HZ2.out rfl (by decide) _ _ _ rfl (hown1.alloc _) ⟨wr.heap.size, 0, none⟩ 1 1 [.int .i64 i] rfl rfl (new_one _ _ _) (one_int _ _) (by unfold maxLen; omega) (by omega) (by have := hgr1.size; simp; omega) ?_
               intro v' w2 hown2 hgr2 _))
          have hq : w2.ownsRow w1.heap.size 3 1 v' (cnt f (i + 1)) (vals (listV f (i + 1))) := by
            rw [HSC.out, HSL.out, vals_append]
            exact hown2
          have hg2 : w1.grownBy w2 none := ((hgr1.trans (World.grownBy_alloc _ _ _)).andThen hgr2 fun j hj => .inl ((hown1.lt j hj).1))
          go_roundw
          case rel => exact ⟨i + 1, by omega, by omega, rfl, hq, hg2⟩
          case measure => simp [intOf]; omega
    · go_wp2
      go_ret
      have e : k = n := by omega
      subst e
      rw [HE.out, HL.out] at hown
      exact ⟨_, rfl, hown.mono HG1.out.size, HS1.out.grown hgr (by simp) (fun _ _ => by simp), HG1.out.trans (hgr.but _)⟩
end Go.Proofs.YtgooajgoofojmaaDoor
