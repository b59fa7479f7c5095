/- Layer 17 (free): what the document's own answers (copyholdref17) return: contracts. -/
import Derived.Test.YtgooajgoofojmaaDoorFreeStRefs
import Derived.Test.YtgooajgoofojmaaDoorFreeNew
namespace Go.Proofs.YtgooajgoofojmaaDoor
open Go.RowKit

/-! ### Take, Pick, Give -/
theorem rtake_at {w : World} {lo : Nat} {v : Value} {l l' : List Nat} (h : ListAt w lo v l) (hl : l.length ≤ 1048576) {t : Nat} {r : Bool} (el : l.dropLast = l') (et : topV l = t) (er : someB l = r) : Calls Tryd.prog 10 #[v] w (RPop w lo l' t r) := by
  subst el et er
  have HC := Lib.hid (rpop_any h hl)
  generalize topV l = top at *
  generalize someB l = some at *
  generalize l.dropLast = l' at *
  clear h hl
  go_enter Tryd.func10, Tryd.ntmps10
  go_wp2_with (go_at_call 25; refine HC.out.mono ?_; rintro e w1 ⟨u, m, rfl, lu, rfl⟩)
  go_ret3
  exact ⟨u, m, rfl, lu, rfl⟩
theorem rpick_at {w : World} {lo : Nat} {v : Value} {l l' : List Nat} (h : ListAt w lo v l) (hn : l.Nodup) (hl : l.length ≤ 1048576) (hlo : lo ≤ w.heap.size) (x : Int) {r : Bool} (el : dropI l x = l') (er : dropB l x = r) : Calls Tryd.prog 12 #[v, .int .i64 x] w (RList w lo l' [.bool r]) := by
  subst el er
  have HC := Lib.hid (rdrop_any h hn hl hlo x)
  generalize dropI l x = l' at *
  generalize dropB l x = r at *
  clear h hn hl
  go_enter Tryd.func12, Tryd.ntmps12
  go_wp2_with (go_at_call 26; refine HC.out.mono ?_; rintro e w1 ⟨u, rfl, lu, bu⟩)
  go_ret2
  exact ⟨u, rfl, lu, bu⟩
theorem rgive_at {w : World} {lo n : Nat} {v : Value} {l l' : List Nat} (h : ListAt w lo v l) (hn : l.Nodup) (hl : l.length ≤ 1048576) (hlo : lo ≤ w.heap.size) (x : Int) {r : Bool} (el : pushL n l x = l') (er : pushB n l x = r) : Calls Tryd.prog 14 #[v, .int .i64 n, .int .i64 x] w (RList w lo l' [.bool r]) := by
  subst el er
  have HC := Lib.hid (rpush_any (size := n) h hn hl hlo x)
  generalize pushL n l x = l' at *
  generalize pushB n l x = r at *
  clear h hn hl
  go_enter Tryd.func14, Tryd.ntmps14
  go_wp2_with (go_at_call 29; refine HC.out.mono ?_; rintro e w1 ⟨u, rfl, lu, bu⟩)
  go_ret2
  exact ⟨u, rfl, lu, bu⟩

/-! ### New, Sorted -/
def RMade (w : World) (l : List Nat) (e : Ending) (w' : World) : Prop := ∃ v, e = .returned v ∧ ListAt w' w.heap.size v l ∧ Below w.heap.size w w'
set_option maxHeartbeats 800000 in
theorem rnew_at {w : World} {n : Nat} (hn : n ≤ 1048576) : Calls Tryd.prog 7 #[.int .i64 n] w (RMade w (downK n n)) := by
  obtain ⟨i0, hi0, hz0, hz1, hz2⟩ := info_parts int_info
  have HI := Lib.hid hi0
  have HZ0 := Lib.hid hz0
  have HZ1 := Lib.hid hz1
  have HZ2 := Lib.hid hz2
  clear hi0 hz0 hz1 hz2
  have hwn : IntKind.i64.wrap ((n : Int) - 1) = (n : Int) - 1 := IntWalk.i64_in _ (by omega)
  go_enter Tryd.func7, Tryd.ntmps7
  go_wp2
  go_loopw [3, 4] (fun o y wr => ∃ j : Nat, j ≤ n ∧ y = .int .i64 ((n : Int) - 1 - (j : Int)) ∧ wr.ownsRow w.heap.size 3 1 o j (vals (downK n j)) ∧ Below w.heap.size w wr) (fun _ y _ => (intOf y + 1).toNat)
  case atStart => exact ⟨0, by omega, by simp, World.ownsRow_nil _ _ _ _, Below.refl _ _⟩
  case round =>
    obtain ⟨j, hj, rfl, hown, hbel⟩ := hrel
    by_cases hlt : j < n
    · have HD : Hid (downK n (j + 1) = downK n j ++ [n - 1 - j]) := downK_succ n j
      have hsub : (n : Int) - 1 - (j : Int) = ((n - 1 - j : Nat) : Int) := by omega
      have hdn : n - 1 - j ≤ 1048576 := by omega
      have hde : Hid (n - 1 - j + j + 1 = n) := by show _ = _; omega
      rw [hsub]
      generalize n - 1 - j = d at *
      clear hsub hwn
      have HV : Hid (vals (downK n j ++ [d]) = vals (downK n j) ++ [.int .i64 (d : Int)]) := vals_append _ _
      go_wp2_with (at_builtin; refine wpList_append_own _ rfl _ _ 26 rfl w.heap.size 3 i0 (.int .i64 0) 1 8 Tryd.underlying26 HI.out HZ0.out HZ1.out HZ2.out rfl (by decide) _ _ _ rfl (hown.alloc _) ⟨wr.heap.size, 0, none⟩ 1 1 [.int .i64 d] rfl rfl (new_one _ _ _) (one_int _ _) (by unfold maxLen; omega) (by omega) (by have := hbel.size; simp; omega) ?_; intro v' w2 hown2 hgr2 _)
      have hb2 : Below w.heap.size w w2 := (hbel.alloc hbel.size _).grown hgr2 (by have := hbel.size; simp; omega) fun x hx => (hown.lt x hx).1
      have hq : w2.ownsRow w.heap.size 3 1 v' (j + 1) (vals (downK n (j + 1))) := by rw [HD.out, HV.out]; exact hown2
      go_roundw
      case rel => exact ⟨j + 1, by omega, by have := hde.out; congr 1; omega, hq, hb2⟩
      case measure => have := hde.out; simp [intOf]
    · have e : j = n := by omega
      subst e
      have hneg : (j : Int) - 1 - (j : Int) = -1 := by omega
      rw [hneg]
      clear hneg hwn
      go_wp2
      go_ret
      exact ⟨_, rfl, own_list hown (downK_length _ _).symm, hbel⟩
theorem listV_ge {l : List Nat} {k : Nat} : listV (inL l) (k + 1) = if k ∈ l then listV (inL l) k ++ [k] else listV (inL l) k := by
  rw [listV_succ]
  unfold inL
  by_cases h : k ∈ l
  · rw [decide_eq_true h, if_pos rfl, if_pos h]
  · rw [decide_eq_false h, if_neg (by simp), if_neg h, List.append_nil]
set_option maxHeartbeats 800000 in
theorem rsorted_at {w : World} {lo n : Nat} {v : Value} {l : List Nat} (h : ListAt w lo v l) (hnd : l.Nodup) (hl : l.length ≤ 1048576) (hn : n ≤ 1048576) : Calls Tryd.prog 21 #[v, .int .i64 n] w (RMade w (listV (inL l) n)) := by
  obtain ⟨i0, hi0, hz0, hz1, hz2⟩ := info_parts int_info
  have HI := Lib.hid hi0
  have HZ0 := Lib.hid hz0
  have HZ1 := Lib.hid hz1
  have HZ2 := Lib.hid hz2
  have HL := Lib.hid h
  have HND : Hid (l.Nodup ∧ l.length ≤ 1048576) := ⟨hnd, hl⟩
  clear hi0 hz0 hz1 hz2 h hnd hl
  go_enter Tryd.func21, Tryd.ntmps21
  go_wp2
  go_loopw [5, 6] (fun o y wr => ∃ j m : Nat, j ≤ n ∧ m ≤ j ∧ y = .int .i64 j ∧ (listV (inL l) j).length = m ∧ wr.ownsRow w.heap.size 3 1 o m (vals (listV (inL l) j)) ∧ Below w.heap.size w wr) (fun _ y _ => n - (intOf y).toNat)
  case atStart => exact ⟨0, 0, by omega, by omega, rfl, rfl, World.ownsRow_nil _ _ _ _, Below.refl _ _⟩
  case round =>
    obtain ⟨j, m, hj, hmj, rfl, hm, hown, hbel⟩ := hrel
    by_cases hlt : j < n
    · have hlr := HL.out.below (hbel.mono (B' := w.heap.size) (Nat.le_refl _))
      have hst := @listV_ge l j
      by_cases hin : j ∈ l
      · rw [if_pos hin] at hst
        obtain ⟨p, _, _, hp⟩ := placeV_mem hin
        have HP := Lib.hid (rplace_any hlr HND.out.1 HND.out.2 (x := (j : Int)) (r := (p : Int)) (by rw [placeI_nat]; exact hp))
        have HE := Lib.hid hst
        have HM := Lib.hid hm
        clear hst hp hin hlr hm
        have HV : Hid (vals (listV (inL l) j ++ [j]) = vals (listV (inL l) j) ++ [.int .i64 (j : Int)]) := vals_append _ _
        go_wp2_with (first
          | (go_at_call 9; refine HP.out.mono ?_; rintro e w' ⟨rfl, rfl⟩)
          | (at_builtin; refine wpList_append_own _ rfl _ _ 26 rfl w.heap.size 3 i0 (.int .i64 0) 1 8 Tryd.underlying26 HI.out HZ0.out HZ1.out HZ2.out rfl (by decide) _ _ _ rfl (hown.alloc _) ⟨wr.heap.size, 0, none⟩ 1 1 [.int .i64 j] rfl rfl (new_one _ _ _) (one_int _ _) (by unfold maxLen; omega) (by omega) (by have := hbel.size; simp; omega) ?_; intro v' w2 hown2 hgr2 _))
        have hb2 : Below w.heap.size w w2 := (hbel.alloc hbel.size _).grown hgr2 (by have := hbel.size; simp; omega) fun x hx => (hown.lt x hx).1
        have hq : w2.ownsRow w.heap.size 3 1 v' (m + 1) (vals (listV (inL l) (j + 1))) := by rw [HE.out, HV.out]; exact hown2
        go_roundw
        case rel => exact ⟨j + 1, m + 1, by omega, by omega, by go_num, by rw [HE.out, List.length_append, HM.out]; rfl, hq, hb2⟩
        case measure => simp [intOf]; omega
      · rw [if_neg hin] at hst
        have HP := Lib.hid (rplace_any hlr HND.out.1 HND.out.2 (x := (j : Int)) (r := -1) (by rw [placeI_nat]; exact placeV_no hin))
        have HE := Lib.hid hst
        have HM := Lib.hid hm
        clear hst hin hlr hm
        go_wp2_with (go_at_call 9; refine HP.out.mono ?_; rintro e w' ⟨rfl, rfl⟩)
        go_roundw
        case rel => exact ⟨j + 1, m, by omega, by omega, by go_num, by rw [HE.out]; exact HM.out, by rw [HE.out]; exact hown, hbel⟩
        case measure => simp [intOf]; omega
    · have e : j = n := by omega
      subst e
      go_wp2
      go_ret
      exact ⟨_, rfl, own_list hown hm.symm, hbel⟩
end Go.Proofs.YtgooajgoofojmaaDoor
