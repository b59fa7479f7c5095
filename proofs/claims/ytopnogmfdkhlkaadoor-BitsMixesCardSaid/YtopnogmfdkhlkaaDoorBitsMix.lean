/- What the document's own List and Mix for layer 2 (copyholdref02) return: contracts. -/
import Derived.Test.YtopnogmfdkhlkaaDoorBitsRefs
namespace Go.Proofs.YtopnogmfdkhlkaaDoor
open Go.RowKit

def MadeList (w : World) (l : List Nat) (e : Ending) (w' : World) : Prop := ∃ v, e = .returned v ∧ w'.ownsRow w.heap.size 3 1 v l.length (vals l) ∧ Below w.heap.size w w'
theorem own_step {w : World} {base : Nat} {f : Nat → Bool} {k : Nat} {v : Value} (hf : f k = false) (h : w.ownsRow base 3 1 v (cnt f k) (vals (listV f k))) : w.ownsRow base 3 1 v (cnt f (k + 1)) (vals (listV f (k + 1))) := by
  rw [cnt_succ, listV_succ, hf]
  simpa using h
theorem own_step' {w : World} {base : Nat} {f : Nat → Bool} {k : Nat} {v : Value} (hf : f k = true) (h : w.ownsRow base 3 1 v (cnt f k + 1) (vals (listV f k) ++ [.int .i64 (k : Int)])) : w.ownsRow base 3 1 v (cnt f (k + 1)) (vals (listV f (k + 1))) := by
  rw [cnt_succ, listV_succ, hf, if_pos rfl, if_pos rfl, vals_append]
  exact h
set_option maxHeartbeats 800000 in
theorem rlist_any {w : World} {b n : Nat} {f : Nat → Bool} (h : BoolsAt w b n f) (hn : n ≤ 1048576) :
    Calls Tryd.prog 12 #[.slice (some ⟨b, 0, none⟩) n n] w (MadeList w (listV f n)) := by
  have H := Lib.hid h
  have hlt0 := World.rowIs.lt h
  obtain ⟨i0, hi0, hz0, hz1, hz2⟩ := info_parts int_info
  have HI := Lib.hid hi0
  have HZ0 := Lib.hid hz0
  have HZ1 := Lib.hid hz1
  have HZ2 := Lib.hid hz2
  clear h hi0 hz0 hz1 hz2
  go_enter Tryd.func12, Tryd.ntmps12
  go_wp2
  go_loopw [3, 4] (fun v k wr => ∃ j : Nat, j ≤ n ∧ k = .int .i64 j ∧ wr.ownsRow w.heap.size 3 1 v (cnt f j) (vals (listV f j)) ∧ Below w.heap.size w wr) (fun _ k _ => n - (intOf k).toNat)
  case atStart => exact ⟨0, by omega, rfl, World.ownsRow_nil _ _ _ _, Below.refl _ _⟩
  case round =>
    obtain ⟨j, hj, rfl, hown, hbel⟩ := hrel
    by_cases hlt : j < n
    · have hc : _ = _ := (hbel.cell (p := ⟨b, j, none⟩) hlt0).trans (H.out.cell hlt)
      have hi : 0 ≤ (j : Int) ∧ (j : Int) < (n : Int) := by omega
      have hcl := cnt_le f j
      cases hf : f j with
      | true =>
        rw [hf] at hc
        have HF := Lib.hid hf
        clear hf
        go_wp2_with (at_builtin; refine wpList_append_own _ rfl _ _ 22 rfl w.heap.size 3 i0 (.int .i64 0) 1 8 Tryd.underlying22 HI.out HZ0.out HZ1.out HZ2.out rfl (by decide) _ _ _ rfl (hown.alloc _) ⟨wr.heap.size, 0, none⟩ 1 1 [.int .i64 j] rfl rfl (new_one _ _ _) (one_int _ _) (by unfold maxLen; omega) (by omega) (by have := hbel.size; simp; omega) ?_
                     intro v' w2 hown2 hgr2 _)
        have hb2 : Below w.heap.size w w2 := (hbel.alloc hbel.size _).grown hgr2 (by have := hbel.size; simp; omega) fun x hx => (hown.lt x hx).1
        have hq := own_step' HF.out hown2
        go_roundw
        case rel => exact ⟨j + 1, by omega, by go_num, hq, hb2⟩
        case measure => simp [intOf]; omega
      | false =>
        rw [hf] at hc
        have hq := own_step hf hown
        clear hf
        go_wp2
        go_roundw
        case rel => exact ⟨j + 1, by omega, by go_num, hq, hbel⟩
        case measure => simp [intOf]; omega
    · go_wp2
      go_ret
      have e : j = n := by omega
      subst e
      exact ⟨_, rfl, by rw [listV_length]; exact hown, hbel⟩

/-! ### has, Mix -/
def hasB (xs : List Int) (x : Int) : Bool := decide (x ∈ xs)
theorem rhas_any {w : World} {A : Option Addr} {xs : List Int} {n c : Nat} (h : IntsAt w A xs) (hn : n = xs.length) (hn2 : n ≤ 9223372036854775807) (x : Int) :
    Calls Tryd.prog 43 #[.slice A n c, .int .i64 x] w fun e w' => e = .returned (.bool (hasB xs x)) ∧ w = w' := by
  have H := Lib.hid h
  have HN := Lib.hid hn
  clear h hn
  go_enter Tryd.func43, Tryd.ntmps43
  go_wp2
  go_loop [5] (fun k => ∃ j : Nat, j ≤ n ∧ k = .int .i64 j ∧ Hid (∀ q, q < j → xs[q]? ≠ some x)) (fun k => n - (intOf k).toNat)
  case atStart => exact ⟨0, by omega, rfl, fun q hq => by omega⟩
  case round =>
    obtain ⟨j, hj, rfl, hh⟩ := hrel
    by_cases hlt : j < n
    · have hxl : j < xs.length := by have := HN.out; omega
      obtain ⟨b, off, rfl, hc⟩ := H.out.at_ hxl
      have HQ : Hid (xs[j]? = some (xs[j]'hxl)) := List.getElem?_eq_getElem hxl
      have hi : 0 ≤ (j : Int) ∧ (j : Int) < (n : Int) := by omega
      generalize xs[j]'hxl = y at *
      by_cases hxy : y = x
      · have hb2 : (y == x) = true := by simp [hxy]
        have HE : Hid (hasB xs x = true) := by
          show _ = _
          unfold hasB
          rw [decide_eq_true]
          exact List.mem_of_getElem? (by rw [HQ.out, hxy])
        clear hxy
        go_wp2
        go_ret
        exact ⟨ret_bool HE.out.symm, rfl⟩
      · have hb2 : (y == x) = false := by simp [hxy]
        have HXY : Hid (y ≠ x) := hxy
        clear hxy
        go_wp2
        go_round
        case rel =>
          refine ⟨j + 1, by omega, by go_num, fun q hq => ?_⟩
          by_cases e : q = j
          · rw [e, HQ.out]
            intro e2
            injection e2 with e2
            exact HXY.out e2
          · exact hh.out q (by omega)
        case measure => simp [intOf]; omega
    · go_wp2
      go_ret
      refine ⟨ret_bool ?_, rfl⟩
      symm
      unfold hasB
      rw [decide_eq_false]
      intro hm
      obtain ⟨q, hq⟩ := List.getElem?_of_mem hm
      have hq2 := (List.getElem?_eq_some_iff.1 hq).1
      exact hh.out q (by have := HN.out; omega) hq
theorem hasB_listV (f : Nat → Bool) (n x : Nat) : hasB (ints (listV f n)) (x : Int) = (decide (x < n) && f x) := by
  unfold hasB
  rw [Bool.eq_iff_iff]
  simp [mem_ints, mem_listV]
def mixF (how : Int) (f g : Nat → Bool) : Nat → Bool := if how = 1 then orF f g else if how = 2 then andF f g else lessF f g
theorem mixF_at (how : Int) (f g : Nat → Bool) (j : Nat) : mixF how f g j = if how = 1 then f j || g j else if how = 2 then f j && g j else f j && !g j := by
  unfold mixF
  split
  · rfl
  · split <;> rfl
theorem rhas_is {w : World} {A : Option Addr} {xs : List Int} {n c : Nat} (h : IntsAt w A xs) (hn : n = xs.length) (hn2 : n ≤ 9223372036854775807) {x : Int} {r : Bool} (hr : hasB xs x = r) :
    Calls Tryd.prog 43 #[.slice A n c, .int .i64 x] w fun e w' => e = .returned (.bool r) ∧ w = w' := by
  rw [← hr]; exact rhas_any h hn hn2 x
set_option maxRecDepth 100000 in
set_option maxHeartbeats 6400000 in
theorem rmix_any {w : World} {A B : Option Addr} {f g : Nat → Bool} {n m c d : Nat} (ha : IntsAt w A (ints (listV f n))) (hb : IntsAt w B (ints (listV g m))) (hf : ∀ j, n ≤ j → f j = false) (hg : ∀ j, m ≤ j → g j = false) (hn : n ≤ 256) (hm : m ≤ 256) (how : Int) (hhow : how = 1 ∨ how = 2 ∨ how = 3) :
    Calls Tryd.prog 28 #[.slice A (cnt f n) c, .slice B (cnt g m) d, .int .i64 how] w (MadeList w (listV (mixF how f g) 256)) := by
  have HA := Lib.hid ha
  have HB := Lib.hid hb
  obtain ⟨i0, hi0, hz0, hz1, hz2⟩ := info_parts int_info
  have HI := Lib.hid hi0
  have HZ0 := Lib.hid hz0
  have HZ1 := Lib.hid hz1
  have HZ2 := Lib.hid hz2
  have hcn := cnt_le f n
  have hcm := cnt_le g m
  have HLA : Hid (cnt f n = (ints (listV f n)).length) := by show _ = _; rw [ints_length, listV_length]
  have HLB : Hid (cnt g m = (ints (listV g m)).length) := by show _ = _; rw [ints_length, listV_length]
  have HPA : Hid (∀ x : Nat, hasB (ints (listV f n)) (x : Int) = f x) := fun x => by
    rw [hasB_listV]
    by_cases h : x < n
    · simp [h]
    · simp [h, hf x (by omega)]
  have HPB : Hid (∀ x : Nat, hasB (ints (listV g m)) (x : Int) = g x) := fun x => by
    rw [hasB_listV]
    by_cases h : x < m
    · simp [h]
    · simp [h, hg x (by omega)]
  have HEND : Hid (listV (mixF how f g) 300 = listV (mixF how f g) 256) := listV_more (fun j h1 _ => by
    have e1 := hf j (by omega)
    have e2 := hg j (by omega)
    rw [mixF_at, e1, e2]
    simp) (by omega)
  have hnot := not_any
  clear ha hb hi0 hz0 hz1 hz2 hf hg
  go_enter Tryd.func28, Tryd.ntmps28
  go_wp2
  go_loopw [7, 8] (fun v k wr => ∃ j : Nat, j ≤ 300 ∧ k = .int .i64 j ∧ wr.ownsRow w.heap.size 3 1 v (cnt (mixF how f g) j) (vals (listV (mixF how f g) j)) ∧ Below w.heap.size w wr) (fun _ k _ => 300 - (intOf k).toNat)
  case atStart => exact ⟨0, by omega, rfl, World.ownsRow_nil _ _ _ _, Below.refl _ _⟩
  case round =>
    obtain ⟨j, hj, rfl, hown, hbel⟩ := hrel
    by_cases hlt : j < 300
    · have hcl := cnt_le (mixF how f g) j
      have HA2 := Lib.hid (HA.out.below hbel)
      have HB2 := Lib.hid (HB.out.below hbel)
      cases hx : mixF how f g j with
      | true =>
        have HX := Lib.hid hx
        rcases hhow with rfl | rfl | rfl <;> cases hfj : f j <;> cases hgj : g j <;> (try (exfalso; rw [mixF_at, hfj, hgj] at hx; revert hx; decide))
        all_goals
          have HP := Lib.hid ((HPA.out j).trans hfj)
          have HQ := Lib.hid ((HPB.out j).trans hgj)
          clear hx hfj hgj
          go_wp2_with (first
            | (go_at_call 43; first
                | ((with_reducible refine (rhas_is HA2.out HLA.out (by omega) HP.out).mono ?_); rintro e w' ⟨rfl, rfl⟩)
                | ((with_reducible refine (rhas_is HB2.out HLB.out (by omega) HQ.out).mono ?_); rintro e w' ⟨rfl, rfl⟩))
            | (at_builtin; refine wpList_append_own _ rfl _ _ 22 rfl w.heap.size 3 i0 (.int .i64 0) 1 8 Tryd.underlying22 HI.out HZ0.out HZ1.out HZ2.out rfl (by decide) _ _ _ rfl (hown.alloc _) ⟨wr.heap.size, 0, none⟩ 1 1 [.int .i64 j] rfl rfl (new_one _ _ _) (one_int _ _) (by unfold maxLen; omega) (by omega) (by have := hbel.size; simp; omega) ?_
               intro v' w2 hown2 hgr2 _))
          have hb2 : Below w.heap.size w w2 := (hbel.alloc hbel.size _).grown hgr2 (by have := hbel.size; simp; omega) fun x hx => (hown.lt x hx).1
          have hq := own_step' HX.out hown2
          go_roundw
          case rel => exact ⟨j + 1, by omega, by go_num, hq, hb2⟩
          case measure => simp [intOf]; omega
      | false =>
        have hq := own_step hx hown
        rcases hhow with rfl | rfl | rfl <;> cases hfj : f j <;> cases hgj : g j <;> (try (exfalso; rw [mixF_at, hfj, hgj] at hx; revert hx; decide))
        all_goals
          have HP := Lib.hid ((HPA.out j).trans hfj)
          have HQ := Lib.hid ((HPB.out j).trans hgj)
          clear hx hfj hgj
          go_wp2_with (go_at_call 43; first
                | ((with_reducible refine (rhas_is HA2.out HLA.out (by omega) HP.out).mono ?_); rintro e w' ⟨rfl, rfl⟩)
                | ((with_reducible refine (rhas_is HB2.out HLB.out (by omega) HQ.out).mono ?_); rintro e w' ⟨rfl, rfl⟩))
          go_roundw
          case rel => exact ⟨j + 1, by omega, by go_num, hq, hbel⟩
          case measure => simp [intOf]; omega
    · go_wp2
      go_ret
      have e : j = 300 := by omega
      subst e
      exact ⟨_, rfl, by rw [← HEND.out, listV_length]; exact hown, hbel⟩
end Go.Proofs.YtopnogmfdkhlkaaDoor
