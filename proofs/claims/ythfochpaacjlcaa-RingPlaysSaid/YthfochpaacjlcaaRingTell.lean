/- Layer 4 (ring): what Place and List return: contracts. -/
import Derived.Test.YthfochpaacjlcaaRingAll
import Derived.Test.YthfochpaacjlcaaBaseZs
import Derived.RangeFuncBox
namespace Go.Proofs.Ythfochpaacjlcaa
open Go.RowKit Go.Shelf
attribute [local go_sem] Oper.semAt_some

/-! ### the least place of a number -/
def placeFrom : Nat → List Int → Int → Int
  | _, [], _ => -1
  | n, y :: l, x => if y = x then (n : Int) else placeFrom (n + 1) l x
theorem placeFrom_at (x : Int) : ∀ (l : List Int) (n k : Nat), k < l.length → l[k]?.getD 0 = x → (∀ j, j < k → l[j]?.getD 0 ≠ x) → placeFrom n l x = ((n + k : Nat) : Int)
  | [], _, _, h, _, _ => by simp at h
  | y :: l, n, 0, _, h, _ => by
    have e : y = x := by simpa using h
    unfold placeFrom
    rw [if_pos e]
    rfl
  | y :: l, n, k + 1, h1, h2, h3 => by
    have e : y ≠ x := by simpa using h3 0 (by omega)
    unfold placeFrom
    rw [if_neg e, placeFrom_at x l (n + 1) k (by simpa using h1) (by simpa using h2) (fun j hj => by simpa using h3 (j + 1) (by omega))]
    omega
theorem placeFrom_no (x : Int) : ∀ (l : List Int) (n : Nat), (∀ j, j < l.length → l[j]?.getD 0 ≠ x) → placeFrom n l x = -1
  | [], _, _ => rfl
  | y :: l, n, h => by
    have e : y ≠ x := by simpa using h 0 (by simp)
    unfold placeFrom
    rw [if_neg e]
    exact placeFrom_no x l (n + 1) fun j hj => by simpa using h (j + 1) (by simp; omega)
def placeZ (l : List Int) (x : Int) : Int := placeFrom 0 l x
theorem placeZ_at {x : Int} {l : List Int} {k : Nat} (h1 : k < l.length) (h2 : l[k]?.getD 0 = x) (h3 : ∀ j, j < k → l[j]?.getD 0 ≠ x) : placeZ l x = (k : Int) := by
  have := placeFrom_at x l 0 k h1 h2 h3
  rw [Nat.zero_add] at this
  exact this
theorem placeZ_no {x : Int} {l : List Int} (h : ∀ j, j < l.length → l[j]?.getD 0 ≠ x) : placeZ l x = -1 := placeFrom_no x l 0 h

set_option maxRecDepth 100000 in
set_option maxHeartbeats 2000000 in
theorem place_q {w : World} {p : Option Addr} {l : List Int} {x r : Int} (hQ : QAt w.heap.size w p l) (hr : placeZ l x = r) :
    Calls Try.prog 18 #[.pointer p, .int .i64 x] w fun e w' => e = .returned (.int .i64 r) ∧ Below w.heap.size w w' := by
  subst hr
  refine (callsIn_wide (n := 6)).1 ?_
  refine callsIn_of_wp_marks Try.func18 rfl trivial ?_ rfl
  simp only [Try.ntmps18, List.size_toArray, List.length_cons, List.length_nil, Nat.reduceAdd, Nat.reduceSub, Array.replicate_succ, Array.replicate_zero, List.push_toArray, List.append_toArray, List.nil_append, List.cons_append]
  gi_wp2_with (refine ⟨trivial, ?_⟩; gi_at_call 21; refine (all_in _ _ _).mono ?_; rintro e w' ⟨rfl, rfl⟩)
  have bX := Boxed.new w 3 (.int .i64 x)
  have bR := Boxed.new (w.alloc (.cells #[.int .i64 x] 3)) 3 (.int .i64 0)
  have bN := Boxed.new ((w.alloc (.cells #[.int .i64 x] 3)).alloc (.cells #[.int .i64 0] 3)) 24 (.pointer p)
  simp only [World.size_alloc] at bR bN
  have hB0 : Below w.heap.size w (((w.alloc (.cells #[.int .i64 x] 3)).alloc (.cells #[.int .i64 0] 3)).alloc (.cells #[.pointer p] 24)) := (((Below.refl _ w).alloc (Nat.le_refl _) _).alloc (by simp) _).alloc (by simp; omega) _
  refine wpIn_rangeFunc_ownG rfl (by omega) (gf := 22) (lb := #[.pointer (some ⟨w.heap.size + 1 + 1, 0, none⟩)]) rfl trivial (enters_of Try.func22 (by kernel_rfl) rfl)
    (all_stops _ (by omega) (w.heap.size + 1 + 1) w.heap.size p l _ (by simp) (by simp; omega) bN.cell (hQ.below hB0)) KeepQ.trans (KeepQ.put (by simp; omega) (by simp)) (Below.refl _ _) (fun _ => rfl)
    (fun (pre : List Nat) W => ((∀ j ∈ pre, l[j]?.getD 0 ≠ x) ∧ W.cell? ⟨w.heap.size, 0, none⟩ = some (.int .i64 x) ∧ W.cell? ⟨w.heap.size + 1, 0, none⟩ = some (.int .i64 0) ∧ W.frozen? ⟨w.heap.size + 1, 0, none⟩ = false) ∧ Below w.heap.size w W)
    (fun c (pre : List Nat) W => (c = .ret ∧ ∃ (ini : List Nat) (last : Nat), pre = ini ++ [last] ∧ (∀ j ∈ ini, l[j]?.getD 0 ≠ x) ∧ l[last]?.getD 0 = x ∧ W.cell? ⟨w.heap.size + 1, 0, none⟩ = some (.int .i64 (last : Int))) ∧ Below w.heap.size w W)
    (OwnFrom.and (Own.from (fun s A B row hs hg hr => ⟨hs.1, cell_kept hs.2.1 hg hr, cell_kept hs.2.2.1 hg hr, (frozen_kept hs.2.2.1 hg hr).trans hs.2.2.2⟩) _) (ownFrom_below (Nat.le_refl _) (by simp; omega)))
    (fun c => OwnFrom.and (Own.from (fun s A B row hs hg hr => by obtain ⟨hc, ini, last, e1, e2, e3, e4⟩ := hs; exact ⟨hc, ini, last, e1, e2, e3, cell_kept e4 hg hr⟩) _) (ownFrom_below (Nat.le_refl _) (by simp; omega)))
    ⟨⟨by simp, ((bX.alloc _).alloc _).cell, (bR.alloc _).cell, (bR.alloc _).frozen⟩, hB0⟩
    (fun (k : Nat) => { tmps := #[.pointer p, .int .i64 x, undef, .pointer (some ⟨w.heap.size, 0, none⟩), .pointer (some ⟨w.heap.size + 1, 0, none⟩), .int .i64 (k : Int), .int .i64 (l[k]?.getD 0), .pointer p, .func (.func 22) #[] #[.pointer (some ⟨w.heap.size + 1 + 1, 0, none⟩)], .int .i64 (k : Int), .int .i64 (l[k]?.getD 0), undef, undef, undef, undef], defers := [] }) ?assign ?body ?done ?stop
  case assign =>
    intro lp k W K hK
    gi_wp2
    exact hK
  case body =>
    rintro lp pre k W ⟨⟨hp, hcx, hcr, hfr⟩, hB⟩ _
    obtain ⟨z, hz⟩ : ∃ z, l[k]?.getD 0 = z := ⟨_, rfl⟩
    rw [hz]
    have HZ := Lib.hid hz
    clear hz
    gi_wp2
    · rename_i hx
      have hx := eq_of_beq hx
      exact ⟨(KeepsOthers.setCell _ _ _).from _, ⟨rfl, pre, k, rfl, hp, HZ.out.trans hx, World.cell?_setCell_same' _ _ _ (by rw [hcr]; rfl)⟩, hB.setCell (p := ⟨w.heap.size + 1, 0, none⟩) (by simp) _⟩
    · rename_i hx
      have hx : z ≠ x := by simpa using hx
      exact ⟨KeepsFrom.refl _ _, KeepQ.refl _ _ _, ⟨fun j hj => (List.mem_append.1 hj).elim (hp j) (fun e => by simp at e; subst e; rw [HZ.out]; exact hx), hcx, hcr, hfr⟩, hB⟩
  case done =>
    rintro D ys W hD rfl ⟨⟨hne, _, hcr, hfr⟩, hB⟩ hK
    gi_wp2
    have hK' := (KeepsOthers.setCell W ⟨w.heap.size + 1, 0, none⟩ (.int .i64 (-1))).same D _ hK rfl
    refine ⟨by simp, .inl ⟨_, _, rfl, run_takeDeferred hK', ?_⟩⟩
    have hc5 := cell_kept (World.cell?_setCell_same' W ⟨w.heap.size + 1, 0, none⟩ (.int .i64 (-1)) (by rw [hcr]; rfl)) (grownBy_putObj' _ D (.deferred none)) (fun r e => by cases e; exact ⟨_, hK', rfl⟩)
    refine ⟨.int .i64 (-1), ?_, ret_int (placeZ_no fun j hj => hne j (List.mem_range.2 hj)).symm, (hB.setCell (p := ⟨w.heap.size + 1, 0, none⟩) (by simp) _).trans (belowK_b (w := w) (Nat.le_refl _) _ D _ _ (by simp at hD; omega) hK' rfl rfl)⟩
    simp [results, Try.f18, go_sem, hc5]
  case stop =>
    rintro D c pre W hD ⟨k, hk, rfl⟩ ⟨⟨rfl, ini, last, e1, e2, e3, hcr⟩, hB⟩ hK
    gi_wp2
    refine ⟨by simp, .inl ⟨_, _, rfl, run_takeDeferred hK, ?_⟩⟩
    have hc5 := cell_kept hcr (grownBy_putObj' _ D (.deferred none)) (fun r e => by cases e; exact ⟨_, hK, rfl⟩)
    obtain ⟨k', rfl⟩ : ∃ k', k = k' + 1 := by
      cases k with
      | zero => simp at e1
      | succ k' => exact ⟨k', rfl⟩
    rw [List.range_succ] at e1
    obtain ⟨rfl, e5⟩ := List.append_inj' e1 rfl
    obtain rfl : k' = last := by simpa using e5
    refine ⟨.int .i64 (k' : Int), ?_, ret_int (placeZ_at (by omega) e3 fun j hj => e2 j (List.mem_range.2 hj)).symm, hB.trans (belowK_b (w := w) (Nat.le_refl _) W D _ _ (by simp at hD; omega) hK rfl rfl)⟩
    simp [results, Try.f18, go_sem, hc5]

/-! ### List -/
/-- What List gives lies behind all that was there. -/
def ListIn (w : World) (l : List Int) (e : Ending) (w' : World) : Prop := ∃ A c, e = .returned (.slice A l.length c) ∧ IntsIn w' w.heap.size w'.heap.size A l ∧ Below w.heap.size w w'
def valsZ (l : List Int) (pre : List Nat) : List Value := (pre.map fun k => l[k]?.getD 0).map (.int .i64)
theorem valsZ_length (l : List Int) (pre : List Nat) : (valsZ l pre).length = pre.length := by unfold valsZ; simp
theorem valsZ_snoc (l : List Int) (pre : List Nat) (k : Nat) : valsZ l (pre ++ [k]) = valsZ l pre ++ [.int .i64 (l[k]?.getD 0)] := by unfold valsZ; simp
theorem valsZ_all (l : List Int) : valsZ l (List.range l.length) = l.map (.int .i64) := by
  unfold valsZ
  congr 1
  apply List.ext_getElem
  · simp
  · intro i h1 h2
    simp [h2]
set_option maxRecDepth 100000 in
set_option maxHeartbeats 2000000 in
theorem list_q {w : World} {p : Option Addr} {l : List Int} (hQ : QAt w.heap.size w p l) : Calls Try.prog 17 #[.pointer p] w (ListIn w l) := by
  have hsm := hQ.small
  have HQ := Lib.hid hQ
  obtain ⟨i0, hi0, hz0, hz1, hz2⟩ := info_parts int_info
  have hmk : ∀ W : World, (Instr.makeSlice 26 (.int .i64 0) (.int .i64 (l.length : Int))).run Try.prog W = .ok (.slice (some ⟨W.heap.size, 0, none⟩) 0 l.length) (W.alloc (.cells (madeCells #[.int .i64 0] l.length) 3)) := fun W => by
    have := run_make (P := Try.prog) W 26 3 i0 (.int .i64 0) Try.underlying26 hi0 hz0 .i64 .i64 0 (l.length : Int) (Int.le_refl _) (by omega) (by rw [hz2]; omega) (by omega)
    rw [hz1, show (Value.int .i64 0).cells = #[.int .i64 0] from rfl] at this
    simpa using this
  refine (callsIn_wide (n := 6)).1 ?_
  refine callsIn_of_wp_marks Try.func17 rfl trivial ?_ rfl
  simp only [Try.ntmps17, List.size_toArray, List.length_cons, List.length_nil, Nat.reduceAdd, Nat.reduceSub, Array.replicate_succ, Array.replicate_zero, List.push_toArray, List.append_toArray, List.nil_append, List.cons_append]
  gi_wp2_with (first
    | (refine ⟨trivial, ?_⟩; gi_at_call 14; refine (callsIn_wide.2 HQ.out.len).mono ?_; rintro e w' ⟨rfl, rfl⟩)
    | (refine ⟨trivial, ?_⟩; gi_at_call 21; refine (all_in _ _ _).mono ?_; rintro e w' ⟨rfl, rfl⟩))
  have r0 : ((w.alloc (.cells (madeCells #[.int .i64 0] l.length) 3))).ownsRow w.heap.size 3 1 (.slice (some ⟨w.heap.size, 0, none⟩) 0 l.length) 0 [] :=
    World.ownsRow_made w _ l.length (Nat.le_refl _) (by unfold maxLen; omega) (by simp [size_madeCells])
  have bO := Boxed.new (w.alloc (.cells (madeCells #[.int .i64 0] l.length) 3)) 26 (.slice (some ⟨w.heap.size, 0, none⟩) 0 l.length)
  have bN := Boxed.new ((w.alloc (.cells (madeCells #[.int .i64 0] l.length) 3)).alloc (.cells #[.slice (some ⟨w.heap.size, 0, none⟩) 0 l.length] 26)) 24 (.pointer p)
  simp only [World.size_alloc] at bO bN
  have hB0 : Below w.heap.size w (((w.alloc (.cells (madeCells #[.int .i64 0] l.length) 3)).alloc (.cells #[.slice (some ⟨w.heap.size, 0, none⟩) 0 l.length] 26)).alloc (.cells #[.pointer p] 24)) := (((Below.refl _ w).alloc (Nat.le_refl _) _).alloc (by simp) _).alloc (by simp; omega) _
  refine wpIn_rangeFunc_ownG rfl (by omega) (gf := 22) (lb := #[.pointer (some ⟨w.heap.size + 1 + 1, 0, none⟩)]) rfl trivial (enters_of Try.func22 (by kernel_rfl) rfl)
    (all_stops _ (by omega) (w.heap.size + 1 + 1) w.heap.size p l _ (by simp) (by simp; omega) bN.cell (HQ.out.below hB0)) KeepQ.trans (KeepQ.put (by simp; omega) (by simp)) (Below.refl _ _) (fun _ => rfl)
    (fun (pre : List Nat) W => ((∃ v, Boxed W (w.heap.size + 1) 26 v ∧ W.ownsRow w.heap.size 3 1 v pre.length (valsZ l pre) ∧ True) ∧ Boxed W (w.heap.size + 1 + 1) 24 (.pointer p)) ∧ Below w.heap.size w W)
    (fun _ _ _ => False)
    (OwnFrom.and (OwnFrom.and (Own.from (holdsRow_own w.heap.size (w.heap.size + 1) 26 3 1 (fun pre => pre.length) (fun pre => valsZ l pre) (fun _ _ => True)) _) (Own.from (boxed_own _ _ _) _)) (ownFrom_below (Nat.le_refl _) (by simp; omega)))
    (fun _ _ _ _ _ hs _ _ => hs)
    ⟨⟨⟨_, bO.alloc _, (r0.alloc _).alloc _, trivial⟩, bN⟩, hB0⟩
    (fun (k : Nat) => { tmps := #[.pointer p, undef, .slice none 0 0, .pointer (some ⟨w.heap.size + 1, 0, none⟩), undef, .int .i64 (l[k]?.getD 0), .pointer p, .int .i64 (l.length : Int), .slice (some ⟨w.heap.size, 0, none⟩) 0 l.length, .pointer p, .func (.func 22) #[] #[.pointer (some ⟨w.heap.size + 1 + 1, 0, none⟩)], .int .i64 (k : Int), .int .i64 (l[k]?.getD 0), undef, undef, undef, undef, undef], defers := [] }) ?assign ?body ?done ?stop
  case assign =>
    intro lp k W K hK
    gi_wp2
    exact hK
  case body =>
    rintro lp pre k W ⟨⟨⟨v, hv, hrow, _⟩, hN⟩, hB⟩ hlt
    have hc := hv.cell
    obtain ⟨z, hz⟩ : ∃ z, l[k]?.getD 0 = z := ⟨_, rfl⟩
    rw [hz]
    have HZ := Lib.hid hz
    clear hz
    gi_wp2_with (gi_at_builtin; refine wpListIn_append_own _ rfl _ _ 26 rfl w.heap.size 3 i0 (.int .i64 0) 1 8 Try.underlying26 hi0 hz0 hz1 hz2 rfl (by decide) _ _ _ rfl (hrow.alloc _) ⟨W.heap.size, 0, none⟩ 1 1 [.int .i64 z] rfl rfl (new_one _ _ _) (one_int _ _) (by unfold maxLen; omega) (by omega) (by have := hB.size; simp; omega) ?_; intro v' w1 hown' hgrow _; obtain ⟨g', cap', rfl⟩ := ownsRow_succ hown'; obtain ⟨hv1, hv2, hr2, hk2, hb2⟩ := hv.appended (by decide) hrow hB.size (by omega) hown' hgrow; have hc1 := hv1.cell; have hf1 := hv1.frozen)
    have hN2 := ((hN.alloc _).kept hgrow (hN.not_row (by decide) hrow)).kept (grownBy_setCell' w1 (w.heap.size + 1) (.slice (some ⟨g', 0, none⟩) (pre.length + 1) cap')) (by simp)
    refine ⟨hk2.from _, ⟨hb2, hN2.trans hN.symm⟩, ⟨⟨_, hv2, ?_, trivial⟩, hN2⟩, hB.trans hb2⟩
    rw [valsZ_snoc, HZ.out, List.length_append]
    exact hr2
  case done =>
    rintro D ys W hD rfl ⟨⟨⟨v, hv, hrow, _⟩, _⟩, hB⟩ hK
    have hc := hv.cell
    gi_wp2
    refine ⟨by simp, .inl ⟨_, _, rfl, run_takeDeferred hK, ?_⟩⟩
    have hr2 := ownsRow_putObj hrow (.deferred none) hK rfl
    rw [valsZ_all] at hr2
    obtain ⟨A, c, rfl, hcap, hi, hb⟩ := own_zs hr2 (by simp)
    exact ⟨_, results_tmp rfl _ _ _, A, c, rfl, ⟨hi, Nat.le_refl _, hb⟩, hB.trans (belowK_b (w := w) (Nat.le_refl _) W D _ _ (by simp at hD; omega) hK rfl rfl)⟩
  case stop =>
    rintro D c pre W _ _ h _
    exact h.elim
end Go.Proofs.Ythfochpaacjlcaa
