/- Layer 3 (stack): what Push, Drop, Pop, List return, and how the stack lies in memory behind them: contracts. -/
import Derived.Test.YtgooajgoofojmaaDoorFreeStNew
import Derived.Test.YtgooajgoofojmaaDoorBaseHere
import Derived.StillTailTactics
namespace Go.Proofs.YtgooajgoofojmaaDoor
open Go.RowKit

theorem StackAt.push {w : World} {g b size x : Nat} {l : List Nat} {o : Obj} (hs : StackAt w g (some b) size l) (hgb : g ≠ b) (hx : x < size) (hm : x ∉ l) :
    StackAt (((((w.drewN 1).setCell ⟨b, size + x, none⟩ (.int .i64 l.length)).alloc o).setCell ⟨b, l.length, none⟩ (.int .i64 x)).setCell ⟨g, 0, none⟩ (.slice (some ⟨b, 0, none⟩) (l.length + 1) size)) g (some b) size (l ++ [x]) := by
  obtain ⟨b', c, eb, hb, hc⟩ := hs.blk (by omega)
  injection eb with eb
  subst eb
  have hle := length_le_of size (l ++ [x]) (nodup_push hs.nodup hm) fun y hy => by
    rcases List.mem_append.1 hy with h | h
    · exact hs.lt y h
    · rw [List.mem_singleton.1 h]; exact hx
  rw [List.length_append, List.length_singleton] at hle
  refine ⟨?_, .inr ⟨b, fun k => if k = l.length then (x : Int) else if k = size + x then (l.length : Int) else c k, rfl, ?_, ?_, ?_⟩, hs.small, nodup_push hs.nodup hm, fun y hy => ?_⟩
  · have h1 := (((((row_drewN hs.head 1).setOther (a := ⟨b, size + x, none⟩) (by simpa using hgb) (.int .i64 l.length)).alloc o).setOther (a := ⟨b, l.length, none⟩) (by simpa using hgb) (.int .i64 x)).set 0 (.slice (some ⟨b, 0, none⟩) (l.length + 1) size))
    refine h1.congr fun i hi => ?_
    match i, hi with
    | 0, _ => simp [stackF]
    | 1, _ => simp [stackF]
  · have h1 := (((((row_drewN hb 1).set (size + x) (.int .i64 l.length)).alloc o).set l.length (.int .i64 x)).setOther (a := ⟨g, 0, none⟩) (by simpa using hgb.symm) (.slice (some ⟨b, 0, none⟩) (l.length + 1) size))
    refine h1.congr fun i _ => ?_
    by_cases e1 : i = l.length
    · simp [e1]
    · by_cases e2 : i = size + x
      · simp only [if_neg e1, if_pos e2]
      · simp only [if_neg e1, if_neg e2]
  · intro k y hk
    by_cases e : k = l.length
    · subst e
      simp at hk
      simp [hk]
    · have hk' := (List.getElem?_eq_some_iff.1 hk).1
      rw [List.length_append, List.length_singleton] at hk'
      rw [List.getElem?_append_left (by omega)] at hk
      simp only
      rw [if_neg e, if_neg (by omega)]
      exact hc.1 k y hk
  · intro y hy
    rw [placeV_push hs.nodup hm]
    simp only
    rw [if_neg (by omega)]
    by_cases e : y = x
    · subst e; rw [if_pos rfl, if_pos rfl]
    · rw [if_neg (by omega), if_neg e]; exact hc.2 y hy
  · rcases List.mem_append.1 hy with h | h
    · exact hs.lt y h
    · rw [List.mem_singleton.1 h]; exact hx

def pushB (size : Nat) (l : List Nat) (x : Int) : Bool := decide (0 ≤ x ∧ x < size) && !decide (x.toNat ∈ l)
def pushL (size : Nat) (l : List Nat) (x : Int) : List Nat := if pushB size l x = true then l ++ [x.toNat] else l
def StepIn (w : World) (lo hi : Nat) (v : Value) (size : Nat) (l : List Nat) (r : Value) (e : Ending) (w' : World) : Prop := e = .returned r ∧ StackIn w' lo hi v size l ∧ Chg lo hi w w'
set_option maxHeartbeats 800000 in
theorem push_yes {w : World} {lo hi size x : Nat} {v : Value} {l : List Nat} (h : StackIn w lo hi v size l) (hx : x < size) (hm : x ∉ l) : Calls Tryd.prog 30 #[v, .int .i64 x] w (StepIn w lo hi v size (l ++ [x]) (.bool true)) := by
  obtain ⟨g, A, rfl, hs, hlo, hhi, hsz, hA⟩ := h
  obtain ⟨b, c, rfl, hb, hc⟩ := hs.blk (by omega)
  have hgb : g ≠ b := row_type hs.head hb (by decide)
  obtain ⟨hb1, hb2⟩ := hA b rfl
  have hle := length_le_of size (l ++ [x]) (nodup_push hs.nodup hm) fun y hy => by
    rcases List.mem_append.1 hy with h | h
    · exact hs.lt y h
    · rw [List.mem_singleton.1 h]; exact hx
  rw [List.length_append, List.length_singleton] at hle
  have hsm := hs.small
  have h1 : w.cell? ⟨g, 1, none⟩ = some (.slice (some ⟨b, size, none⟩) size size) := hs.head.cell (i := 1) (by omega)
  have h0 : w.cell? ⟨g, 0, none⟩ = some (.slice (some ⟨b, 0, none⟩) l.length size) := hs.head.cell (i := 0) (by omega)
  have h2 : w.cell? ⟨b, size + x, none⟩ = some (.int .i64 (c (size + x))) := hb.cell (by omega)
  have f2 : w.frozen? ⟨b, size + x, none⟩ = false := hb.frozen _
  have hxr : 0 ≤ (x : Int) ∧ (x : Int) < (size : Int) := by omega
  have HM : Hid (mayB size (x : Int) = true) := decide_eq_true hxr
  have HP : Hid (placeI l (x : Int) = -1) := by show _ = _; rw [placeI_nat]; exact placeV_no hm
  have HE := hs.push (o := .cells #[.int .i64 x] 3) hgb hx hm
  have HC : Chg lo hi w (((((w.drewN 1).setCell ⟨b, size + x, none⟩ (.int .i64 l.length)).alloc (.cells #[.int .i64 x] 3)).setCell ⟨b, l.length, none⟩ (.int .i64 x)).setCell ⟨g, 0, none⟩ (.slice (some ⟨b, 0, none⟩) (l.length + 1) size)) :=
    ((((Chg.drewN lo hi w 1).trans (Chg.set _ _ _ hb1 hb2)).trans (Chg.alloc _ _ _ _)).trans (Chg.set _ _ _ hb1 hb2)).trans (Chg.set _ _ _ hlo hhi)
  obtain ⟨i0, hi0, hz0, hz1, hz2⟩ := info_parts int_info
  have r3 := ((row_drewN hb 1).set (size + x) (.int .i64 l.length)).alloc (.cells #[.int .i64 (x : Int)] 3)
  have r4 := ((row_drewN hs.head 1).setOther (a := ⟨b, size + x, none⟩) (by simpa using hgb) (.int .i64 l.length)).alloc (.cells #[.int .i64 (x : Int)] 3)
  have g1 : ((((w.drewN 1).setCell ⟨b, size + x, none⟩ (.int .i64 l.length)).alloc (.cells #[.int .i64 (x : Int)] 3)).cell? ⟨b, 0 + l.length, none⟩).isSome = true := by rw [Nat.zero_add, r3.cell (i := l.length) (by omega)]; rfl
  have g2 : (((w.drewN 1).setCell ⟨b, size + x, none⟩ (.int .i64 l.length)).alloc (.cells #[.int .i64 (x : Int)] 3)).frozen? ⟨b, 0 + l.length, none⟩ = false := r3.frozen _
  have g3 : (((w.drewN 1).setCell ⟨b, size + x, none⟩ (.int .i64 l.length)).alloc (.cells #[.int .i64 (x : Int)] 3)).cell? ⟨w.heap.size, 0, none⟩ = some (.int .i64 x) := by
    have := World.rowIs_alloc ((w.drewN 1).setCell ⟨b, size + x, none⟩ (.int .i64 l.length)) #[.int .i64 (x : Int)] 3 (fun _ => .int .i64 x) (by
      intro i hi
      match i, hi with
      | 0, _ => rfl)
    have := this.cell (i := 0) (by simp)
    simpa using this
  have r5 := r4.setOther (a := ⟨b, l.length, none⟩) (by simpa using hgb) (.int .i64 (x : Int))
  have g4 := r5.cell (i := 0) (by omega)
  have g5 := r5.frozen 0
  have HS := Lib.hid hs
  have HI := Lib.hid hi0
  have HZ1 := Lib.hid hz1
  have G1 := Lib.hid g1
  have G2 := Lib.hid g2
  have G3 := Lib.hid g3
  clear hs hb r3 r4 r5 hi0 hz0 hz1 hz2 hm g1 g2 g3 hc
  have hnot := not_any
  go_enter Tryd.func30, Tryd.ntmps30
  go_wp2_with (first
    | (go_at_call 39; refine (may_any HS.out HM.out).mono ?_; rintro e w' ⟨rfl, rfl⟩)
    | (go_at_call 38; refine (place_any HS.out HP.out).mono ?_; rintro e w' ⟨rfl, rfl⟩))
  refine wp_region_still_tail 11 (by kernel_rfl) (by kernel_rfl) ?_
  simp only [List.take_succ_cons, List.take_zero, List.drop_succ_cons, List.drop_zero]
  change wpStill _ _ (w.drewN 1) _ _ _
  repeat still_step
  refine wpStill_nil ?_
  change wpList _ _ _ _ _ (w.drewN 1)
  go_wp2_with (at_builtin; refine wpList_append_here _ rfl _ _ 26 rfl 3 i0 Tryd.underlying26 HI.out HZ1.out b 0 l.length size rfl ⟨w.heap.size, 0, none⟩ 1 (.int .i64 x) rfl G3.out rfl (by omega) G1.out G2.out ?_; rw [Nat.zero_add])
  go_ret
  exact ⟨rfl, ⟨g, some b, rfl, HE, hlo, hhi, by simpa using Nat.le_trans hsz HC.size, hA⟩, HC⟩
theorem push_no {w : World} {lo hi size : Nat} {v : Value} {l : List Nat} (h : StackIn w lo hi v size l) {x : Int} (hx : pushB size l x = false) : Calls Tryd.prog 30 #[v, .int .i64 x] w fun e w' => e = .returned (.bool false) ∧ w = w' := by
  obtain ⟨g, A, rfl, hs, _⟩ := h
  have hnot := not_any
  cases hm : mayB size x with
  | false =>
    have HM := Lib.hid hm
    have HS := Lib.hid hs
    clear hm hs hx
    go_enter Tryd.func30, Tryd.ntmps30
    go_wp2_with (go_at_call 39; refine (may_any HS.out HM.out).mono ?_; rintro e w' ⟨rfl, rfl⟩)
    go_ret
    exact ⟨rfl, rfl⟩
  | true =>
    have hin : x.toNat ∈ l := by
      unfold pushB at hx
      unfold mayB at hm
      rw [hm] at hx
      simpa using hx
    obtain ⟨i, hi, hi2, hi3⟩ := placeV_mem hin
    have HP : Hid (placeI l x = (i : Int)) := by show _ = _; unfold placeI; rw [if_pos (of_decide_eq_true hm).1]; exact hi3
    have hne : ((i : Int) != -1) = true := by simp
    have HM := Lib.hid hm
    have HS := Lib.hid hs
    clear hm hs hx hin hi hi2 hi3
    go_enter Tryd.func30, Tryd.ntmps30
    go_wp2_with (first
      | (go_at_call 39; refine (may_any HS.out HM.out).mono ?_; rintro e w' ⟨rfl, rfl⟩)
      | (go_at_call 38; refine (place_any HS.out HP.out).mono ?_; rintro e w' ⟨rfl, rfl⟩))
    go_ret
    exact ⟨rfl, rfl⟩
theorem push_nil (x : Int) (w : World) : Calls Tryd.prog 30 #[.pointer none, .int .i64 x] w fun e w' => e = .returned (.bool false) ∧ w = w' := by
  have hnot := not_any
  go_enter Tryd.func30, Tryd.ntmps30
  go_wp2_with (go_at_call 39; refine (may_nil _ _).mono ?_; rintro e w' ⟨rfl, rfl⟩)
  go_ret
  exact ⟨rfl, rfl⟩
theorem pushB_nat (size : Nat) (l : List Nat) (x : Nat) : pushB size l (x : Int) = (decide (x < size) && !decide (x ∈ l)) := by unfold pushB; congr 1; simp
theorem push_at {w : World} {lo hi size : Nat} {v : Value} {l : List Nat} (h : StackIn w lo hi v size l) (x : Int) : Calls Tryd.prog 30 #[v, .int .i64 x] w (StepIn w lo hi v size (pushL size l x) (.bool (pushB size l x))) := by
  cases hb : pushB size l x with
  | true =>
    have e : pushL size l x = l ++ [x.toNat] := if_pos hb
    rw [e]
    unfold pushB at hb
    rw [Bool.and_eq_true] at hb
    obtain ⟨h1, h2⟩ := of_decide_eq_true hb.1
    obtain ⟨k, rfl⟩ := Int.eq_ofNat_of_zero_le h1
    rw [Int.toNat_natCast] at hb ⊢
    exact push_yes h (by omega) (by simpa using hb.2)
  | false =>
    have e : pushL size l x = l := if_neg (by rw [hb]; simp)
    rw [e]
    exact (push_no h hb).mono fun _ w' ⟨he, hw⟩ => by subst hw; exact ⟨he, h, Chg.refl _ _ _⟩

/-! ### Drop -/
theorem StackAt.drop {w : World} {g b size x i : Nat} {l : List Nat} (hs : StackAt w g (some b) size l) (hgb : g ≠ b) (hx : placeV l x = i) (hlt : x < size) :
    StackAt ((((w.setCell ⟨b, i, none⟩ (.int .i64 (topV l : Nat))).setCell ⟨b, size + topV l, none⟩ (.int .i64 i)).setCell ⟨b, size + x, none⟩ (.int .i64 (-1))).setCell ⟨g, 0, none⟩ (.slice (some ⟨b, 0, none⟩) (l.length - 1) size)) g (some b) size (dropL l x) := by
  obtain ⟨b', c, eb, hb, hc⟩ := hs.blk (by omega)
  injection eb with eb
  subst eb
  have hle := hs.le
  have hpx := placeV_eq hx
  have hil := (List.getElem?_eq_some_iff.1 hpx).1
  have hxm := List.mem_of_getElem? hpx
  have htm := topV_mem (l := l) (by omega)
  have htl := hs.lt _ htm
  have hlen := dropL_length hxm
  refine ⟨?_, .inr ⟨b, fun k => if k = size + x then -1 else if k = size + topV l then (i : Int) else if k = i then (topV l : Int) else c k, rfl, ?_, ?_, ?_⟩, hs.small, nodup_drop hs.nodup, fun y hy => hs.lt y (mem_drop hy)⟩
  · have h1 := (((hs.head.setOther (a := ⟨b, i, none⟩) (by simpa using hgb) (.int .i64 (topV l : Nat))).setOther (a := ⟨b, size + topV l, none⟩) (by simpa using hgb) (.int .i64 i)).setOther (a := ⟨b, size + x, none⟩) (by simpa using hgb) (.int .i64 (-1))).set 0 (.slice (some ⟨b, 0, none⟩) (l.length - 1) size)
    refine h1.congr fun j hj => ?_
    match j, hj with
    | 0, _ => simp [stackF, hlen]
    | 1, _ => simp [stackF]
  · have h1 := (((hb.set i (.int .i64 (topV l : Nat))).set (size + topV l) (.int .i64 i)).set (size + x) (.int .i64 (-1))).setOther (a := ⟨g, 0, none⟩) (by simpa using hgb.symm) (.slice (some ⟨b, 0, none⟩) (l.length - 1) size)
    refine h1.congr fun j _ => ?_
    by_cases e1 : j = size + x
    · simp only [if_pos e1]
    · by_cases e2 : j = size + topV l
      · simp only [if_neg e1, if_pos e2]
      · by_cases e3 : j = i
        · simp only [if_neg e1, if_neg e2, if_pos e3]
        · simp only [if_neg e1, if_neg e2, if_neg e3]
  · intro k y hk
    have hk' := (List.getElem?_eq_some_iff.1 hk).1
    rw [dropL_at hx (by omega)] at hk
    simp only
    rw [if_neg (by omega), if_neg (by omega)]
    by_cases e : k = i
    · rw [if_pos e] at hk ⊢
      injection hk with hk
      rw [hk]
    · rw [if_neg e] at hk ⊢
      exact hc.1 k y hk
  · intro y hy
    rw [placeV_drop hs.nodup hx]
    simp only
    by_cases e1 : y = x
    · rw [if_pos (by omega), if_pos e1]
    · rw [if_neg (by omega), if_neg e1]
      by_cases e2 : y = topV l
      · rw [if_pos (by omega), if_pos e2]
      · rw [if_neg (by omega), if_neg e2, if_neg (by omega)]
        exact hc.2 y hy
set_option maxHeartbeats 800000 in
theorem drop_yes {w : World} {lo hi size x : Nat} {v : Value} {l : List Nat} (h : StackIn w lo hi v size l) (hm : x ∈ l) : Calls Tryd.prog 27 #[v, .int .i64 x] w (StepIn w lo hi v size (dropL l x) (.bool true)) := by
  obtain ⟨g, A, rfl, hs, hlo, hhi, hsz, hA⟩ := h
  have hxs := hs.lt x hm
  obtain ⟨b, c, rfl, hb, hc⟩ := hs.blk (by omega)
  have hgb : g ≠ b := row_type hs.head hb (by decide)
  obtain ⟨hb1, hb2⟩ := hA b rfl
  have hle := hs.le
  have hsm := hs.small
  obtain ⟨i, hil, hi2, hi3⟩ := placeV_mem hm
  have HE := hs.drop hgb hi3 hxs
  have htl := hs.lt _ (topV_mem (l := l) (by omega))
  have htc := hc.1 _ _ (topV_at (l := l) (by omega))
  have HP : Hid (placeI l (x : Int) = (i : Int)) := by show _ = _; rw [placeI_nat]; exact hi3
  clear hi3 hi2
  generalize topV l = top at *
  obtain ⟨m, em⟩ : ∃ m, l.length = m := ⟨_, rfl⟩
  have h0 : w.cell? ⟨g, 0, none⟩ = some (.slice (some ⟨b, 0, none⟩) l.length size) := hs.head.cell (i := 0) (by omega)
  have h1 : w.cell? ⟨g, 1, none⟩ = some (.slice (some ⟨b, size, none⟩) size size) := hs.head.cell (i := 1) (by omega)
  rw [em] at hle hil HE htc h0
  have HC : Chg lo hi w ((((w.setCell ⟨b, i, none⟩ (.int .i64 (top : Nat))).setCell ⟨b, size + top, none⟩ (.int .i64 i)).setCell ⟨b, size + x, none⟩ (.int .i64 (-1))).setCell ⟨g, 0, none⟩ (.slice (some ⟨b, 0, none⟩) (m - 1) size)) :=
    (((Chg.set _ _ _ hb1 hb2).trans (Chg.set _ _ _ hb1 hb2)).trans (Chg.set _ _ _ hb1 hb2)).trans (Chg.set _ _ _ hlo hhi)
  have c1 : w.cell? ⟨b, m - 1, none⟩ = some (.int .i64 (top : Nat)) := by rw [hb.cell (i := m - 1) (by omega), htc]
  have c2 := hb.cell (i := i) (by omega)
  have f2 := hb.frozen i
  have hb3 := hb.set i (.int .i64 (top : Nat))
  have hg3 := hs.head.setOther (a := ⟨b, i, none⟩) (by simpa using hgb) (.int .i64 (top : Nat))
  have c3 := hb3.cell (i := size + top) (by omega)
  have f3 := hb3.frozen (size + top)
  have k3 := hg3.cell (i := 1) (by omega)
  have hb4 := hb3.set (size + top) (.int .i64 i)
  have hg4 := hg3.setOther (a := ⟨b, size + top, none⟩) (by simpa using hgb) (.int .i64 i)
  have c4 := hb4.cell (i := size + x) (by omega)
  have f4 := hb4.frozen (size + x)
  have k4 := hg4.cell (i := 1) (by omega)
  have hg5 := hg4.setOther (a := ⟨b, size + x, none⟩) (by simpa using hgb) (.int .i64 (-1))
  have k5 := hg5.cell (i := 0) (by omega)
  have q5 := hg5.frozen 0
  simp only [stackF, Option.map_some, em] at k3 k4 k5
  have hpos : 1 ≤ (m : Int) := by omega
  have hto : ((m : Int) - 1).toNat = m - 1 := by omega
  have hxr : 0 ≤ (x : Int) ∧ (x : Int) < (size : Int) := by omega
  have htr : 0 ≤ (top : Int) ∧ (top : Int) < (size : Int) := by omega
  have hir : 0 ≤ (i : Int) ∧ (i : Int) < (m : Int) := by omega
  have hmr : (m : Int) ≤ (size : Int) := by omega
  have hne : ((i : Int) == -1) = false := by simp
  have HS := Lib.hid hs
  clear hs hb hb3 hg3 hb4 hg4 hg5 hm em hc htc hA
  go_enter Tryd.func27, Tryd.ntmps27
  go_wp2_with (go_at_call 38; refine (place_any HS.out HP.out).mono ?_; rintro e w' ⟨rfl, rfl⟩)
  go_ret
  exact ⟨rfl, ⟨g, some b, rfl, HE, hlo, hhi, by simpa using Nat.le_trans hsz HC.size, fun b' e => by injection e with e; omega⟩, HC⟩
theorem drop_no {w : World} {lo hi size : Nat} {v : Value} {l : List Nat} (h : StackIn w lo hi v size l) {x : Int} (hx : placeI l x = -1) : Calls Tryd.prog 27 #[v, .int .i64 x] w fun e w' => e = .returned (.bool false) ∧ w = w' := by
  obtain ⟨g, A, rfl, hs, _⟩ := h
  have HP := Lib.hid hx
  clear hx
  go_enter Tryd.func27, Tryd.ntmps27
  go_wp2_with (go_at_call 38; refine (place_any hs HP.out).mono ?_; rintro e w' ⟨rfl, rfl⟩)
  go_ret
  exact ⟨rfl, rfl⟩
theorem drop_nil (x : Int) (w : World) : Calls Tryd.prog 27 #[.pointer none, .int .i64 x] w fun e w' => e = .returned (.bool false) ∧ w = w' := by
  go_enter Tryd.func27, Tryd.ntmps27
  go_wp2_with (go_at_call 38; refine (place_nil _ _).mono ?_; rintro e w' ⟨rfl, rfl⟩)
  go_ret
  exact ⟨rfl, rfl⟩
def dropB (l : List Nat) (x : Int) : Bool := decide (0 ≤ x) && decide (x.toNat ∈ l)
def dropI (l : List Nat) (x : Int) : List Nat := if dropB l x = true then dropL l x.toNat else l
theorem dropB_nat (l : List Nat) (x : Nat) : dropB l (x : Int) = decide (x ∈ l) := by unfold dropB; simp
theorem dropI_nat (l : List Nat) (x : Nat) : dropI l (x : Int) = dropL l x := by
  unfold dropI
  rw [dropB_nat, Int.toNat_natCast]
  by_cases h : x ∈ l
  · rw [if_pos (by simpa using h)]
  · rw [if_neg (by simpa using h), dropL_no h]
theorem drop_at {w : World} {lo hi size : Nat} {v : Value} {l : List Nat} (h : StackIn w lo hi v size l) (x : Int) : Calls Tryd.prog 27 #[v, .int .i64 x] w (StepIn w lo hi v size (dropI l x) (.bool (dropB l x))) := by
  cases hb : dropB l x with
  | true =>
    have e : dropI l x = dropL l x.toNat := if_pos hb
    rw [e]
    unfold dropB at hb
    rw [Bool.and_eq_true] at hb
    obtain ⟨k, rfl⟩ := Int.eq_ofNat_of_zero_le (of_decide_eq_true hb.1)
    rw [Int.toNat_natCast] at hb ⊢
    exact drop_yes h (of_decide_eq_true hb.2)
  | false =>
    have e : dropI l x = l := if_neg (by rw [hb]; simp)
    rw [e]
    refine (drop_no h ?_).mono fun _ w' ⟨he, hw⟩ => by subst hw; exact ⟨he, h, Chg.refl _ _ _⟩
    unfold placeI
    split
    · rename_i h0
      refine placeV_no fun hm => ?_
      unfold dropB at hb
      rw [decide_eq_true h0, decide_eq_true hm] at hb
      cases hb
    · rfl

end Go.Proofs.YtgooajgoofojmaaDoor
