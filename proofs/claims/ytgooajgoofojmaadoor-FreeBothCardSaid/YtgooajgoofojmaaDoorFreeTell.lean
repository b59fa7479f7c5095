/- Layer 17 (free): what Has, Order, List return; what a nil index and a zero one tell: contracts. -/
import Derived.Test.YtgooajgoofojmaaDoorFreeNew
import Derived.Test.YtgooajgoofojmaaDoorFreeBtList
import Derived.Test.YtgooajgoofojmaaDoorFreeStList
import Derived.Test.YtgooajgoofojmaaDoorBaseList
namespace Go.Proofs.YtgooajgoofojmaaDoor
open Go.RowKit

/-! ### Has -/
theorem bhas_in {w : World} {lo hi size : Nat} {v : Value} {f : Nat → Bool} (h : SetIn w lo hi v size f) (x : Int) {r : Bool} (hr : (decide (0 ≤ x ∧ x < size) && f x.toNat) = r) : Calls Tryd.prog 24 #[v, .int .i64 x] w fun e w' => e = .returned (.bool r) ∧ ∃ n, w' = w.drewN n := by
  subst hr
  obtain ⟨g, A, rfl, hs, _⟩ := h
  by_cases hi : 0 ≤ x ∧ x < size
  · obtain ⟨k, rfl⟩ := Int.eq_ofNat_of_zero_le hi.1
    rw [decide_eq_true hi, Bool.true_and, Int.toNat_natCast]
    exact has_in hs (by omega)
  · rw [decide_eq_false hi, Bool.false_and]
    exact has_out hs hi
theorem inL_has {l : List Nat} {n : Nat} (h : ∀ x ∈ l, x < n) (x : Int) : (decide (0 ≤ x ∧ x < n) && inL l x.toNat) = dropB l x := by
  unfold inL dropB
  by_cases h0 : 0 ≤ x
  · obtain ⟨k, rfl⟩ := Int.eq_ofNat_of_zero_le h0
    rw [Int.toNat_natCast, decide_eq_true h0, Bool.true_and]
    by_cases hm : k ∈ l
    · have := h k hm
      simp [hm, this]
    · rw [decide_eq_false hm, Bool.and_false]
  · simp [show ¬ 0 ≤ x from h0]
theorem fhas_at {w : World} {lo hi n : Nat} {v : Value} {l : List Nat} (h : FreeIn w lo hi v n l) (x : Int) {r : Bool} (er : dropB l x = r) : Calls Tryd.prog 8 #[v, .int .i64 x] w fun e w' => e = .returned (.bool r) ∧ ∃ m, w' = w.drewN m := by
  obtain ⟨a, b, q, g, t, rfl, h⟩ := h
  have h0 : w.cell? ⟨q, 1, none⟩ = some (.pointer (some ⟨t, 0, none⟩)) := h.head.cell (i := 1) (by omega)
  have HC := Lib.hid (bhas_in h.set x ((inL_has h.stack.small.2.2.2 x).trans er))
  clear h er
  go_enter Tryd.func8, Tryd.ntmps8
  go_wp2_with (go_at_call 24; refine HC.out.mono ?_; rintro e w1 ⟨rfl, m, rfl⟩)
  go_ret
  exact ⟨rfl, m, rfl⟩

/-! ### Order, List -/
def FListed (w : World) (l : List Nat) (e : Ending) (w' : World) : Prop := ∃ u, e = .returned u ∧ ListAt w' w.heap.size u l ∧ Below w.heap.size w w'
theorem listed_of {w : World} {l : List Nat} {e : Ending} {w' : World} (h : ListIn w l e w') : FListed w l e w' := by
  obtain ⟨b, e, hr, hb, hbl⟩ := h
  refine ⟨_, e, ⟨_, _, rfl, Nat.le_refl _, (ints_row (lo := 0) hr (fun _ _ => rfl) (Nat.zero_le _)).1, fun b' off eb => ?_⟩, hbl⟩
  injection eb with eb
  injection eb with eb
  omega
theorem order_at {w : World} {lo hi n : Nat} {v : Value} {l : List Nat} (h : FreeIn w lo hi v n l) : Calls Tryd.prog 19 #[v] w (FListed w l) := by
  obtain ⟨a, b, q, g, t, rfl, h⟩ := h
  have h0 : w.cell? ⟨q, 0, none⟩ = some (.pointer (some ⟨g, 0, none⟩)) := h.head.cell (i := 0) (by omega)
  have HC := Lib.hid ((list_at h.stack).mono fun _ _ he => listed_of he)
  clear h
  go_enter Tryd.func19, Tryd.ntmps19
  go_wp2_with (go_at_call 34; refine HC.out.mono ?_; rintro e w1 ⟨u, rfl, lu, bu⟩)
  go_ret
  exact ⟨u, rfl, lu, bu⟩
def FList (w : World) (lo hi : Nat) (v : Value) (n : Nat) (l : List Nat) (e : Ending) (w' : World) : Prop := ∃ u, e = .returned u ∧ ListAt w' w.heap.size u (listV (inL l) n) ∧ FreeIn w' lo hi v n l ∧ Chg lo hi w w'
theorem flist_at {w : World} {lo hi n : Nat} {v : Value} {l : List Nat} (h : FreeIn w lo hi v n l) (hT : TabOk w) (htl : 0 < lo) : Calls Tryd.prog 20 #[v] w (FList w lo hi v n l) := by
  obtain ⟨a, b, q, g, t, rfl, h⟩ := h
  have h0 : w.cell? ⟨q, 1, none⟩ = some (.pointer (some ⟨t, 0, none⟩)) := h.head.cell (i := 1) (by omega)
  have hle := h.le
  have hst := h.set
  obtain ⟨t', A, et, hs, k1, k2, k3, k4⟩ := hst
  injection et with et
  injection et with et
  injection et with et
  subst et
  have HC := Lib.hid (list_any hs hT (by omega))
  have HI := Lib.hid h
  have HK : Hid (a ≤ t ∧ t < b ∧ b ≤ w.heap.size ∧ ∀ b', A = some b' → a ≤ b'.block ∧ b'.block < b) := ⟨k1, k2, k3, k4⟩
  clear h hs k1 k2 k3 k4 hT
  go_enter Tryd.func20, Tryd.ntmps20
  go_wp2_with (go_at_call 35; refine HC.out.mono ?_; rintro e w1 ⟨u, rfl, ou, su, gu⟩)
  go_ret
  have hq := HI.out.loq
  have hh := HI.out.qhi
  obtain ⟨k1, k2, k3, k4⟩ := HK.out
  have cu : Chg a b w w1 := Chg.of_grown gu fun k e => by injection e with e; omega
  exact ⟨u, rfl, own_list ou (listV_length _ _).symm, FreeIn.of ⟨HI.out.head.of_block (cu.block q HI.out.head.lt (by omega)), HI.out.stack.chg cu (by omega), ⟨t, A, rfl, su, k1, k2, Nat.le_trans k3 cu.size, k4⟩, hq, hh, Nat.le_trans HI.out.hiw cu.size⟩, cu.mono (by omega) (by omega)⟩
theorem sorted_length {l : List Nat} {n : Nat} (hn : l.Nodup) (h : ∀ x ∈ l, x < n) : (listV (inL l) n).length = l.length := by
  have hm : ∀ x, x ∈ listV (inL l) n ↔ x ∈ l := fun x => by
    unfold listV inL
    rw [List.mem_filter, List.mem_range]
    exact ⟨fun hx => of_decide_eq_true hx.2, fun hx => ⟨h x hx, decide_eq_true hx⟩⟩
  have hn' : (listV (inL l) n).Nodup := List.Pairwise.filter _ List.nodup_range
  exact ((List.perm_ext_iff_of_nodup hn' hn).2 hm).length_eq

/-! ### of a nil index, and a zero one -/
theorem take_nil (w : World) : Calls Tryd.prog 11 #[.pointer none] w fun e w' => e = .returned (.tuple #[.int .i64 0, .bool false]) ∧ w = w' := by
  have hp : Calls Tryd.prog 16 #[.pointer none] w fun e w' => e = .returned (.tuple #[.int .i64 0, .bool false]) ∧ w = w' := by
    go_enter Tryd.func16, Tryd.ntmps16
    go_wp2
    go_ret2
    exact ⟨rfl, rfl⟩
  have HP := Lib.hid hp
  clear hp
  go_enter Tryd.func11, Tryd.ntmps11
  go_wp2_with (go_at_call 16; refine HP.out.mono ?_; rintro e w1 ⟨rfl, rfl⟩)
  go_ret2
  exact ⟨rfl, rfl⟩
theorem give_nil (x : Int) (w : World) : Calls Tryd.prog 15 #[.pointer none, .int .i64 x] w fun e w' => e = .returned (.bool false) ∧ w = w' := by
  go_enter Tryd.func15, Tryd.ntmps15
  go_wp2
  go_ret
  exact ⟨rfl, rfl⟩
theorem fhas_nil (x : Int) (w : World) : Calls Tryd.prog 8 #[.pointer none, .int .i64 x] w fun e w' => e = .returned (.bool false) ∧ ∃ m, w' = w.drewN m := by
  go_enter Tryd.func8, Tryd.ntmps8
  go_wp2
  go_ret
  exact ⟨rfl, 0, rfl⟩
theorem flen_nil (w : World) : Calls Tryd.prog 17 #[.pointer none] w fun e w' => e = .returned (.int .i64 0) ∧ w = w' := by
  go_enter Tryd.func17, Tryd.ntmps17
  go_wp2
  go_ret
  exact ⟨rfl, rfl⟩
theorem flist_nil (w : World) : Calls Tryd.prog 20 #[.pointer none] w fun e w' => e = .returned (.slice none 0 0) ∧ w = w' := by
  go_enter Tryd.func20, Tryd.ntmps20
  go_wp2
  go_ret
  exact ⟨rfl, rfl⟩
theorem zero_idx (w : World) : ∀ W, Below (w.heap.size + 1) (w.alloc (.cells #[.pointer none, .pointer none] 48)) W → W.cell? ⟨w.heap.size, 0, none⟩ = some (.pointer none) := fun W hW => by
  have h := World.rowIs_alloc w #[.pointer none, .pointer none] 48 (idxF (.pointer none) (.pointer none)) (by
    intro i hi
    match i, hi with
    | 0, _ => rfl
    | 1, _ => rfl)
  have h0 := h.cell (i := 0) (by simp)
  exact (hW.cell (p := ⟨w.heap.size, 0, none⟩) (by simp)).trans h0
theorem zpeek {w : World} {q : Nat} (h : w.cell? ⟨q, 0, none⟩ = some (.pointer none)) : Calls Tryd.prog 16 #[.pointer (some ⟨q, 0, none⟩)] w fun e w' => e = .returned (.tuple #[.int .i64 0, .bool false]) ∧ w = w' := by
  go_enter Tryd.func16, Tryd.ntmps16
  go_wp2_with (go_at_call 32; refine (top_nil _).mono ?_; rintro e w1 ⟨rfl, rfl⟩)
  go_ret2
  exact ⟨rfl, rfl⟩
theorem zpick {w : World} {q : Nat} (h : w.cell? ⟨q, 0, none⟩ = some (.pointer none)) (x : Int) : Calls Tryd.prog 13 #[.pointer (some ⟨q, 0, none⟩), .int .i64 x] w fun e w' => e = .returned (.bool false) ∧ w = w' := by
  have hnot := not_any
  go_enter Tryd.func13, Tryd.ntmps13
  go_wp2_with (go_at_call 27; refine (drop_nil _ _).mono ?_; rintro e w1 ⟨rfl, rfl⟩)
  go_ret
  exact ⟨rfl, rfl⟩
theorem zlen {w : World} {q : Nat} (h : w.cell? ⟨q, 0, none⟩ = some (.pointer none)) : Calls Tryd.prog 17 #[.pointer (some ⟨q, 0, none⟩)] w fun e w' => e = .returned (.int .i64 0) ∧ w = w' := by
  go_enter Tryd.func17, Tryd.ntmps17
  go_wp2_with (go_at_call 33; refine (len_nil _).mono ?_; rintro e w1 ⟨rfl, rfl⟩)
  go_ret
  exact ⟨rfl, rfl⟩
theorem zorder {w : World} {q : Nat} (h : w.cell? ⟨q, 0, none⟩ = some (.pointer none)) : Calls Tryd.prog 19 #[.pointer (some ⟨q, 0, none⟩)] w (FListed w []) := by
  go_enter Tryd.func19, Tryd.ntmps19
  go_wp2_with (go_at_call 34; refine (list_nil _).mono ?_; rintro e w1 he; obtain ⟨u, rfl, lu, bu⟩ := listed_of he)
  go_ret
  exact ⟨u, rfl, lu, bu⟩
end Go.Proofs.YtgooajgoofojmaaDoor
