/- Layer 17 (free): how an index lies in memory (a stack, a set, and the two pointers to them), and what Len, Peek, Pick, Give, Take return: contracts. -/
import Derived.Test.YtgooajgoofojmaaDoorFreeStPut
import Derived.Test.YtgooajgoofojmaaDoorFreeBtNew
import Derived.Test.YtgooajgoofojmaaDoorBaseFrom
namespace Go.Proofs.YtgooajgoofojmaaDoor
open Go.RowKit

/-! ### the chunks of a list, as a set -/
def inL (l : List Nat) : Nat → Bool := fun i => decide (i ∈ l)
theorem inL_push (l : List Nat) (k : Nat) (j : Nat) : upd (inL l) k true j = inL (l ++ [k]) j := by
  unfold upd inL
  by_cases e : j = k
  · subst e; simp
  · simp [e]
theorem mem_dropL {l : List Nat} {k y : Nat} (hn : l.Nodup) (hk : k ∈ l) : y ∈ dropL l k ↔ y ∈ l ∧ y ≠ k := by
  obtain ⟨i, _, _, hp⟩ := placeV_mem hk
  have h := placeV_drop hn hp y
  have h1 := placeV_neg_iff (l := dropL l k) (x := y)
  have h2 := placeV_neg_iff (l := l) (x := y)
  by_cases e : y = k
  · rw [if_pos e] at h
    exact ⟨fun hm => absurd hm (h1.1 h), fun hm => absurd e hm.2⟩
  · rw [if_neg e] at h
    by_cases et : y = topV l
    · rw [if_pos et] at h
      have hl : y ∈ l := by rw [et]; exact topV_mem (List.length_pos_iff.2 fun h0 => by rw [h0] at hk; cases hk)
      refine ⟨fun _ => ⟨hl, e⟩, fun _ => ?_⟩
      refine Decidable.byContradiction fun hno => ?_
      have := h1.2 hno
      omega
    · rw [if_neg et] at h
      rw [h, h2] at h1
      refine ⟨fun hm => ⟨Decidable.byContradiction fun hno => h1.1 hno hm, e⟩, fun hm => Decidable.byContradiction fun hno => h1.2 hno hm.1⟩
theorem inL_drop {l : List Nat} {k : Nat} (hn : l.Nodup) (hk : k ∈ l) (j : Nat) : upd (inL l) k false j = inL (dropL l k) j := by
  have h := mem_dropL (y := j) hn hk
  unfold upd inL
  by_cases e : j = k
  · rw [if_pos e, eq_comm, decide_eq_false]
    exact fun hm => (h.1 hm).2 e
  · rw [if_neg e]
    by_cases hm : j ∈ l
    · rw [decide_eq_true hm, decide_eq_true (h.2 ⟨hm, e⟩)]
    · rw [decide_eq_false hm, decide_eq_false fun h3 => hm (h.1 h3).1]

/-! ### a set in a part of memory -/
/-- The set f of that size lies in [lo, hi). -/
def SetIn (w : World) (lo hi : Nat) (v : Value) (size : Nat) (f : Nat → Bool) : Prop := ∃ g A, v = .pointer (some ⟨g, 0, none⟩) ∧ SetAt w g A size f ∧ lo ≤ g ∧ g < hi ∧ hi ≤ w.heap.size ∧ ∀ b, A = some b → lo ≤ b.block ∧ b.block < hi
theorem SetIn.chg {lo hi lo' hi' size : Nat} {w w' : World} {v : Value} {f : Nat → Bool} (h : SetIn w lo hi v size f) (hc : Chg lo' hi' w w') (hd : hi ≤ lo' ∨ hi' ≤ lo ∨ hi' ≤ lo') : SetIn w' lo hi v size f := by
  obtain ⟨g, A, e, hs, h1, h2, h3, h4⟩ := h
  refine ⟨g, A, e, hs.keep (hc.block g hs.lt (by omega)) (fun b eb hl => hc.block b hl ?_), h1, h2, Nat.le_trans h3 hc.size, h4⟩
  have := h4 _ eb
  simp only at this
  omega
theorem SetIn.congr {lo hi size : Nat} {w : World} {v : Value} {f f' : Nat → Bool} (h : SetIn w lo hi v size f) (e : ∀ j, f j = f' j) : SetIn w lo hi v size f' := by
  have : f = f' := funext e
  subst this; exact h
theorem SetIn.step {lo hi size : Nat} {w w' : World} {g : Nat} {A : Option Addr} {f : Nat → Bool} (hs : SetAt w' g A size f) (h1 : lo ≤ g) (h2 : g < hi) (h3 : hi ≤ w.heap.size) (h4 : ∀ b, A = some b → lo ≤ b.block ∧ b.block < hi) (hg : w.grownBy w' (rowOf A)) :
    SetIn w' lo hi (.pointer (some ⟨g, 0, none⟩)) size f ∧ Chg lo hi w w' := by
  have hc : Chg lo hi w w' := Chg.of_grown hg fun k e => by
    unfold rowOf at e
    cases A with
    | none => cases e
    | some a => injection e with e; rw [← e]; exact h4 a rfl
  exact ⟨⟨g, A, rfl, hs, h1, h2, Nat.le_trans h3 hc.size, h4⟩, hc⟩
theorem bput_in {w : World} {lo hi size i : Nat} {v : Value} {f : Nat → Bool} (h : SetIn w lo hi v size f) (h1 : i < size) (h2 : f i = false) : Calls Tryd.prog 31 #[v, .int .i64 i] w fun e w' => e = .returned (.bool true) ∧ SetIn w' lo hi v size (upd f i true) ∧ Chg lo hi w w' := by
  obtain ⟨g, A, rfl, hs, k1, k2, k3, k4⟩ := h
  exact (put_yes hs h1 h2).mono fun _ _ ⟨e, hs', hg⟩ => ⟨e, SetIn.step hs' k1 k2 k3 k4 hg⟩
theorem bdrop_in {w : World} {lo hi size i : Nat} {v : Value} {f : Nat → Bool} (h : SetIn w lo hi v size f) (h1 : i < size) (h2 : f i = true) : Calls Tryd.prog 28 #[v, .int .i64 i] w fun e w' => e = .returned (.bool true) ∧ SetIn w' lo hi v size (upd f i false) ∧ Chg lo hi w w' := by
  obtain ⟨g, A, rfl, hs, k1, k2, k3, k4⟩ := h
  exact (bdrop_yes hs h1 h2).mono fun _ _ ⟨e, hs', hg⟩ => ⟨e, SetIn.step hs' k1 k2 k3 k4 hg⟩
def BNew (w : World) (size : Nat) (e : Ending) (w' : World) : Prop := ∃ g, e = .returned (.pointer (some ⟨g, 0, none⟩)) ∧ SetIn w' w.heap.size w'.heap.size (.pointer (some ⟨g, 0, none⟩)) size none_ ∧ Below w.heap.size w w'
theorem bnew_in {w : World} {n : Nat} (h : n ≤ 1048576) : Calls Tryd.prog 23 #[.int .i64 n] w (BNew w n) :=
  (new_any n w h).mono fun _ _ ⟨g, b, e, h1, h2, _, h4, h5, h6⟩ => ⟨g, e, ⟨g, _, rfl, h4, h1, h4.lt, Nat.le_refl _, fun b' eb => by injection eb with eb; rw [← eb]; exact ⟨h2, h6.lt⟩⟩, h5⟩

/-! ### an index in memory -/
def idxF (vs vt : Value) : Nat → Value
  | 0 => vs
  | _ => vt
/-- The index of n chunks of which those of l are free, its top last, lies in [lo, hi). -/
structure IndexAt (w : World) (lo hi a b q : Nat) (vs vt : Value) (n : Nat) (l : List Nat) : Prop where
  head : w.rowIs q 48 2 (idxF vs vt)
  stack : StackIn w lo a vs n l
  set : SetIn w a b vt n (inL l)
  loq : b ≤ q
  qhi : q < hi
  hiw : hi ≤ w.heap.size
theorem IndexAt.le {w : World} {lo hi a b q n : Nat} {vs vt : Value} {l : List Nat} (h : IndexAt w lo hi a b q vs vt n l) : lo ≤ a ∧ a ≤ b := by
  obtain ⟨_, _, _, _, h1, h2, _⟩ := h.stack
  obtain ⟨_, _, _, _, h3, h4, _⟩ := h.set
  omega
def FreeIn (w : World) (lo hi : Nat) (v : Value) (n : Nat) (l : List Nat) : Prop := ∃ a b q g t, v = .pointer (some ⟨q, 0, none⟩) ∧ IndexAt w lo hi a b q (.pointer (some ⟨g, 0, none⟩)) (.pointer (some ⟨t, 0, none⟩)) n l
theorem FreeIn.of {w : World} {lo hi a b q n : Nat} {vs vt : Value} {l : List Nat} (h : IndexAt w lo hi a b q vs vt n l) : FreeIn w lo hi (.pointer (some ⟨q, 0, none⟩)) n l := by
  obtain ⟨g, A, e, hs⟩ := h.stack
  obtain ⟨t, B, e', ht⟩ := h.set
  subst e e'
  exact ⟨a, b, q, g, t, rfl, h⟩
theorem IndexAt.chg {lo hi lo' hi' a b q n : Nat} {vs vt : Value} {w w' : World} {l : List Nat} (h : IndexAt w lo hi a b q vs vt n l) (hc : Chg lo' hi' w w') (hd : hi ≤ lo' ∨ hi' ≤ lo ∨ hi' ≤ lo') : IndexAt w' lo hi a b q vs vt n l := by
  have h1 := h.le
  have h2 := h.loq
  have h3 := h.qhi
  exact ⟨h.head.of_block (hc.block q h.head.lt (by omega)), h.stack.chg hc (by omega), h.set.chg hc (by omega), h2, h3, Nat.le_trans h.hiw hc.size⟩
theorem FreeIn.chg {lo hi lo' hi' n : Nat} {v : Value} {w w' : World} {l : List Nat} (h : FreeIn w lo hi v n l) (hc : Chg lo' hi' w w') (hd : hi ≤ lo' ∨ hi' ≤ lo ∨ hi' ≤ lo') : FreeIn w' lo hi v n l := by
  obtain ⟨a, b, q, g, t, e, h⟩ := h
  exact ⟨a, b, q, g, t, e, h.chg hc hd⟩
theorem FreeIn.drewN {lo hi n : Nat} {v : Value} {w : World} {l : List Nat} (h : FreeIn w lo hi v n l) (m : Nat) : FreeIn (w.drewN m) lo hi v n l := h.chg (Chg.drewN 0 0 w m) (by omega)
theorem FreeIn.below {lo hi n : Nat} {v : Value} {w w' : World} {l : List Nat} (h : FreeIn w lo hi v n l) (hb : Below w.heap.size w w') : FreeIn w' lo hi v n l := h.chg (Chg.of_below (lo := 0) (hi := 0) hb) (by omega)
theorem FreeIn.small {lo hi n : Nat} {v : Value} {w : World} {l : List Nat} (h : FreeIn w lo hi v n l) : n ≤ 1048576 ∧ l.length ≤ n ∧ l.Nodup ∧ ∀ x ∈ l, x < n := by
  obtain ⟨a, b, q, g, t, e, h⟩ := h
  exact h.stack.small
theorem FreeIn.like {lo hi n : Nat} {v : Value} {w : World} {l l' : List Nat} (h : FreeIn w lo hi v n l) (e : l = l') : FreeIn w lo hi v n l' := by subst e; exact h
theorem FreeIn.hiw {lo hi n : Nat} {v : Value} {w : World} {l : List Nat} (h : FreeIn w lo hi v n l) : hi ≤ w.heap.size := by
  obtain ⟨a, b, q, g, t, e, h⟩ := h
  exact h.hiw
def FStep (w : World) (lo hi : Nat) (v : Value) (n : Nat) (l : List Nat) (r : Value) (e : Ending) (w' : World) : Prop := e = .returned r ∧ FreeIn w' lo hi v n l ∧ Chg lo hi w w'

/-! ### Len, Peek -/
theorem flen_is {w : World} {lo hi n m : Nat} {v : Value} {l : List Nat} (h : FreeIn w lo hi v n l) (hm : l.length = m) : Calls Tryd.prog 17 #[v] w fun e w' => e = .returned (.int .i64 m) ∧ w = w' := by
  obtain ⟨a, b, q, g, t, rfl, h⟩ := h
  have h0 : w.cell? ⟨q, 0, none⟩ = some (.pointer (some ⟨g, 0, none⟩)) := h.head.cell (i := 0) (by omega)
  have HS := Lib.hid h.stack
  have HM := Lib.hid hm
  clear h hm
  go_enter Tryd.func17, Tryd.ntmps17
  go_wp2_with (go_at_call 33; refine (len_is HS.out HM.out).mono ?_; rintro e w' ⟨rfl, rfl⟩)
  go_ret
  exact ⟨rfl, rfl⟩
theorem peek_at {w : World} {lo hi n : Nat} {v : Value} {l : List Nat} (h : FreeIn w lo hi v n l) {t : Nat} {r : Bool} (et : topV l = t) (er : someB l = r) : Calls Tryd.prog 16 #[v] w fun e w' => e = .returned (.tuple #[.int .i64 t, .bool r]) ∧ ∃ m, w' = w.drewN m := by
  subst et er
  obtain ⟨a, b, q, g, t, rfl, h⟩ := h
  have h0 : w.cell? ⟨q, 0, none⟩ = some (.pointer (some ⟨g, 0, none⟩)) := h.head.cell (i := 0) (by omega)
  have HT := Lib.hid (top_at h.stack)
  generalize topV l = top at *
  generalize someB l = some at *
  clear h
  go_enter Tryd.func16, Tryd.ntmps16
  go_wp2_with (go_at_call 32; refine HT.out.mono ?_; rintro e w' ⟨rfl, m, rfl⟩)
  go_ret2
  exact ⟨rfl, m, rfl⟩

/-! ### Pick, Give, Take -/
theorem pick_yes {w : World} {lo hi n k : Nat} {v : Value} {l : List Nat} (h : FreeIn w lo hi v n l) (hk : k ∈ l) : Calls Tryd.prog 13 #[v, .int .i64 k] w (FStep w lo hi v n (dropL l k) (.bool true)) := by
  obtain ⟨a, b, q, g, t, rfl, h⟩ := h
  have hnot := not_any
  have h0 : w.cell? ⟨q, 0, none⟩ = some (.pointer (some ⟨g, 0, none⟩)) := h.head.cell (i := 0) (by omega)
  have hle := h.le
  have HN : Hid (k < n ∧ inL l k = true) := ⟨h.stack.small.2.2.2 k hk, decide_eq_true hk⟩
  have HE : Hid (∀ j, upd (inL l) k false j = inL (dropL l k) j) := fun j => inL_drop h.stack.small.2.2.1 hk j
  have HC := Lib.hid (drop_yes h.stack hk)
  have HI := Lib.hid h
  clear h hk
  generalize dropL l k = d at *
  go_enter Tryd.func13, Tryd.ntmps13
  go_wp2_with fail
  refine HC.out.mono ?_
  rintro e w1 ⟨rfl, s1, c1⟩
  have s1' := HI.out.set.chg c1 (by omega)
  have r1 := HI.out.head.of_block (c1.block q HI.out.head.lt (by have := HI.out.loq; omega))
  have h1 : w1.cell? ⟨q, 1, none⟩ = some (.pointer (some ⟨t, 0, none⟩)) := r1.cell (i := 1) (by omega)
  have HS1 := Lib.hid s1
  have HT1 := Lib.hid s1'
  have HR1 := Lib.hid r1
  have HC1 := Lib.hid c1
  clear s1 s1' r1 c1
  go_wp2_with fail
  refine (bdrop_in HT1.out HN.out.1 HN.out.2).mono ?_
  rintro e w2 ⟨rfl, s2, c2⟩
  go_wp2
  go_ret
  refine ⟨rfl, FreeIn.of ⟨HR1.out.of_block (c2.block q HR1.out.lt (by have := HI.out.loq; omega)), HS1.out.chg c2 (by omega), s2.congr HE.out, HI.out.loq, HI.out.qhi, Nat.le_trans HI.out.hiw (Nat.le_trans HC1.out.size c2.size)⟩, ?_⟩
  have := HI.out.loq
  have := HI.out.qhi
  exact (HC1.out.mono (Nat.le_refl _) (by omega)).trans (c2.mono (by omega) (by omega))
theorem pick_no {w : World} {lo hi n : Nat} {v : Value} {l : List Nat} (h : FreeIn w lo hi v n l) {x : Int} (hx : placeI l x = -1) : Calls Tryd.prog 13 #[v, .int .i64 x] w fun e w' => e = .returned (.bool false) ∧ w = w' := by
  obtain ⟨a, b, q, g, t, rfl, h⟩ := h
  have hnot := not_any
  have h0 : w.cell? ⟨q, 0, none⟩ = some (.pointer (some ⟨g, 0, none⟩)) := h.head.cell (i := 0) (by omega)
  have HC := Lib.hid (drop_no h.stack hx)
  clear h hx
  go_enter Tryd.func13, Tryd.ntmps13
  go_wp2_with (go_at_call 27; refine HC.out.mono ?_; rintro e w1 ⟨rfl, rfl⟩)
  go_ret
  exact ⟨rfl, rfl⟩
theorem dropB_place {l : List Nat} {x : Int} (h : dropB l x = false) : placeI l x = -1 := by
  unfold placeI
  split
  · rename_i h0
    refine placeV_no fun hm => ?_
    unfold dropB at h
    rw [decide_eq_true h0, decide_eq_true hm] at h
    cases h
  · rfl
theorem pick_at {w : World} {lo hi n : Nat} {v : Value} {l l' : List Nat} (h : FreeIn w lo hi v n l) (x : Int) {r : Bool} (el : dropI l x = l') (er : dropB l x = r) : Calls Tryd.prog 13 #[v, .int .i64 x] w (FStep w lo hi v n l' (.bool r)) := by
  subst el er
  cases hb : dropB l x with
  | true =>
    have e : dropI l x = dropL l x.toNat := if_pos hb
    rw [e]
    unfold dropB at hb
    rw [Bool.and_eq_true] at hb
    obtain ⟨k, rfl⟩ := Int.eq_ofNat_of_zero_le (of_decide_eq_true hb.1)
    rw [Int.toNat_natCast] at hb ⊢
    exact pick_yes h (of_decide_eq_true hb.2)
  | false =>
    have e : dropI l x = l := if_neg (by rw [hb]; simp)
    rw [e]
    exact (pick_no h (dropB_place hb)).mono fun _ w' ⟨he, hw⟩ => by subst hw; exact ⟨he, h, Chg.refl _ _ _⟩
theorem give_yes {w : World} {lo hi n k : Nat} {v : Value} {l : List Nat} (h : FreeIn w lo hi v n l) (hk : k < n) (hm : k ∉ l) : Calls Tryd.prog 15 #[v, .int .i64 k] w (FStep w lo hi v n (l ++ [k]) (.bool true)) := by
  obtain ⟨a, b, q, g, t, rfl, h⟩ := h
  have hnot := not_any
  have h0 : w.cell? ⟨q, 0, none⟩ = some (.pointer (some ⟨g, 0, none⟩)) := h.head.cell (i := 0) (by omega)
  have hle := h.le
  have HN : Hid (k < n ∧ inL l k = false) := ⟨hk, decide_eq_false hm⟩
  have HE : Hid (∀ j, upd (inL l) k true j = inL (l ++ [k]) j) := fun j => inL_push l k j
  have HC := Lib.hid (push_yes h.stack hk hm)
  have HI := Lib.hid h
  clear h hk hm
  generalize l ++ [k] = d at *
  go_enter Tryd.func15, Tryd.ntmps15
  go_wp2_with fail
  refine HC.out.mono ?_
  rintro e w1 ⟨rfl, s1, c1⟩
  have s1' := HI.out.set.chg c1 (by omega)
  have r1 := HI.out.head.of_block (c1.block q HI.out.head.lt (by have := HI.out.loq; omega))
  have h1 : w1.cell? ⟨q, 1, none⟩ = some (.pointer (some ⟨t, 0, none⟩)) := r1.cell (i := 1) (by omega)
  have HS1 := Lib.hid s1
  have HT1 := Lib.hid s1'
  have HR1 := Lib.hid r1
  have HC1 := Lib.hid c1
  clear s1 s1' r1 c1
  go_wp2_with fail
  refine (bput_in HT1.out HN.out.1 HN.out.2).mono ?_
  rintro e w2 ⟨rfl, s2, c2⟩
  go_wp2
  go_ret
  refine ⟨rfl, FreeIn.of ⟨HR1.out.of_block (c2.block q HR1.out.lt (by have := HI.out.loq; omega)), HS1.out.chg c2 (by omega), s2.congr HE.out, HI.out.loq, HI.out.qhi, Nat.le_trans HI.out.hiw (Nat.le_trans HC1.out.size c2.size)⟩, ?_⟩
  have := HI.out.loq
  have := HI.out.qhi
  exact (HC1.out.mono (Nat.le_refl _) (by omega)).trans (c2.mono (by omega) (by omega))
theorem give_no {w : World} {lo hi n : Nat} {v : Value} {l : List Nat} (h : FreeIn w lo hi v n l) {x : Int} (hx : pushB n l x = false) : Calls Tryd.prog 15 #[v, .int .i64 x] w fun e w' => e = .returned (.bool false) ∧ w = w' := by
  obtain ⟨a, b, q, g, t, rfl, h⟩ := h
  have hnot := not_any
  have h0 : w.cell? ⟨q, 0, none⟩ = some (.pointer (some ⟨g, 0, none⟩)) := h.head.cell (i := 0) (by omega)
  have HC := Lib.hid (push_no h.stack hx)
  clear h hx
  go_enter Tryd.func15, Tryd.ntmps15
  go_wp2_with (go_at_call 30; refine HC.out.mono ?_; rintro e w1 ⟨rfl, rfl⟩)
  go_ret
  exact ⟨rfl, rfl⟩
theorem give_at {w : World} {lo hi n : Nat} {v : Value} {l l' : List Nat} (h : FreeIn w lo hi v n l) (x : Int) {r : Bool} (el : pushL n l x = l') (er : pushB n l x = r) : Calls Tryd.prog 15 #[v, .int .i64 x] w (FStep w lo hi v n l' (.bool r)) := by
  subst el er
  cases hb : pushB n l x with
  | true =>
    have e : pushL n l x = l ++ [x.toNat] := if_pos hb
    rw [e]
    unfold pushB at hb
    rw [Bool.and_eq_true] at hb
    have h1 := of_decide_eq_true hb.1
    obtain ⟨k, rfl⟩ := Int.eq_ofNat_of_zero_le h1.1
    rw [Int.toNat_natCast] at hb ⊢
    refine give_yes h (by omega) ?_
    have := hb.2
    simpa using this
  | false =>
    have e : pushL n l x = l := if_neg (by rw [hb]; simp)
    rw [e]
    exact (give_no h hb).mono fun _ w' ⟨he, hw⟩ => by subst hw; exact ⟨he, h, Chg.refl _ _ _⟩
theorem take_at {w : World} {lo hi n : Nat} {v : Value} {l l' : List Nat} (h : FreeIn w lo hi v n l) {t : Nat} {r : Bool} (el : l.dropLast = l') (et : topV l = t) (er : someB l = r) : Calls Tryd.prog 11 #[v] w (FStep w lo hi v n l' (.tuple #[.int .i64 t, .bool r])) := by
  subst el
  have HP := Lib.hid (peek_at h et er)
  cases r with
  | false =>
    have h0 : l = [] := by
      cases l with
      | nil => rfl
      | cons _ _ => cases er
    subst h0
    clear et er
    go_enter Tryd.func11, Tryd.ntmps11
    go_wp2_with (go_at_call 16; refine HP.out.mono ?_; rintro e w1 ⟨rfl, m, rfl⟩)
    go_ret2
    exact ⟨rfl, h.drewN m, Chg.drewN _ _ _ _⟩
  | true =>
    have hl : 0 < l.length := by
      cases l with
      | nil => cases er
      | cons _ _ => simp
    have HE : Hid (dropL l t = l.dropLast) := by show _ = _; rw [← et]; exact dropL_top h.small.2.2.1 hl
    have HT : Hid (t ∈ l) := by show _ ∈ _; rw [← et]; exact topV_mem hl
    clear et er hl
    go_enter Tryd.func11, Tryd.ntmps11
    go_wp2_with (go_at_call 16; refine HP.out.mono ?_; rintro e w1 ⟨rfl, m, rfl⟩)
    go_wp2_with (go_at_call 13; refine (pick_yes (h.drewN m) HT.out).mono ?_; rintro e w2 ⟨rfl, s2, c2⟩)
    go_ret2
    exact ⟨rfl, s2.like HE.out, (Chg.drewN _ _ _ _).trans c2⟩
end Go.Proofs.YtgooajgoofojmaaDoor
