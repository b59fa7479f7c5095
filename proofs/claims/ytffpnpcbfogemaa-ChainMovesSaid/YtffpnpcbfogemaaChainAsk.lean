/- Layer 5 (chain): what is asked of a chain: contracts of hasList, hasNode, noRow, noPlace, row, ask, Of, Next, Back, First, Last, Len. -/
import Derived.Test.YtffpnpcbfogemaaChainMem
namespace Go.Proofs.Ytffpnpcbfogemaa
open Go.RowKit
variable {w w' : World} {g : Nat} {R P : Option Nat} {L N : Nat} {F La C Pb Pn Pl : Nat → Int} {br bp : Nat}

def hasB (n : Nat) (x : Int) : Bool := decide (0 ≤ x ∧ x < n)
theorem has_list_raw (h : RawAt w g R P L N F La C Pb Pn Pl) {x : Int} {r : Bool} (hr : hasB L x = r) : Calls Try.prog 34 #[.pointer (some ⟨g, 0, none⟩), .int .i64 x] w fun e w' => e = .returned (.bool r) ∧ w = w' := by
  have h0 := h.c0
  clear h
  by_cases h1 : 0 ≤ x
  · by_cases h2 : x < (L : Int)
    · have : hasB L x = true := decide_eq_true ⟨h1, h2⟩
      rw [this] at hr
      subst hr
      clear this
      go_enter Try.func34, Try.ntmps34
      go_wp2
      go_ret
      exact ⟨rfl, rfl⟩
    · have : hasB L x = false := decide_eq_false fun h => h2 h.2
      rw [this] at hr
      subst hr
      clear this
      go_enter Try.func34, Try.ntmps34
      go_wp2
      go_ret
      exact ⟨ret_bool (by simp), rfl⟩
  · have : hasB L x = false := decide_eq_false fun h => h1 h.1
    rw [this] at hr
    subst hr
    clear this
    go_enter Try.func34, Try.ntmps34
    go_wp2
    go_ret
    exact ⟨rfl, rfl⟩
theorem has_list_nil (x : Int) (w : World) : Calls Try.prog 34 #[.pointer none, .int .i64 x] w fun e w' => e = .returned (.bool false) ∧ w = w' := by
  go_enter Try.func34, Try.ntmps34
  go_wp2
  go_ret
  exact ⟨rfl, rfl⟩
theorem has_node_raw (h : RawAt w g R P L N F La C Pb Pn Pl) {x : Int} {r : Bool} (hr : hasB N x = r) : Calls Try.prog 35 #[.pointer (some ⟨g, 0, none⟩), .int .i64 x] w fun e w' => e = .returned (.bool r) ∧ w = w' := by
  have h0 := h.c1
  clear h
  by_cases h1 : 0 ≤ x
  · by_cases h2 : x < (N : Int)
    · have : hasB N x = true := decide_eq_true ⟨h1, h2⟩
      rw [this] at hr
      subst hr
      clear this
      go_enter Try.func35, Try.ntmps35
      go_wp2
      go_ret
      exact ⟨rfl, rfl⟩
    · have : hasB N x = false := decide_eq_false fun h => h2 h.2
      rw [this] at hr
      subst hr
      clear this
      go_enter Try.func35, Try.ntmps35
      go_wp2
      go_ret
      exact ⟨ret_bool (by simp), rfl⟩
  · have : hasB N x = false := decide_eq_false fun h => h1 h.1
    rw [this] at hr
    subst hr
    clear this
    go_enter Try.func35, Try.ntmps35
    go_wp2
    go_ret
    exact ⟨rfl, rfl⟩
theorem has_node_nil (x : Int) (w : World) : Calls Try.prog 35 #[.pointer none, .int .i64 x] w fun e w' => e = .returned (.bool false) ∧ w = w' := by
  go_enter Try.func35, Try.ntmps35
  go_wp2
  go_ret
  exact ⟨rfl, rfl⟩
theorem hasB_0 (x : Int) : hasB 0 x = false := decide_eq_false (by omega)
theorem has_list {lo hi : Nat} {v : Value} {m : Nat → List Nat} (h : ChainIn w lo hi v L N m) {x : Int} {r : Bool} (hr : hasB L x = r) : Calls Try.prog 34 #[v, .int .i64 x] w fun e w' => e = .returned (.bool r) ∧ w = w' := by
  obtain ⟨_, _, ⟨rfl, rfl, rfl⟩ | ⟨g, R, P, F, La, C, Pb, Pn, Pl, rfl, k1, _⟩⟩ := h
  · rw [hasB_0] at hr; subst hr; exact has_list_nil x w
  · exact has_list_raw k1 hr
theorem has_node {lo hi : Nat} {v : Value} {m : Nat → List Nat} (h : ChainIn w lo hi v L N m) {x : Int} {r : Bool} (hr : hasB N x = r) : Calls Try.prog 35 #[v, .int .i64 x] w fun e w' => e = .returned (.bool r) ∧ w = w' := by
  obtain ⟨_, _, ⟨rfl, rfl, rfl⟩ | ⟨g, R, P, F, La, C, Pb, Pn, Pl, rfl, k1, _⟩⟩ := h
  · rw [hasB_0] at hr; subst hr; exact has_node_nil x w
  · exact has_node_raw k1 hr

/-! ### what a list has, where a node stands -/
def rowV (f l c : Int) : Value := .agg #[.int .i64 f, .int .i64 l, .int .i64 c]
theorem alloc_last (w : World) (c : Array Value) (t : TypeId) : (w.alloc (.cells c t)).heap[w.heap.size]? = some (.cells c t (0, 0)) := by
  show (w.heap.push _)[w.heap.size]? = _
  simp
theorem no_row (w : World) : Calls Try.prog 27 #[] w fun e w' => e = .returned (rowV (-1) (-1) 0) ∧ Below w.heap.size w w' := by
  go_enter Try.func27, Try.ntmps27
  go_wp2
  refine bodyPost_ret_by (results_cell_row rfl _ _ w.heap.size 54 _ (0, 0) _ rfl (alloc_last _ _ _) Try.underlying54 rfl (by kernel_rfl)) rfl ?_
  exact ⟨rfl, (Below.refl _ _).alloc (Nat.le_refl _) _⟩
theorem no_place (w : World) : Calls Try.prog 29 #[] w fun e w' => e = .returned (rowV (-1) (-1) (-1)) ∧ Below w.heap.size w w' := by
  go_enter Try.func29, Try.ntmps29
  go_wp2
  refine bodyPost_ret_by (results_cell_row rfl _ _ w.heap.size 60 _ (0, 0) _ rfl (alloc_last _ _ _) Try.underlying60 rfl (by kernel_rfl)) rfl ?_
  exact ⟨rfl, (Below.refl _ _).alloc (Nat.le_refl _) _⟩
def GivesV (w : World) (v : Value) (e : Ending) (w' : World) : Prop := e = .returned v ∧ Below w.heap.size w w'
theorem row_yes (h : RawAt w g R P L N F La C Pb Pn Pl) {i : Nat} (hi : i < L) : Calls Try.prog 38 #[.pointer (some ⟨g, 0, none⟩), .int .i64 i] w (GivesV w (rowV (F i) (La i) (C i))) := by
  obtain ⟨br, rfl, _⟩ := h.blkR (by omega)
  have b1 : Below w.heap.size w (w.alloc (.cells #[.int .i64 0, .int .i64 0, .int .i64 0] 54)) := (Below.refl _ _).alloc (Nat.le_refl _) _
  have k1 := h.below b1
  have c0 := k1.c0
  have c1 := k1.cF hi
  have c2 := k1.cL hi
  have c3 := k1.cC hi
  have hb := h.rowR.lt
  have hsm := h.small
  have HB : Hid (hasB L (i : Int) = true) := decide_eq_true (by omega)
  have hir : 0 ≤ (i : Int) ∧ (i : Int) < (L : Int) := by omega
  simp only [Option.map_some] at c0
  have hnot := not_any
  have K1 := Lib.hid k1
  clear h k1 b1
  generalize F i = f at *
  generalize La i = l at *
  generalize C i = c at *
  go_enter Try.func38, Try.ntmps38
  go_wp2_with fail
  refine (has_list_raw K1.out HB.out).mono ?_
  rintro e w' ⟨rfl, rfl⟩
  go_wp2
  refine bodyPost_ret_by (results_cell_row rfl _ _ w.heap.size 54 _ (0, 0) _ rfl (alloc_last _ _ _) Try.underlying54 rfl (by kernel_rfl)) rfl ?_
  exact ⟨rfl, (Below.refl _ _).alloc (Nat.le_refl _) _⟩
theorem row3 {w : World} {b : Nat} {t : TypeId} {f : Nat → Value} (h : w.rowIs b t 3 f) : w.heap[b]? = some (.cells #[f 0, f 1, f 2] t (0, 0)) := by
  obtain ⟨c, hb, hn, hc⟩ := h
  rw [hb]
  congr 2
  apply Array.ext
  · simpa using hn
  · intro i h1 h2
    have hi : i < 3 := by omega
    have e := hc i hi
    rw [Array.getElem?_eq_getElem h1] at e
    injection e with e
    rw [e]
    match i, hi with
    | 0, _ => rfl
    | 1, _ => rfl
    | 2, _ => rfl
theorem row_no {lo hi : Nat} {v : Value} {m : Nat → List Nat} (h : ChainIn w lo hi v L N m) {x : Int} (hx : hasB L x = false) : Calls Try.prog 38 #[v, .int .i64 x] w (GivesV w (rowV (-1) (-1) 0)) := by
  have k1 := h.alloc (.cells #[.int .i64 0, .int .i64 0, .int .i64 0] 54)
  have hnot := not_any
  clear h
  go_enter Try.func38, Try.ntmps38
  go_wp2_with fail
  refine (has_list k1 hx).mono ?_
  rintro e w' ⟨rfl, rfl⟩
  go_wp2_with fail
  refine (no_row _).mono ?_
  rintro e w2 ⟨rfl, b2⟩
  unfold rowV
  have b1 : Below w.heap.size w (w.alloc (.cells #[.int .i64 0, .int .i64 0, .int .i64 0] 54)) := (Below.refl _ _).alloc (Nat.le_refl _) _
  have r1 : (w.alloc (.cells #[.int .i64 0, .int .i64 0, .int .i64 0] 54)).rowIs w.heap.size 54 3 (fun _ => .int .i64 0) := World.rowIs_alloc w _ _ _ (by
    intro i hi
    match i, hi with
    | 0, _ => rfl
    | 1, _ => rfl
    | 2, _ => rfl)
  have r2 := r1.of_block (b2.block _ r1.lt)
  have hlt := r2.lt
  have b3 := (b1.trans (b2.mono (by simp)))
  have r3 := ((r2.set 0 (.int .i64 (-1))).set 1 (.int .i64 (-1))).set 2 (.int .i64 0)
  have b4 := ((b3.setCell (p := ⟨w.heap.size, 0, none⟩) (Nat.le_refl _) (.int .i64 (-1))).setCell (p := ⟨w.heap.size, 1, none⟩) (Nat.le_refl _) (.int .i64 (-1))).setCell (p := ⟨w.heap.size, 2, none⟩) (Nat.le_refl _) (.int .i64 0)
  have c0 := r2.cell (i := 0) (by omega)
  have c1 := r2.cell (i := 1) (by omega)
  have c2 := r2.cell (i := 2) (by omega)
  have f0 := r2.frozen 0
  have f1 := r2.frozen 1
  have f2 := r2.frozen 2
  have R3 := Lib.hid r3
  have B4 := Lib.hid b4
  clear r1 r2 r3 b1 b2 b3 b4
  go_wp2
  refine bodyPost_ret_by (results_cell_row rfl _ _ w.heap.size 54 _ (0, 0) _ rfl (row3 R3.out) Try.underlying54 rfl (by kernel_rfl)) rfl ?_
  exact ⟨rfl, B4.out⟩
/-- What that list has: nothing, if there is none. -/
def rowOf (m : Nat → List Nat) (x : Int) : List Nat := if 0 ≤ x then m x.toNat else []
theorem rowOf_nat (m : Nat → List Nat) (i : Nat) : rowOf m (i : Int) = m i := by unfold rowOf; rw [if_pos (by omega), Int.toNat_natCast]
theorem rowOf_out {m : Nat → List Nat} {x : Int} (h : Inv L N m) (hx : hasB L x = false) : rowOf m x = [] := by
  unfold rowOf
  split
  · have := of_decide_eq_false hx
    exact h.none _ (by omega)
  · rfl
theorem row_is {lo hi : Nat} {v : Value} {m : Nat → List Nat} (h : ChainIn w lo hi v L N m) (x : Int) : Calls Try.prog 38 #[v, .int .i64 x] w (GivesV w (rowV (hd (rowOf m x) (-1)) (lst (rowOf m x) (-1)) (rowOf m x).length)) := by
  cases hb : hasB L x with
  | false =>
    rw [rowOf_out h.1 hb]
    exact row_no h hb
  | true =>
    obtain ⟨h1, h2⟩ := of_decide_eq_true hb
    obtain ⟨k, rfl⟩ := Int.eq_ofNat_of_zero_le h1
    rw [rowOf_nat]
    obtain ⟨g, R, P, F, La, C, Pb, Pn, Pl, rfl, k1, k2, _⟩ := h.raw (by omega)
    have hk : k < L := by omega
    rw [← k2.first k hk, ← k2.last k hk, ← k2.count k hk]
    exact row_yes k1 hk
theorem field_0 (a b c : Int) (W : World) : (Instr.field 54 (.agg #[.int .i64 a, .int .i64 b, .int .i64 c]) 0).run Try.prog W = .ok (.int .i64 a) W := by kernel_rfl
theorem field_1 (a b c : Int) (W : World) : (Instr.field 54 (.agg #[.int .i64 a, .int .i64 b, .int .i64 c]) 1).run Try.prog W = .ok (.int .i64 b) W := by kernel_rfl
theorem field_2 (a b c : Int) (W : World) : (Instr.field 54 (.agg #[.int .i64 a, .int .i64 b, .int .i64 c]) 2).run Try.prog W = .ok (.int .i64 c) W := by kernel_rfl
theorem first_is {lo hi : Nat} {v : Value} {m : Nat → List Nat} (h : ChainIn w lo hi v L N m) {x r : Int} (hr : hd (rowOf m x) (-1) = r) : Calls Try.prog 19 #[v, .int .i64 x] w (GivesV w (.int .i64 r)) := by
  subst hr
  go_enter Try.func19, Try.ntmps19
  go_wp2_with fail
  refine (row_is h x).mono ?_
  rintro e w' ⟨rfl, b⟩
  unfold rowV
  have hfd := field_0 (hd (rowOf m x) (-1)) (lst (rowOf m x) (-1)) (rowOf m x).length
  go_wp2
  go_ret
  exact ⟨rfl, b⟩
theorem last_is {lo hi : Nat} {v : Value} {m : Nat → List Nat} (h : ChainIn w lo hi v L N m) {x r : Int} (hr : lst (rowOf m x) (-1) = r) : Calls Try.prog 15 #[v, .int .i64 x] w (GivesV w (.int .i64 r)) := by
  subst hr
  go_enter Try.func15, Try.ntmps15
  go_wp2_with fail
  refine (row_is h x).mono ?_
  rintro e w' ⟨rfl, b⟩
  unfold rowV
  have hfd := field_1 (hd (rowOf m x) (-1)) (lst (rowOf m x) (-1)) (rowOf m x).length
  go_wp2
  go_ret
  exact ⟨rfl, b⟩
theorem len_is {lo hi : Nat} {v : Value} {m : Nat → List Nat} (h : ChainIn w lo hi v L N m) {x : Int} {r : Nat} (hr : (rowOf m x).length = r) : Calls Try.prog 18 #[v, .int .i64 x] w (GivesV w (.int .i64 r)) := by
  subst hr
  go_enter Try.func18, Try.ntmps18
  go_wp2_with fail
  refine (row_is h x).mono ?_
  rintro e w' ⟨rfl, b⟩
  unfold rowV
  have hfd := field_2 (hd (rowOf m x) (-1)) (lst (rowOf m x) (-1)) (rowOf m x).length
  go_wp2
  go_ret
  exact ⟨rfl, b⟩
theorem of_fn (w : World) (b n l : Int) : Calls Try.prog 40 #[rowV b n l] w (GivesV w (.int .i64 l)) := by
  unfold rowV
  go_enter Try.func40, Try.ntmps40
  go_wp2
  go_ret
  exact ⟨rfl, (Below.refl _ _).alloc (Nat.le_refl _) _⟩
theorem next_fn (w : World) (b n l : Int) : Calls Try.prog 42 #[rowV b n l] w (GivesV w (.int .i64 n)) := by
  unfold rowV
  go_enter Try.func42, Try.ntmps42
  go_wp2
  go_ret
  exact ⟨rfl, (Below.refl _ _).alloc (Nat.le_refl _) _⟩
theorem back_fn (w : World) (b n l : Int) : Calls Try.prog 41 #[rowV b n l] w (GivesV w (.int .i64 b)) := by
  unfold rowV
  go_enter Try.func41, Try.ntmps41
  go_wp2
  go_ret
  exact ⟨rfl, (Below.refl _ _).alloc (Nat.le_refl _) _⟩
theorem ask_yes (h : RawAt w g R P L N F La C Pb Pn Pl) {i : Nat} (hi : i < N) {k : FuncId} {r : Int} (hE : ∀ (args : Array Value) (W : World), (callFunc k args).run Try.prog W = .ok (.enter k args) W) (hf : ∀ W, Calls Try.prog k #[rowV (Pb i) (Pn i) (Pl i)] W (GivesV W (.int .i64 r))) :
    Calls Try.prog 39 #[.pointer (some ⟨g, 0, none⟩), .int .i64 i, .func (.func k) #[] #[]] w (GivesV w (.int .i64 r)) := by
  obtain ⟨bp, rfl, _⟩ := h.blkP (by omega)
  have c0 := h.c1
  have c1 := h.cB hi
  have c2 := h.cN hi
  have c3 := h.cP hi
  have hsm := h.small
  have HB : Hid (hasB N (i : Int) = true) := decide_eq_true (by omega)
  have hir : 0 ≤ (i : Int) ∧ (i : Int) < (N : Int) := by omega
  simp only [Option.map_some] at c0
  have hnot := not_any
  have K1 := Lib.hid h
  clear h
  unfold rowV at hf
  generalize Pb i = f at *
  generalize Pn i = l at *
  generalize Pl i = c at *
  have HF := Lib.hid (hf w)
  clear hf
  go_enter Try.func39, Try.ntmps39
  go_wp2_with fail
  refine (has_node_raw K1.out HB.out).mono ?_
  rintro e w' ⟨rfl, rfl⟩
  go_wp2_with fail
  refine HF.out.mono ?_
  rintro e w' ⟨rfl, b⟩
  go_wp2
  go_ret
  exact ⟨rfl, b⟩
theorem ask_no {lo hi : Nat} {v f : Value} {m : Nat → List Nat} (h : ChainIn w lo hi v L N m) {x : Int} (hx : hasB N x = false) : Calls Try.prog 39 #[v, .int .i64 x, f] w fun e w' => e = .returned (.int .i64 (-1)) ∧ w = w' := by
  have hnot := not_any
  go_enter Try.func39, Try.ntmps39
  go_wp2_with fail
  refine (has_node h hx).mono ?_
  rintro e w' ⟨rfl, rfl⟩
  go_wp2
  go_ret
  exact ⟨rfl, rfl⟩
theorem of_raw (h : RawAt w g R P L N F La C Pb Pn Pl) {i : Nat} (hi : i < N) : Calls Try.prog 16 #[.pointer (some ⟨g, 0, none⟩), .int .i64 i] w (GivesV w (.int .i64 (Pl i))) := by
  go_enter Try.func16, Try.ntmps16
  go_wp2_with fail
  refine (ask_yes h hi (enter_any Try.func40 (by kernel_rfl) rfl) fun W => of_fn W _ _ _).mono ?_
  rintro e w' ⟨rfl, b⟩
  go_wp2
  go_ret
  exact ⟨rfl, b⟩
theorem next_raw (h : RawAt w g R P L N F La C Pb Pn Pl) {i : Nat} (hi : i < N) : Calls Try.prog 20 #[.pointer (some ⟨g, 0, none⟩), .int .i64 i] w (GivesV w (.int .i64 (Pn i))) := by
  go_enter Try.func20, Try.ntmps20
  go_wp2_with fail
  refine (ask_yes h hi (enter_any Try.func42 (by kernel_rfl) rfl) fun W => next_fn W _ _ _).mono ?_
  rintro e w' ⟨rfl, b⟩
  go_wp2
  go_ret
  exact ⟨rfl, b⟩
theorem back_raw (h : RawAt w g R P L N F La C Pb Pn Pl) {i : Nat} (hi : i < N) : Calls Try.prog 17 #[.pointer (some ⟨g, 0, none⟩), .int .i64 i] w (GivesV w (.int .i64 (Pb i))) := by
  go_enter Try.func17, Try.ntmps17
  go_wp2_with fail
  refine (ask_yes h hi (enter_any Try.func41 (by kernel_rfl) rfl) fun W => back_fn W _ _ _).mono ?_
  rintro e w' ⟨rfl, b⟩
  go_wp2
  go_ret
  exact ⟨rfl, b⟩
theorem Spot.no {m : Nat → List Nat} {x o b n : Int} (hI : Inv L N m) (hs : Spot m x o b n) (hx : hasB N x = false) : o = -1 ∧ b = -1 ∧ n = -1 := by
  rcases hs with hs | ⟨i, a, k', b', e, e2⟩
  · exact ⟨rfl, rfl, rfl⟩
  · have := hI.lt i k' (by rw [e2]; simp)
    exact absurd (by omega) (of_decide_eq_false hx)
theorem of_is {lo hi : Nat} {v : Value} {m : Nat → List Nat} (h : ChainIn w lo hi v L N m) {x o b n : Int} (hs : Spot m x o b n) : Calls Try.prog 16 #[v, .int .i64 x] w (GivesV w (.int .i64 o)) := by
  cases hb : hasB N x with
  | false =>
    obtain ⟨rfl, _, _⟩ := hs.no h.1 hb
    go_enter Try.func16, Try.ntmps16
    go_wp2_with fail
    refine (ask_no h hb).mono ?_
    rintro e w' ⟨rfl, rfl⟩
    go_wp2
    go_ret
    exact ⟨rfl, Below.refl _ _⟩
  | true =>
    obtain ⟨h1, h2⟩ := of_decide_eq_true hb
    obtain ⟨k, rfl⟩ := Int.eq_ofNat_of_zero_le h1
    obtain ⟨g, R, P, F, La, C, Pb, Pn, Pl, rfl, k1, k2, _⟩ := h.raw (by omega)
    obtain ⟨e1, e2, e3⟩ := k2.spot (by omega) hs
    rw [← e1]
    exact of_raw k1 (by omega)
theorem next_is {lo hi : Nat} {v : Value} {m : Nat → List Nat} (h : ChainIn w lo hi v L N m) {x o b n : Int} (hs : Spot m x o b n) : Calls Try.prog 20 #[v, .int .i64 x] w (GivesV w (.int .i64 n)) := by
  cases hb : hasB N x with
  | false =>
    obtain ⟨_, _, rfl⟩ := hs.no h.1 hb
    go_enter Try.func20, Try.ntmps20
    go_wp2_with fail
    refine (ask_no h hb).mono ?_
    rintro e w' ⟨rfl, rfl⟩
    go_wp2
    go_ret
    exact ⟨rfl, Below.refl _ _⟩
  | true =>
    obtain ⟨h1, h2⟩ := of_decide_eq_true hb
    obtain ⟨k, rfl⟩ := Int.eq_ofNat_of_zero_le h1
    obtain ⟨g, R, P, F, La, C, Pb, Pn, Pl, rfl, k1, k2, _⟩ := h.raw (by omega)
    obtain ⟨e1, e2, e3⟩ := k2.spot (by omega) hs
    rw [← e3]
    exact next_raw k1 (by omega)
theorem back_is {lo hi : Nat} {v : Value} {m : Nat → List Nat} (h : ChainIn w lo hi v L N m) {x o b n : Int} (hs : Spot m x o b n) : Calls Try.prog 17 #[v, .int .i64 x] w (GivesV w (.int .i64 b)) := by
  cases hb : hasB N x with
  | false =>
    obtain ⟨_, rfl, _⟩ := hs.no h.1 hb
    go_enter Try.func17, Try.ntmps17
    go_wp2_with fail
    refine (ask_no h hb).mono ?_
    rintro e w' ⟨rfl, rfl⟩
    go_wp2
    go_ret
    exact ⟨rfl, Below.refl _ _⟩
  | true =>
    obtain ⟨h1, h2⟩ := of_decide_eq_true hb
    obtain ⟨k, rfl⟩ := Int.eq_ofNat_of_zero_le h1
    obtain ⟨g, R, P, F, La, C, Pb, Pn, Pl, rfl, k1, k2, _⟩ := h.raw (by omega)
    obtain ⟨e1, e2, e3⟩ := k2.spot (by omega) hs
    rw [← e2]
    exact back_raw k1 (by omega)
end Go.Proofs.Ytffpnpcbfogemaa
