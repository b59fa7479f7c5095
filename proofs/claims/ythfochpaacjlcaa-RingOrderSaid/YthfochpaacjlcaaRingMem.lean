/- Layer 4 (ring): how a queue lies in memory, what is kept of it by what; contracts of Len, Room, cell, At, First. -/
import Derived.Test.YthfochpaacjlcaaBase
import Derived.IntWalk
namespace Go.Proofs.Ythfochpaacjlcaa
open Go.RowKit

/-! ### a queue in memory -/
/-- The cell in which the number of that place stands. -/
def posN (room first k : Nat) : Nat := if k < room - first then first + k else k - (room - first)
theorem posN_lt {room first k : Nat} (hk : k < room) : posN room first k < room := by unfold posN; split <;> omega
theorem posN_ne {room first j k : Nat} (hf : first < room) (hj : j < room) (hk : k < room) (h : j ≠ k) : posN room first j ≠ posN room first k := by unfold posN; split <;> split <;> omega
theorem posN_next {room first k : Nat} (hf : first < room) (hk : k + 1 < room) : posN room ((first + 1) % room) k = posN room first (k + 1) := by
  by_cases h : first + 1 = room
  · rw [h, Nat.mod_self]; unfold posN; split <;> split <;> omega
  · rw [Nat.mod_eq_of_lt (by omega)]; unfold posN; split <;> split <;> omega
def ringF (A : Option Nat) (room first n : Nat) : Nat → Value
  | 0 => .slice (A.map fun b => ⟨b, 0, none⟩) room room
  | 1 => .int .i64 first
  | _ => .int .i64 n
def QCells (room first : Nat) (l : List Int) (c : Nat → Int) : Prop := ∀ (k : Nat) (x : Int), l[k]? = some x → c (posN room first k) = x
def QBody (w : World) (A : Option Nat) (room first : Nat) (l : List Int) : Prop := (A = none ∧ room = 0) ∨ ∃ b c, A = some b ∧ w.rowIs b 3 room (fun k => .int .i64 (c k)) ∧ QCells room first l c
structure RingAt (w : World) (g : Nat) (A : Option Nat) (room first : Nat) (l : List Int) : Prop where
  head : w.rowIs g 45 3 (ringF A room first l.length)
  body : QBody w A room first l
  small : room ≤ 1048576
  le : l.length ≤ room
  fst : first < room ∨ room = 0 ∧ first = 0
theorem RingAt.blk {w : World} {g room first : Nat} {A : Option Nat} {l : List Int} (h : RingAt w g A room first l) (hs : 0 < room) : ∃ b c, A = some b ∧ w.rowIs b 3 room (fun k => .int .i64 (c k)) ∧ QCells room first l c := by
  rcases h.body with ⟨_, h⟩ | h
  · omega
  · exact h
theorem RingAt.drewN {w : World} {g room first : Nat} {A : Option Nat} {l : List Int} (h : RingAt w g A room first l) (n : Nat) : RingAt (w.drewN n) g A room first l := ⟨h.head, h.body, h.small, h.le, h.fst⟩
theorem RingAt.keep {w w' : World} {g room first : Nat} {A : Option Nat} {l : List Int} (h : RingAt w g A room first l) (hg : w'.heap[g]? = w.heap[g]?) (hb : ∀ b, A = some b → b < w.heap.size → w'.heap[b]? = w.heap[b]?) : RingAt w' g A room first l := by
  refine ⟨h.head.of_block hg, ?_, h.small, h.le, h.fst⟩
  rcases h.body with hb0 | ⟨b, c, e, hr, hc⟩
  · exact .inl hb0
  · exact .inr ⟨b, c, e, hr.of_block (hb b e hr.lt), hc⟩
theorem RingAt.glt {w : World} {g room first : Nat} {A : Option Nat} {l : List Int} (h : RingAt w g A room first l) : g < w.heap.size := h.head.lt
theorem RingAt.c0 {w : World} {g room first : Nat} {A : Option Nat} {l : List Int} (h : RingAt w g A room first l) : w.cell? ⟨g, 0, none⟩ = some (.slice (A.map fun b => ⟨b, 0, none⟩) room room) := h.head.cell (i := 0) (by omega)
theorem RingAt.c1 {w : World} {g room first : Nat} {A : Option Nat} {l : List Int} (h : RingAt w g A room first l) : w.cell? ⟨g, 1, none⟩ = some (.int .i64 first) := h.head.cell (i := 1) (by omega)
theorem RingAt.c2 {w : World} {g room first : Nat} {A : Option Nat} {l : List Int} (h : RingAt w g A room first l) : w.cell? ⟨g, 2, none⟩ = some (.int .i64 l.length) := h.head.cell (i := 2) (by omega)

/-- The queue of that room with l lies in [lo, hi). -/
def RingIn (w : World) (lo hi : Nat) (v : Value) (room : Nat) (l : List Int) : Prop := ∃ g A first, v = .pointer (some ⟨g, 0, none⟩) ∧ RingAt w g A room first l ∧ lo ≤ g ∧ g < hi ∧ hi ≤ w.heap.size ∧ ∀ b, A = some b → lo ≤ b ∧ b < hi
theorem RingIn.chg {lo hi lo' hi' room : Nat} {w w' : World} {v : Value} {l : List Int} (h : RingIn w lo hi v room l) (hc : Chg lo' hi' w w') (hd : hi ≤ lo' ∨ hi' ≤ lo ∨ hi' ≤ lo') : RingIn w' lo hi v room l := by
  obtain ⟨g, A, first, e, hs, h1, h2, h3, h4⟩ := h
  refine ⟨g, A, first, e, hs.keep (hc.block g hs.glt (by omega)) (fun b eb hl => hc.block b hl ?_), h1, h2, Nat.le_trans h3 hc.size, h4⟩
  have := h4 b eb
  omega
theorem RingIn.small {lo hi room : Nat} {w : World} {v : Value} {l : List Int} (h : RingIn w lo hi v room l) : room ≤ 1048576 ∧ l.length ≤ room := by
  obtain ⟨g, A, first, e, hs, _⟩ := h
  exact ⟨hs.small, hs.le⟩
theorem RingIn.drewN {lo hi room : Nat} {w : World} {v : Value} {l : List Int} (h : RingIn w lo hi v room l) (n : Nat) : RingIn (w.drewN n) lo hi v room l := by
  obtain ⟨g, A, first, e, hs, h1⟩ := h
  exact ⟨g, A, first, e, hs.drewN n, h1⟩
theorem RingIn.like {lo hi room : Nat} {w : World} {v : Value} {l l' : List Int} (h : RingIn w lo hi v room l) (e : l = l') : RingIn w lo hi v room l' := by subst e; exact h
theorem Chg.set {lo hi : Nat} (w : World) {b : Nat} (i : Nat) (v : Value) (h1 : lo ≤ b) (h2 : b < hi) : Chg lo hi w (w.setCell ⟨b, i, none⟩ v) :=
  Chg.of_grown (grown_set b i v) fun k e => by injection e with e; omega

/-! ### Len, Room -/
theorem len_is {w : World} {lo hi room n : Nat} {v : Value} {l : List Int} (h : RingIn w lo hi v room l) (hn : l.length = n) : Calls Try.prog 14 #[v] w fun e w' => e = .returned (.int .i64 n) ∧ w = w' := by
  subst hn
  obtain ⟨g, A, first, rfl, hs, _⟩ := h
  have h0 := hs.c2
  clear hs
  go_enter Try.func14, Try.ntmps14
  go_wp2
  go_ret
  exact ⟨rfl, rfl⟩
theorem len_nil (w : World) : Calls Try.prog 14 #[.pointer none] w fun e w' => e = .returned (.int .i64 0) ∧ w = w' := by
  go_enter Try.func14, Try.ntmps14
  go_wp2
  go_ret
  exact ⟨rfl, rfl⟩
theorem room_is {w : World} {lo hi room : Nat} {v : Value} {l : List Int} (h : RingIn w lo hi v room l) : Calls Try.prog 15 #[v] w fun e w' => e = .returned (.int .i64 room) ∧ w = w' := by
  obtain ⟨g, A, first, rfl, hs, _⟩ := h
  have h0 := hs.c0
  clear hs
  go_enter Try.func15, Try.ntmps15
  go_wp2
  go_ret
  exact ⟨rfl, rfl⟩
theorem room_nil (w : World) : Calls Try.prog 15 #[.pointer none] w fun e w' => e = .returned (.int .i64 0) ∧ w = w' := by
  go_enter Try.func15, Try.ntmps15
  go_wp2
  go_ret
  exact ⟨rfl, rfl⟩

/-! ### cell -/
theorem cell_any {w : World} {g room first k : Nat} {A : Option Addr} (h0 : w.cell? ⟨g, 0, none⟩ = some (.slice A room room)) (h1 : w.cell? ⟨g, 1, none⟩ = some (.int .i64 first)) (hr : room ≤ 1048576) (hf : first ≤ room) (hk : k < room) :
    Calls Try.prog 20 #[.pointer (some ⟨g, 0, none⟩), .int .i64 k] w fun e w' => e = .returned (.int .i64 (posN room first k : Nat)) ∧ ∃ n, w' = w.drewN n := by
  have hwr : IntKind.i64.wrap ((room : Int) - (first : Int)) = (room : Int) - (first : Int) := IntWalk.i64_in _ (by omega)
  by_cases hlt : (k : Int) < (room : Int) - (first : Int)
  · go_enter Try.func20, Try.ntmps20
    go_wp2_with fail
    go_quiet (fail)
    go_wp2
    go_ret
    exact ⟨ret_int (by unfold posN; rw [if_pos (by omega)]; omega), nq, rfl⟩
  · go_enter Try.func20, Try.ntmps20
    go_wp2_with fail
    go_quiet (fail)
    go_wp2
    go_ret
    exact ⟨ret_int (by unfold posN; rw [if_neg (by omega)]; omega), nq, rfl⟩

/-! ### At, First -/
def atB (l : List Int) (i : Int) : Bool := decide (0 ≤ i ∧ i < l.length)
def atV (l : List Int) (i : Int) : Int := if 0 ≤ i then l.getD i.toNat 0 else 0
theorem atV_out {l : List Int} {i : Int} (h : atB l i = false) : atV l i = 0 := by
  unfold atV
  split
  · have h2 := of_decide_eq_false h
    rw [List.getD_eq_getElem?_getD, List.getElem?_eq_none (by omega)]
    rfl
  · rfl
theorem getZ_at {l : List Int} {k : Nat} (h : k < l.length) : l[k]? = some (l.getD k 0) := by rw [List.getD_eq_getElem?_getD, List.getElem?_eq_getElem h]; rfl
theorem at_is {w : World} {lo hi room : Nat} {v : Value} {l : List Int} {i r : Int} {s : Bool} (h : RingIn w lo hi v room l) (er : atV l i = r) (es : atB l i = s) :
    Calls Try.prog 13 #[v, .int .i64 i] w fun e w' => e = .returned (.tuple #[.int .i64 r, .bool s]) ∧ ∃ n, w' = w.drewN n := by
  cases s with
  | false =>
    have hr0 := atV_out es
    rw [er] at hr0
    subst hr0
    have h00 := h
    by_cases h0 : i < 0
    · clear er es h h00
      go_enter Try.func13, Try.ntmps13
      go_wp2
      go_ret2
      exact ⟨rfl, 0, rfl⟩
    · have h1 : ¬ i < (l.length : Int) := fun h2 => of_decide_eq_false es ⟨by omega, h2⟩
      clear er es
      go_enter Try.func13, Try.ntmps13
      go_wp2_with (go_at_call 14; refine (len_is h00 rfl).mono ?_; rintro e w' ⟨rfl, rfl⟩)
      go_ret2
      exact ⟨rfl, 0, rfl⟩
  | true =>
    obtain ⟨h1, h2⟩ := of_decide_eq_true es
    obtain ⟨k, rfl⟩ := Int.eq_ofNat_of_zero_le h1
    have h00 := h
    have hkl : k < l.length := by omega
    obtain ⟨g, A, first, rfl, hs, _⟩ := h
    have hsm := hs.small
    have hle := hs.le
    have hf : first ≤ room := by have := hs.fst; omega
    obtain ⟨b, c, rfl, hb, hc⟩ := hs.blk (by omega)
    have c0 : w.cell? ⟨g, 0, none⟩ = some (.slice (some ⟨b, 0, none⟩) room room) := hs.c0
    have c1 := hs.c1
    have hp := posN_lt (room := room) (first := first) (k := k) (by omega)
    have c3 : w.cell? ⟨b, posN room first k, none⟩ = some (.int .i64 r) := by
      rw [hb.cell hp, hc k _ (getZ_at hkl)]
      unfold atV at er
      rw [if_pos (by omega), Int.toNat_natCast] at er
      rw [er]
    have HC : Hid (∀ n, Calls Try.prog 20 #[.pointer (some ⟨g, 0, none⟩), .int .i64 k] (w.drewN n) fun e w' => e = .returned (.int .i64 (posN room first k : Nat)) ∧ ∃ m, w' = (w.drewN n).drewN m) :=
      fun n => cell_any (w := w.drewN n) c0 c1 hsm hf (by omega)
    generalize posN room first k = p at *
    have hpr : 0 ≤ (p : Int) ∧ (p : Int) < (room : Int) := by omega
    clear hs hb hc er es
    go_enter Try.func13, Try.ntmps13
    go_wp2_with (go_at_call 14; refine (len_is h00 rfl).mono ?_; rintro e w' ⟨rfl, rfl⟩)
    go_quiet (first | (go_at_call 20; exact Calls.quiet_of (HC.out _)))
    go_wp2
    go_ret2
    exact ⟨rfl, nq, rfl⟩
theorem at_nil (i : Int) (w : World) : Calls Try.prog 13 #[.pointer none, .int .i64 i] w fun e w' => e = .returned (.tuple #[.int .i64 0, .bool false]) ∧ w = w' := by
  by_cases h0 : i < 0
  · go_enter Try.func13, Try.ntmps13
    go_wp2
    go_ret2
    exact ⟨rfl, rfl⟩
  · go_enter Try.func13, Try.ntmps13
    go_wp2_with (go_at_call 14; refine (len_nil _).mono ?_; rintro e w' ⟨rfl, rfl⟩)
    go_ret2
    exact ⟨rfl, rfl⟩
theorem first_is {w : World} {lo hi room : Nat} {v : Value} {l : List Int} {r : Int} {s : Bool} (h : RingIn w lo hi v room l) (er : atV l 0 = r) (es : atB l 0 = s) :
    Calls Try.prog 12 #[v] w fun e w' => e = .returned (.tuple #[.int .i64 r, .bool s]) ∧ ∃ n, w' = w.drewN n := by
  go_enter Try.func12, Try.ntmps12
  go_wp2_with fail
  refine (at_is h er es).mono ?_
  rintro e w' ⟨rfl, n, rfl⟩
  go_wp2
  go_ret2
  exact ⟨rfl, n, rfl⟩
theorem first_nil (w : World) : Calls Try.prog 12 #[.pointer none] w fun e w' => e = .returned (.tuple #[.int .i64 0, .bool false]) ∧ w = w' := by
  go_enter Try.func12, Try.ntmps12
  go_wp2_with fail
  refine (at_nil _ _).mono ?_
  rintro e w' ⟨rfl, rfl⟩
  go_wp2
  go_ret2
  exact ⟨rfl, rfl⟩
end Go.Proofs.Ythfochpaacjlcaa
