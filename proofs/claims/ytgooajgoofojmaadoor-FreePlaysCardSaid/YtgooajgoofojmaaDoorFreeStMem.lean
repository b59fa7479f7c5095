/- Layer 3 (stack): how a stack lies in memory, what is kept of it by what; contracts of may, Place, Len, Top. -/
import Derived.Test.YtgooajgoofojmaaDoorBase
import Derived.Test.YtgooajgoofojmaaDoorFreeStMath
namespace Go.Proofs.YtgooajgoofojmaaDoor
open Go.RowKit

/-! ### a stack in memory -/
theorem length_le_of : ∀ (size : Nat) (l : List Nat), l.Nodup → (∀ x ∈ l, x < size) → l.length ≤ size
  | 0, l, _, h => by
    cases l with
    | nil => simp
    | cons a _ => have := h a (by simp); omega
  | size + 1, l, hn, h => by
    by_cases hm : size ∈ l
    · have h1 := length_le_of size (l.erase size) (hn.erase _) fun x hx => by
        rw [hn.mem_erase_iff] at hx
        have := h x hx.2
        have := hx.1
        omega
      rw [List.length_erase_of_mem hm] at h1
      omega
    · have h1 := length_le_of size l hn fun x hx => by
        have := h x hx
        have : x ≠ size := fun e => hm (e ▸ hx)
        omega
      omega
def stackF (A : Option Nat) (size n : Nat) : Nat → Value
  | 0 => .slice (A.map fun b => ⟨b, 0, none⟩) n size
  | _ => .slice (A.map fun b => ⟨b, size, none⟩) size size
/-- The cells of both lists: the numbers that are there ahead, the places behind. -/
def CellsOf (size : Nat) (l : List Nat) (c : Nat → Int) : Prop := (∀ (k x : Nat), l[k]? = some x → c k = (x : Int)) ∧ ∀ x, x < size → c (size + x) = placeV l x
def BodyAt (w : World) (A : Option Nat) (size : Nat) (l : List Nat) : Prop := (A = none ∧ size = 0) ∨ ∃ b c, A = some b ∧ w.rowIs b 3 (2 * size) (fun k => .int .i64 (c k)) ∧ CellsOf size l c
structure StackAt (w : World) (g : Nat) (A : Option Nat) (size : Nat) (l : List Nat) : Prop where
  head : w.rowIs g 53 2 (stackF A size l.length)
  body : BodyAt w A size l
  small : size ≤ 1048576
  nodup : l.Nodup
  lt : ∀ x ∈ l, x < size
theorem StackAt.le {w : World} {g size : Nat} {A : Option Nat} {l : List Nat} (h : StackAt w g A size l) : l.length ≤ size := length_le_of size l h.nodup h.lt
theorem StackAt.nil_of {w : World} {g : Nat} {A : Option Nat} {l : List Nat} (h : StackAt w g A 0 l) : l = [] := List.eq_nil_of_length_eq_zero (by have := h.le; omega)
theorem StackAt.blk {w : World} {g size : Nat} {A : Option Nat} {l : List Nat} (h : StackAt w g A size l) (hs : 0 < size) : ∃ b c, A = some b ∧ w.rowIs b 3 (2 * size) (fun k => .int .i64 (c k)) ∧ CellsOf size l c := by
  rcases h.body with ⟨_, h⟩ | h
  · omega
  · exact h
theorem StackAt.drewN {w : World} {g size : Nat} {A : Option Nat} {l : List Nat} (h : StackAt w g A size l) (n : Nat) : StackAt (w.drewN n) g A size l := ⟨h.head, h.body, h.small, h.nodup, h.lt⟩
theorem StackAt.keep {w w' : World} {g size : Nat} {A : Option Nat} {l : List Nat} (h : StackAt w g A size l) (hg : w'.heap[g]? = w.heap[g]?) (hb : ∀ b, A = some b → b < w.heap.size → w'.heap[b]? = w.heap[b]?) : StackAt w' g A size l := by
  refine ⟨h.head.of_block hg, ?_, h.small, h.nodup, h.lt⟩
  rcases h.body with hb0 | ⟨b, c, e, hr, hc⟩
  · exact .inl hb0
  · exact .inr ⟨b, c, e, hr.of_block (hb b e hr.lt), hc⟩
theorem StackAt.glt {w : World} {g size : Nat} {A : Option Nat} {l : List Nat} (h : StackAt w g A size l) : g < w.heap.size := h.head.lt

/-- The stack of that size with l lies in [lo, hi). -/
def StackIn (w : World) (lo hi : Nat) (v : Value) (size : Nat) (l : List Nat) : Prop := ∃ g A, v = .pointer (some ⟨g, 0, none⟩) ∧ StackAt w g A size l ∧ lo ≤ g ∧ g < hi ∧ hi ≤ w.heap.size ∧ ∀ b, A = some b → lo ≤ b ∧ b < hi
theorem StackIn.chg {lo hi lo' hi' size : Nat} {w w' : World} {v : Value} {l : List Nat} (h : StackIn w lo hi v size l) (hc : Chg lo' hi' w w') (hd : hi ≤ lo' ∨ hi' ≤ lo ∨ hi' ≤ lo') : StackIn w' lo hi v size l := by
  obtain ⟨g, A, e, hs, h1, h2, h3, h4⟩ := h
  refine ⟨g, A, e, hs.keep (hc.block g hs.glt (by omega)) (fun b eb hl => hc.block b hl ?_), h1, h2, Nat.le_trans h3 hc.size, h4⟩
  have := h4 b eb
  omega
theorem StackIn.small {lo hi size : Nat} {w : World} {v : Value} {l : List Nat} (h : StackIn w lo hi v size l) : size ≤ 1048576 ∧ l.length ≤ size ∧ l.Nodup ∧ ∀ x ∈ l, x < size := by
  obtain ⟨g, A, e, hs, _⟩ := h
  exact ⟨hs.small, hs.le, hs.nodup, hs.lt⟩
theorem StackIn.drewN {lo hi size : Nat} {w : World} {v : Value} {l : List Nat} (h : StackIn w lo hi v size l) (n : Nat) : StackIn (w.drewN n) lo hi v size l := by
  obtain ⟨g, A, e, hs, h1⟩ := h
  exact ⟨g, A, e, hs.drewN n, h1⟩
theorem StackIn.like {lo hi size : Nat} {w : World} {v : Value} {l l' : List Nat} (h : StackIn w lo hi v size l) (e : l = l') : StackIn w lo hi v size l' := by subst e; exact h
theorem Chg.set {lo hi : Nat} (w : World) {b : Nat} (i : Nat) (v : Value) (h1 : lo ≤ b) (h2 : b < hi) : Chg lo hi w (w.setCell ⟨b, i, none⟩ v) :=
  Chg.of_grown (grown_set b i v) fun k e => by injection e with e; omega

/-! ### Len, may, Place -/
theorem len_at {w : World} {lo hi size : Nat} {v : Value} {l : List Nat} (h : StackIn w lo hi v size l) : Calls Tryd.prog 33 #[v] w fun e w' => e = .returned (.int .i64 l.length) ∧ w = w' := by
  obtain ⟨g, A, rfl, hs, _⟩ := h
  have h0 : w.cell? ⟨g, 0, none⟩ = some (.slice (A.map fun b => ⟨b, 0, none⟩) l.length size) := hs.head.cell (i := 0) (by omega)
  clear hs
  go_enter Tryd.func33, Tryd.ntmps33
  go_wp2
  go_ret
  exact ⟨rfl, rfl⟩
theorem len_is {w : World} {lo hi size n : Nat} {v : Value} {l : List Nat} (h : StackIn w lo hi v size l) (hn : l.length = n) : Calls Tryd.prog 33 #[v] w fun e w' => e = .returned (.int .i64 n) ∧ w = w' := by
  subst hn; exact len_at h
theorem len_nil (w : World) : Calls Tryd.prog 33 #[.pointer none] w fun e w' => e = .returned (.int .i64 0) ∧ w = w' := by
  go_enter Tryd.func33, Tryd.ntmps33
  go_wp2
  go_ret
  exact ⟨rfl, rfl⟩
def mayB (size : Nat) (x : Int) : Bool := decide (0 ≤ x ∧ x < size)
theorem may_any {w : World} {g size : Nat} {A : Option Nat} {l : List Nat} (hs : StackAt w g A size l) {x : Int} {r : Bool} (hr : mayB size x = r) : Calls Tryd.prog 39 #[.pointer (some ⟨g, 0, none⟩), .int .i64 x] w fun e w' => e = .returned (.bool r) ∧ w = w' := by
  have h0 : w.cell? ⟨g, 1, none⟩ = some (.slice (A.map fun b => ⟨b, size, none⟩) size size) := hs.head.cell (i := 1) (by omega)
  clear hs
  by_cases h1 : 0 ≤ x
  · by_cases h2 : x < (size : Int)
    · have : mayB size x = true := decide_eq_true ⟨h1, h2⟩
      rw [this] at hr
      subst hr
      clear this
      go_enter Tryd.func39, Tryd.ntmps39
      go_wp2
      go_ret
      exact ⟨rfl, rfl⟩
    · have : mayB size x = false := decide_eq_false fun h => h2 h.2
      rw [this] at hr
      subst hr
      clear this
      go_enter Tryd.func39, Tryd.ntmps39
      go_wp2
      go_ret
      exact ⟨ret_bool (by simp), rfl⟩
  · have : mayB size x = false := decide_eq_false fun h => h1 h.1
    rw [this] at hr
    subst hr
    clear this
    go_enter Tryd.func39, Tryd.ntmps39
    go_wp2
    go_ret
    exact ⟨rfl, rfl⟩
theorem may_nil (x : Int) (w : World) : Calls Tryd.prog 39 #[.pointer none, .int .i64 x] w fun e w' => e = .returned (.bool false) ∧ w = w' := by
  go_enter Tryd.func39, Tryd.ntmps39
  go_wp2
  go_ret
  exact ⟨rfl, rfl⟩
/-- How many stand below x; -1, if it is not there. -/
def placeI (l : List Nat) (x : Int) : Int := if 0 ≤ x then placeV l x.toNat else -1
theorem placeI_nat (l : List Nat) (x : Nat) : placeI l (x : Int) = placeV l x := by unfold placeI; rw [if_pos (by omega)]; simp
theorem placeI_out {l : List Nat} {size : Nat} {x : Int} (h : ∀ y ∈ l, y < size) (hx : mayB size x = false) : placeI l x = -1 := by
  unfold placeI
  split
  · refine placeV_no fun hm => ?_
    have := h _ hm
    have h2 := of_decide_eq_false hx
    omega
  · rfl
theorem not_false' : ∀ w : World, (Op.unary .not (.bool false)).run Tryd.prog w = .ok (.bool true) w := fun _ => rfl
theorem place_any {w : World} {g size : Nat} {A : Option Nat} {l : List Nat} (hs : StackAt w g A size l) {x r : Int} (hr : placeI l x = r) : Calls Tryd.prog 38 #[.pointer (some ⟨g, 0, none⟩), .int .i64 x] w fun e w' => e = .returned (.int .i64 r) ∧ w = w' := by
  have hnot := not_any
  cases hm : mayB size x with
  | false =>
    rw [placeI_out hs.lt hm] at hr
    subst hr
    have HM := Lib.hid hm
    clear hm
    go_enter Tryd.func38, Tryd.ntmps38
    go_wp2_with (go_at_call 39; refine (may_any hs HM.out).mono ?_; rintro e w' ⟨rfl, rfl⟩)
    go_ret
    exact ⟨rfl, rfl⟩
  | true =>
    obtain ⟨h1, h2⟩ := of_decide_eq_true hm
    obtain ⟨k, rfl⟩ := Int.eq_ofNat_of_zero_le h1
    have hk : k < size := by omega
    obtain ⟨b, c, rfl, hb, hc⟩ := hs.blk (by omega)
    have h0 : w.cell? ⟨g, 1, none⟩ = some (.slice (some ⟨b, size, none⟩) size size) := hs.head.cell (i := 1) (by omega)
    have h3 : w.cell? ⟨b, size + k, none⟩ = some (.int .i64 r) := by
      rw [hb.cell (i := size + k) (by omega), hc.2 k hk, ← placeI_nat, hr]
    have HM := Lib.hid hm
    clear hm hb hc hr
    go_enter Tryd.func38, Tryd.ntmps38
    go_wp2_with (go_at_call 39; refine (may_any hs HM.out).mono ?_; rintro e w' ⟨rfl, rfl⟩)
    go_ret
    exact ⟨rfl, rfl⟩
theorem place_at {w : World} {lo hi size : Nat} {v : Value} {l : List Nat} (h : StackIn w lo hi v size l) {x r : Int} (hr : placeI l x = r) : Calls Tryd.prog 38 #[v, .int .i64 x] w fun e w' => e = .returned (.int .i64 r) ∧ w = w' := by
  obtain ⟨g, A, rfl, hs, _⟩ := h
  exact place_any hs hr
theorem place_nil (x : Int) (w : World) : Calls Tryd.prog 38 #[.pointer none, .int .i64 x] w fun e w' => e = .returned (.int .i64 (-1)) ∧ w = w' := by
  have hnot := not_any
  go_enter Tryd.func38, Tryd.ntmps38
  go_wp2_with (go_at_call 39; refine (may_nil _ _).mono ?_; rintro e w' ⟨rfl, rfl⟩)
  go_ret
  exact ⟨rfl, rfl⟩

/-! ### Top -/
def someB (l : List Nat) : Bool := !l.isEmpty
theorem top_at {w : World} {lo hi size : Nat} {v : Value} {l : List Nat} (h : StackIn w lo hi v size l) : Calls Tryd.prog 32 #[v] w fun e w' => e = .returned (.tuple #[.int .i64 (topV l : Nat), .bool (someB l)]) ∧ ∃ n, w' = w.drewN n := by
  have h00 := h
  obtain ⟨g, A, rfl, hs, _⟩ := h
  by_cases h0 : l.length = 0
  · have hl := List.eq_nil_of_length_eq_zero h0
    have HL := Lib.hid h0
    subst hl
    clear h0
    go_enter Tryd.func32, Tryd.ntmps32
    go_wp2_with (go_at_call 33; refine (len_is h00 HL.out).mono ?_; rintro e w' ⟨rfl, rfl⟩)
    go_ret2
    exact ⟨rfl, 0, rfl⟩
  · have hle := hs.le
    have hsm := hs.small
    obtain ⟨b, c, rfl, hb, hc⟩ := hs.blk (by omega)
    have hsome : someB l = true := by unfold someB; cases l with
      | nil => simp at h0
      | cons _ _ => rfl
    have h1 : w.cell? ⟨g, 0, none⟩ = some (.slice (some ⟨b, 0, none⟩) l.length size) := hs.head.cell (i := 0) (by omega)
    have h2 : w.cell? ⟨b, l.length - 1, none⟩ = some (.int .i64 (topV l : Nat)) := by
      rw [hb.cell (i := l.length - 1) (by omega), hc.1 _ _ (topV_at (by omega))]
    rw [hsome]
    generalize topV l = top at *
    clear hb hc hsome hs
    obtain ⟨m, hln⟩ : ∃ m, l.length = m := ⟨_, rfl⟩
    rw [hln] at h0 h1 h2 hle
    have HL := Lib.hid hln
    clear hln
    have hn : ((m : Int) == 0) = false := by simp; omega
    have hi : 0 ≤ (m : Int) - 1 ∧ (m : Int) - 1 < (m : Int) := by omega
    have hi1 : 1 ≤ (m : Int) := by omega
    have hwr : IntKind.i64.wrap ((m : Int) - 1) = (m : Int) - 1 := IntWalk.i64_in _ (by omega)
    have hto : ((m : Int) - 1).toNat = m - 1 := by omega
    clear h0
    go_enter Tryd.func32, Tryd.ntmps32
    go_wp2_with (go_at_call 33; refine (len_is h00 HL.out).mono ?_; rintro e w' ⟨rfl, rfl⟩)
    go_quiet (fail)
    go_wp2
    go_ret2
    exact ⟨rfl, nq, rfl⟩
theorem top_nil (w : World) : Calls Tryd.prog 32 #[.pointer none] w fun e w' => e = .returned (.tuple #[.int .i64 0, .bool false]) ∧ w = w' := by
  go_enter Tryd.func32, Tryd.ntmps32
  go_wp2_with (go_at_call 33; refine (len_nil _).mono ?_; rintro e w' ⟨rfl, rfl⟩)
  go_ret2
  exact ⟨rfl, rfl⟩
end Go.Proofs.YtgooajgoofojmaaDoor
