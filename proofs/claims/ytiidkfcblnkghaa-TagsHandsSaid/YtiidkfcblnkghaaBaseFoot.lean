/- Words for things that lie in blocks of their own, whichever: what one call turns (blocks of a set), and what of other things stays. For things that grow (append), beside others that are made meanwhile. -/
import Derived.Test.YtiidkfcblnkghaaBase
import Derived.ArgAppend
namespace Go.Proofs.Ytiidkfcblnkghaa
open Go.RowKit

/-- From w to w' nothing that was there has turned but blocks of S. -/
structure Turn (S : Nat → Prop) (w w' : World) : Prop where
  os : w'.os = w.os
  tape : w'.tape = w.tape
  output : w'.output = w.output
  size : w.heap.size ≤ w'.heap.size
  block : ∀ k, k < w.heap.size → ¬ S k → w'.heap[k]? = w.heap[k]?
def NoBlock : Nat → Prop := fun _ => False
def InHeap (T : Nat → Prop) (w : World) : Prop := ∀ k, T k → k < w.heap.size
def Apart (S T : Nat → Prop) : Prop := ∀ k, S k → T k → False
theorem Apart.symm {S T : Nat → Prop} (h : Apart S T) : Apart T S := fun k a b => h k b a
theorem Apart.none (T : Nat → Prop) : Apart NoBlock T := fun _ h _ => h
theorem InHeap.none (w : World) : InHeap NoBlock w := fun _ h => h.elim
theorem InHeap.more {T : Nat → Prop} {w w' : World} (h : InHeap T w) (hs : w.heap.size ≤ w'.heap.size) : InHeap T w' := fun k hk => Nat.lt_of_lt_of_le (h k hk) hs
theorem Turn.refl (S : Nat → Prop) (w : World) : Turn S w w := ⟨rfl, rfl, rfl, Nat.le_refl _, fun _ _ _ => rfl⟩
theorem Turn.trans {S : Nat → Prop} {a b c : World} (h : Turn S a b) (k : Turn S b c) : Turn S a c :=
  ⟨k.os.trans h.os, k.tape.trans h.tape, k.output.trans h.output, Nat.le_trans h.size k.size, fun i hi hn => (k.block i (Nat.lt_of_lt_of_le hi h.size) hn).trans (h.block i hi hn)⟩
theorem Turn.mono {S T : Nat → Prop} {w w' : World} (h : Turn S w w') (hs : ∀ k, S k → T k) : Turn T w w' := ⟨h.os, h.tape, h.output, h.size, fun k hk hn => h.block k hk fun e => hn (hs k e)⟩
theorem Turn.drewN (S : Nat → Prop) (w : World) (n : Nat) : Turn S w (w.drewN n) := ⟨rfl, rfl, rfl, Nat.le_refl _, fun _ _ _ => rfl⟩
theorem Turn.of_below (S : Nat → Prop) {w w' : World} (h : Below w.heap.size w w') : Turn S w w' := ⟨h.os, h.tape, h.output, h.size, fun k hk _ => h.block k hk⟩
theorem Turn.alloc (S : Nat → Prop) (w : World) (o : Obj) : Turn S w (w.alloc o) := Turn.of_below S ((Below.refl _ _).alloc (Nat.le_refl _) o)
theorem Turn.of_grown {S : Nat → Prop} {w w' : World} {row : Option Nat} (h : w.grownBy w' row) (hr : ∀ k, row = some k → S k) : Turn S w w' :=
  ⟨h.os, h.tape, h.output, h.size, fun k hk hn => h.block k hk fun e => hn (hr k e.symm)⟩
theorem Turn.set {S : Nat → Prop} (w : World) {b : Nat} (i : Nat) (v : Value) (h : S b) : Turn S w (w.setCell ⟨b, i, none⟩ v) := Turn.of_grown (grown_set b i v) fun k e => by injection e with e; rw [← e]; exact h
theorem Turn.below {S : Nat → Prop} {B : Nat} {a w w' : World} (h : Turn S w w') (hb : Below B a w) (hB : B ≤ w.heap.size) (hS : ∀ k, S k → B ≤ k) : Below B a w' :=
  hb.trans ⟨h.os, h.tape, h.output, h.size, fun k hk => h.block k (by omega) fun e => by have := hS k e; omega⟩
theorem Turn.none {w w' : World} (h : Turn NoBlock w w') : Below w.heap.size w w' := ⟨h.os, h.tape, h.output, h.size, fun k hk => h.block k hk fun e => e⟩

/-- What lies in blocks of T stays. -/
structure Same (T : Nat → Prop) (w w' : World) : Prop where
  size : w.heap.size ≤ w'.heap.size
  block : ∀ k, T k → k < w.heap.size → w'.heap[k]? = w.heap[k]?
theorem Turn.same {S T : Nat → Prop} {w w' : World} (h : Turn S w w') (ha : Apart S T) : Same T w w' := ⟨h.size, fun k ht hk => h.block k hk fun hs => ha k hs ht⟩
theorem Same.of_below (T : Nat → Prop) {w w' : World} (h : Below w.heap.size w w') : Same T w w' := ⟨h.size, fun k _ hk => h.block k hk⟩
theorem Same.drewN (T : Nat → Prop) (w : World) (n : Nat) : Same T w (w.drewN n) := ⟨Nat.le_refl _, fun _ _ _ => rfl⟩
theorem Same.alloc (T : Nat → Prop) (w : World) (o : Obj) : Same T w (w.alloc o) := Same.of_below T ((Below.refl _ _).alloc (Nat.le_refl _) o)

/-- A thing in blocks of S has become one in blocks of S': only blocks of S have turned, and S' has of what was there no more than S. -/
structure Moved (S : Nat → Prop) (w : World) (S' : Nat → Prop) (w' : World) : Prop where
  turn : Turn S w w'
  new : ∀ k, S' k → S k ∨ w.heap.size ≤ k
theorem Moved.trans {S S1 S2 : Nat → Prop} {a b c : World} (h : Moved S a S1 b) (k : Moved S1 b S2 c) : Moved S a S2 c := by
  refine ⟨⟨k.turn.os.trans h.turn.os, k.turn.tape.trans h.turn.tape, k.turn.output.trans h.turn.output, Nat.le_trans h.turn.size k.turn.size, fun i hi hn => ?_⟩, fun i hi => ?_⟩
  · refine (k.turn.block i (Nat.lt_of_lt_of_le hi h.turn.size) fun e => ?_).trans (h.turn.block i hi hn)
    rcases h.new i e with e | e
    · exact hn e
    · omega
  · rcases k.new i hi with e | e
    · exact h.new i e
    · exact .inr (Nat.le_trans h.turn.size e)
theorem Moved.refl (S : Nat → Prop) (w : World) : Moved S w S w := ⟨Turn.refl S w, fun _ h => .inl h⟩
theorem Moved.of_turn {S : Nat → Prop} {w w' : World} (h : Turn S w w') : Moved S w S w' := ⟨h, fun _ h => .inl h⟩
theorem Moved.of_below (S : Nat → Prop) {w w' : World} (h : Below w.heap.size w w') : Moved S w S w' := .of_turn (.of_below S h)
theorem Moved.apart {S S' T : Nat → Prop} {w w' : World} (h : Moved S w S' w') (ha : Apart S T) (ht : InHeap T w) : Apart S' T := fun k hs htk => by
  rcases h.new k hs with e | e
  · exact ha k e htk
  · have := ht k htk; omega
theorem Moved.from_ {S S' : Nat → Prop} {B : Nat} {w w' : World} (h : Moved S w S' w') (hS : ∀ k, S k → B ≤ k) (hB : B ≤ w.heap.size) : ∀ k, S' k → B ≤ k := fun k hk => by
  rcases h.new k hk with e | e
  · exact hS k e
  · omega
theorem Moved.below {S S' : Nat → Prop} {B : Nat} {a w w' : World} (h : Moved S w S' w') (hb : Below B a w) (hB : B ≤ w.heap.size) (hS : ∀ k, S k → B ≤ k) : Below B a w' := h.turn.below hb hB hS

/-- A slice of ints that reads as xs; if it has any, it lies in a block of T. -/
def IntsF (w : World) (T : Nat → Prop) (A : Option Addr) (xs : List Int) : Prop := xs = [] ∨ ∃ b off, A = some ⟨b, off, none⟩ ∧ T b ∧ b < w.heap.size ∧ ∀ (k : Nat) (x : Int), xs[k]? = some x → w.cell? ⟨b, off + k, none⟩ = some (.int .i64 x)
theorem IntsF.keep {w w' : World} {T : Nat → Prop} {A : Option Addr} {xs : List Int} (h : IntsF w T A xs) (hs : Same T w w') : IntsF w' T A xs := by
  rcases h with h | ⟨b, off, e, ht, hb, hc⟩
  · exact .inl h
  · exact .inr ⟨b, off, e, ht, Nat.lt_of_lt_of_le hb hs.size, fun k x hx => (World.cell?_of_block (w := w) (a := ⟨b, off + k, none⟩) (hs.block b ht hb)).trans (hc k x hx)⟩
theorem IntsF.more {w : World} {T T' : Nat → Prop} {A : Option Addr} {xs : List Int} (h : IntsF w T A xs) (ht : ∀ k, T k → T' k) : IntsF w T' A xs := by
  rcases h with h | ⟨b, off, e, h1, hb, hc⟩
  · exact .inl h
  · exact .inr ⟨b, off, e, ht b h1, hb, hc⟩
theorem IntsF.ints {w : World} {T : Nat → Prop} {A : Option Addr} {xs : List Int} (h : IntsF w T A xs) : IntsAt w A xs := by
  rcases h with h | ⟨b, off, e, _, hb, hc⟩
  · exact .inl h
  · exact .inr ⟨b, off, e, hb, hc⟩
theorem IntsF.at_ {w : World} {T : Nat → Prop} {A : Option Addr} {xs : List Int} {k : Nat} {x : Int} (h : IntsF w T A xs) (hk : xs[k]? = some x) : ∃ b off, A = some ⟨b, off, none⟩ ∧ b < w.heap.size ∧ T b ∧ w.cell? ⟨b, off + k, none⟩ = some (.int .i64 x) := by
  rcases h with h | ⟨b, off, e, ht, hb, hc⟩
  · subst h; cases hk
  · exact ⟨b, off, e, hb, ht, hc k x hk⟩
/-- A slice of bools likewise. -/
def BoolsF (w : World) (T : Nat → Prop) (A : Option Addr) (xs : List Bool) : Prop := xs = [] ∨ ∃ b off, A = some ⟨b, off, none⟩ ∧ T b ∧ b < w.heap.size ∧ ∀ (k : Nat) (x : Bool), xs[k]? = some x → w.cell? ⟨b, off + k, none⟩ = some (.bool x)
theorem BoolsF.keep {w w' : World} {T : Nat → Prop} {A : Option Addr} {xs : List Bool} (h : BoolsF w T A xs) (hs : Same T w w') : BoolsF w' T A xs := by
  rcases h with h | ⟨b, off, e, ht, hb, hc⟩
  · exact .inl h
  · exact .inr ⟨b, off, e, ht, Nat.lt_of_lt_of_le hb hs.size, fun k x hx => (World.cell?_of_block (w := w) (a := ⟨b, off + k, none⟩) (hs.block b ht hb)).trans (hc k x hx)⟩
theorem BoolsF.more {w : World} {T T' : Nat → Prop} {A : Option Addr} {xs : List Bool} (h : BoolsF w T A xs) (ht : ∀ k, T k → T' k) : BoolsF w T' A xs := by
  rcases h with h | ⟨b, off, e, h1, hb, hc⟩
  · exact .inl h
  · exact .inr ⟨b, off, e, ht b h1, hb, hc⟩
theorem BoolsF.at_ {w : World} {T : Nat → Prop} {A : Option Addr} {xs : List Bool} {k : Nat} {x : Bool} (h : BoolsF w T A xs) (hk : xs[k]? = some x) : ∃ b off, A = some ⟨b, off, none⟩ ∧ b < w.heap.size ∧ T b ∧ w.cell? ⟨b, off + k, none⟩ = some (.bool x) := by
  rcases h with h | ⟨b, off, e, ht, hb, hc⟩
  · subst h; cases hk
  · exact ⟨b, off, e, hb, ht, hc k x hk⟩

/-! ### a row that a thing owns -/
theorem row_same {w w' : World} {T : Nat → Prop} {b : Nat} {t : TypeId} {n : Nat} {f : Nat → Value} (h : w.rowIs b t n f) (hs : Same T w w') (ht : T b) : w'.rowIs b t n f := h.of_block (hs.block b ht h.lt)
theorem own_same {w w' : World} {T : Nat → Prop} {base n size : Nat} {t : TypeId} {v : Value} {xs : List Value} (h : w.ownsRow base t size v n xs) (hs : Same T w w') (ht : ∀ k, v.ownBlock = some k → T k) : w'.ownsRow base t size v n xs := by
  refine ⟨h.1, ?_⟩
  rcases h.2 with hn | ⟨g, cap, cur, rfl, hb, hg, rest⟩
  · exact .inl hn
  · exact .inr ⟨g, cap, cur, rfl, hb, (hs.block g (ht g rfl) (Array.getElem?_eq_some_iff.1 hg).1).trans hg, rest⟩
theorem own_other {w : World} {base n size : Nat} {t : TypeId} {v : Value} {xs : List Value} (h : w.ownsRow base t size v n xs) {b : Nat} (hb : v.ownBlock ≠ some b) (i : Nat) (u : Value) : (w.setCell ⟨b, i, none⟩ u).ownsRow base t size v n xs :=
  h.kept (grown_set b i u) (.inr hb)
/-- A number of the row set. -/
theorem own_set {w : World} {base n : Nat} {t : TypeId} {g cap : Nat} {xs : List Value} (h : w.ownsRow base t 1 (.slice (some ⟨g, 0, none⟩) n cap) n xs) (i : Nat) (u : Value) : (w.setCell ⟨g, i, none⟩ u).ownsRow base t 1 (.slice (some ⟨g, 0, none⟩) n cap) n (xs.set i u) := by
  have hl := h.1
  rcases h.2 with ⟨e, _⟩ | ⟨g', cap', cur, e, hb, hg, h1, h2, h3, h4⟩
  · cases e
  · injection e with e1 e2 e3
    injection e1 with e1
    injection e1 with e1
    subst e1 e3
    refine ⟨by rw [List.length_set]; exact hl, .inr ⟨g, cap, cur.setIfInBounds i u, rfl, hb, ?_, h1, h2, by simpa using h3, ?_⟩⟩
    · simp [World.setCell, Array.getElem?_modify, hg]
    · rw [Array.toList_setIfInBounds, List.take_set, h4]
/-- The row cut to its first numbers. -/
theorem own_cut {w : World} {base n : Nat} {t : TypeId} {g cap : Nat} {xs : List Value} (h : w.ownsRow base t 1 (.slice (some ⟨g, 0, none⟩) n cap) n xs) {m : Nat} (hm : m ≤ n) : w.ownsRow base t 1 (.slice (some ⟨g, 0, none⟩) m cap) m (xs.take m) := by
  have hl := h.1
  rcases h.2 with ⟨e, _⟩ | ⟨g', cap', cur, e, hb, hg, h1, h2, h3, h4⟩
  · cases e
  · injection e with e1 e2 e3
    injection e1 with e1
    injection e1 with e1
    subst e1 e3
    refine ⟨by rw [List.length_take]; omega, .inr ⟨g, cap, cur, rfl, hb, hg, by omega, h2, h3, ?_⟩⟩
    rw [← h4, List.take_take]
    congr 1
    omega
theorem own_len {w : World} {base n : Nat} {t : TypeId} {v : Value} {xs : List Value} (h : w.ownsRow base t 1 v n xs) : ∃ A c, v = .slice A n c ∧ n ≤ c := by
  rcases h.2 with ⟨rfl, rfl⟩ | ⟨g, cap, cur, rfl, _, _, hc, _⟩
  · exact ⟨none, 0, rfl, Nat.le_refl _⟩
  · exact ⟨_, cap, rfl, hc⟩
theorem own_some {w : World} {base n : Nat} {t : TypeId} {v : Value} {xs : List Value} (h : w.ownsRow base t 1 v n xs) (hn : 0 < n) : ∃ g c, v = .slice (some ⟨g, 0, none⟩) n c ∧ n ≤ c ∧ g < w.heap.size := by
  rcases h.2 with ⟨rfl, rfl⟩ | ⟨g, cap, cur, rfl, _, hg, hc, _⟩
  · omega
  · exact ⟨g, cap, rfl, hc, (Array.getElem?_eq_some_iff.1 hg).1⟩
theorem own_like {w : World} {base n m : Nat} {t : TypeId} {v : Value} {xs ys : List Value} (h : w.ownsRow base t 1 v n xs) (hn : n = m) (e : xs = ys) : w.ownsRow base t 1 v m ys := by subst hn e; exact h
theorem own_intsF {w : World} {T : Nat → Prop} {base : Nat} {v : Value} {l : List Nat} {n : Nat} (h : w.ownsRow base 3 1 v n (vals l)) (hn : n = l.length) (ht : ∀ k, v.ownBlock = some k → T k) : ∃ A c, v = .slice A l.length c ∧ l.length ≤ c ∧ IntsF w T A (ints l) := by
  subst hn
  obtain ⟨A, c, rfl, hi, _⟩ := own_ints h
  obtain ⟨A', c', e, hc⟩ := own_len h
  injection e with e1 _ e3
  subst e1 e3
  refine ⟨A, c, rfl, hc, ?_⟩
  rcases hi with hi | ⟨b, off, e, hb, hcell⟩
  · exact .inl hi
  · subst e
    exact .inr ⟨b, off, rfl, ht b rfl, hb, hcell⟩
/-- Cells of a slice, one a thing, whatever they hold. -/
def CellsF (w : World) (T : Nat → Prop) (A : Option Addr) (xs : List Value) : Prop := xs = [] ∨ ∃ b off, A = some ⟨b, off, none⟩ ∧ T b ∧ b < w.heap.size ∧ ∀ (k : Nat) (x : Value), xs[k]? = some x → w.cell? ⟨b, off + k, none⟩ = some x
theorem IntsF.cells {w : World} {T : Nat → Prop} {A : Option Addr} {xs : List Int} (h : IntsF w T A xs) : CellsF w T A (xs.map (.int .i64)) := by
  rcases h with rfl | ⟨b, off, e, ht, hb, hc⟩
  · exact .inl rfl
  · refine .inr ⟨b, off, e, ht, hb, fun k x hx => ?_⟩
    rw [List.getElem?_map] at hx
    cases ey : xs[k]? with
    | none => rw [ey] at hx; cases hx
    | some y => rw [ey] at hx; injection hx with hx; rw [← hx]; exact hc k y ey
theorem BoolsF.cells {w : World} {T : Nat → Prop} {A : Option Addr} {xs : List Bool} (h : BoolsF w T A xs) : CellsF w T A (xs.map .bool) := by
  rcases h with rfl | ⟨b, off, e, ht, hb, hc⟩
  · exact .inl rfl
  · refine .inr ⟨b, off, e, ht, hb, fun k x hx => ?_⟩
    rw [List.getElem?_map] at hx
    cases ey : xs[k]? with
    | none => rw [ey] at hx; cases hx
    | some y => rw [ey] at hx; injection hx with hx; rw [← hx]; exact hc k y ey
theorem CellsF.keep {w w' : World} {T : Nat → Prop} {A : Option Addr} {xs : List Value} (h : CellsF w T A xs) (hs : Same T w w') : CellsF w' T A xs := by
  rcases h with h | ⟨b, off, e, ht, hb, hc⟩
  · exact .inl h
  · exact .inr ⟨b, off, e, ht, Nat.lt_of_lt_of_le hb hs.size, fun k x hx => (World.cell?_of_block (w := w) (a := ⟨b, off + k, none⟩) (hs.block b ht hb)).trans (hc k x hx)⟩
def bools (l : List Bool) : List Value := l.map .bool
theorem bools_at {l : List Bool} {p : Nat} {x : Bool} (h : l[p]? = some x) : (bools l)[p]? = some (.bool x) := by unfold bools; rw [List.getElem?_map, h]; rfl
theorem own_boolsF {w : World} {T : Nat → Prop} {base : Nat} {v : Value} {l : List Bool} {n : Nat} (h : w.ownsRow base 4 1 v n (bools l)) (hn : n = l.length) (ht : ∀ k, v.ownBlock = some k → T k) : ∃ A c, v = .slice A l.length c ∧ l.length ≤ c ∧ BoolsF w T A l := by
  subst hn
  obtain ⟨A, c, rfl, hc⟩ := own_len h
  refine ⟨A, c, rfl, hc, ?_⟩
  by_cases h0 : l.length = 0
  · exact .inl (List.eq_nil_of_length_eq_zero h0)
  · obtain ⟨g, c', e, _, hg⟩ := own_some h (by omega)
    injection e with e1 _ e3
    subst e1 e3
    refine .inr ⟨g, 0, rfl, ht g rfl, hg, fun k x hx => ?_⟩
    have hk := (List.getElem?_eq_some_iff.1 hx).1
    rw [Nat.zero_add, World.ownsRow.cellAt h k (by omega), bools_at hx]

section
variable {P : Program} (w : World)
theorem run_append_cells (base : Nat) (t ty e : TypeId) (i : TypeInfo) (z : Value) (by_ : Nat) (ht : P.underlying t = some (.slice e)) (hi : P.info? e = some i) (hz : i.zero = some z) (hsize : i.size = 1) (hby : i.bytes = by_) (hzs : z.cells.size = 1)
    (v : Value) (n : Nat) (xs : List Value) (hown : w.ownsRow base e 1 v n xs) (T : Nat → Prop) (A : Option Addr) (m c : Nat) (zs : List Value) (hr : CellsF w T A zs) (hm : m = zs.length) (h1 : ∀ u ∈ zs, u.oneCell' = true)
    (h63 : n + m ≤ 9223372036854775807) (hbytes : (n + m) * by_ ≤ 140737488355328) (hbase : base ≤ w.heap.size) :
    ∃ v' w', (Builtin.append_ #[t, t] ty #[v, .slice A m c]).run P w = .ok v' w' ∧ w'.ownsRow base e 1 v' (n + m) (xs ++ zs) ∧ w.grownBy w' v.ownBlock ∧ (v'.ownBlock = v.ownBlock ∨ v'.ownBlock = some w.heap.size) := by
  rcases A with _ | ad
  · have hz0 : zs = [] := by
      rcases hr with h | ⟨b, off, h, _⟩
      · exact h
      · cases h
    subst hz0
    subst hm
    have hrun : (Builtin.append_ #[t, t] ty #[v, .slice none 0 c]).run P w = .ok v w := by
      rcases hown.2 with ⟨rfl, rfl⟩ | ⟨g, cap, cur, rfl, _, _, hnc, _⟩
      · simp [Builtin.append_, run_underlying ht, sizeOf, typeInfo, hi, Builtin.lenOf, Builtin.firstCells]
      · simp [Builtin.append_, run_underlying ht, sizeOf, typeInfo, hi, Builtin.lenOf, Builtin.firstCells, hnc, storeCells]
    exact ⟨v, w, hrun, by simpa using hown, World.grownBy.refl w _, .inl rfl⟩
  · obtain ⟨v', w', hrun, h2, h3, _, h5⟩ := run_append_own_at (P := P) w base t ty e i z 1 by_ ht hi hz hsize hby hzs (by decide) v n xs hown ad m c zs (by rw [Nat.mul_one]; exact hm.symm) (fun j u hj => by
        rcases hr with h | ⟨b, off, h, _, _, hc⟩
        · subst h; cases hj
        · injection h with h
          subst h
          rw [Addr.add_lit]
          exact hc j u hj) h1 (by unfold maxLen; omega) hbytes hbase
    exact ⟨v', w', hrun, h2, h3, h5⟩
theorem wpList_append_cells {ops : Array Oper} {rest : List Oper} {o : Oper} {a : Act} {Q : Exit → Act → World → Prop} (hgd : o.guard = none) (s x : Operand) (t : TypeId)
    (ho : o.op = .call { callee := .builtin .append, args := #[s, x], argTypes := #[t, t] })
    (base : Nat) (e : TypeId) (i : TypeInfo) (z : Value) (by_ : Nat) (ht : P.underlying t = some (.slice e)) (hi : P.info? e = some i) (hz : i.zero = some z) (hsize : i.size = 1) (hby : i.bytes = by_) (hzs : z.cells.size = 1)
    (v : Value) (n : Nat) (xs : List Value) (hs : a.eval s = v) (hown : w.ownsRow base e 1 v n xs) (T : Nat → Prop) (A : Option Addr) (m c : Nat) (zs : List Value) (hx : a.eval x = .slice A m c) (hr : CellsF w T A zs) (hm : m = zs.length) (h1 : ∀ u ∈ zs, u.oneCell' = true)
    (h63 : n + m ≤ 9223372036854775807) (hbytes : (n + m) * by_ ≤ 140737488355328) (hbase : base ≤ w.heap.size)
    (h : ∀ v' w', w'.ownsRow base e 1 v' (n + m) (xs ++ zs) → w.grownBy w' v.ownBlock → (v'.ownBlock = v.ownBlock ∨ v'.ownBlock = some w.heap.size) → wpList P ops Q rest (a.put o.dst v') w') : wpList P ops Q (o :: rest) a w := by
  refine wpList_plain hgd fun K hK' => ?_
  obtain ⟨v', w', hrun, h2, h3, h4⟩ := run_append_cells (P := P) w base t o.type e i z by_ ht hi hz hsize hby hzs v n xs hown T A m c zs hr hm h1 h63 hbytes hbase
  unfold Oper.wp execOp
  simp only [ho, resolve, invoke, builtin, Sem.run_bind, Sem.run_pure, Result.andThen_ok, List.map_toArray, List.map_cons, List.map_nil, hs, hx, hrun]
  exact hK' _ _ (h v' w' h2 h3 h4)
/-- append([]T{}, xs...): a copy, in a row of its own. -/
theorem wpList_append_copy {ops : Array Oper} {rest : List Oper} {o : Oper} {a : Act} {Q : Exit → Act → World → Prop} (hgd : o.guard = none) (s x : Operand) (t : TypeId)
    (ho : o.op = .call { callee := .builtin .append, args := #[s, x], argTypes := #[t, t] })
    (e : TypeId) (i : TypeInfo) (z : Value) (by_ : Nat) (ht : P.underlying t = some (.slice e)) (hi : P.info? e = some i) (hz : i.zero = some z) (hsize : i.size = 1) (hby : i.bytes = by_) (hzs : z.cells.size = 1)
    (hs : a.eval s = .slice (some ⟨w.heap.size, 0, none⟩) 0 0) (T : Nat → Prop) (A : Option Addr) (m c : Nat) (zs : List Value) (hx : a.eval x = .slice A m c) (hr : CellsF w T A zs) (hm : m = zs.length) (h1 : ∀ u ∈ zs, u.oneCell' = true)
    (h63 : m ≤ 9223372036854775807) (hbytes : m * by_ ≤ 140737488355328)
    (h : ∀ v' w', w'.ownsRow w.heap.size e 1 v' m zs → Below w.heap.size w w' → w.heap.size < w'.heap.size → wpList P ops Q rest (a.put o.dst v') w') : wpList P ops Q (o :: rest) a (w.alloc (.cells #[] e)) := by
  have own0 : (w.alloc (.cells #[] e)).ownsRow w.heap.size e 1 (.slice (some ⟨w.heap.size, 0, none⟩) 0 0) 0 [] := World.ownsRow_lit w #[] 0 (Nat.le_refl _) (by unfold maxLen; omega) (by simp)
  have b0 : Below w.heap.size w (w.alloc (.cells #[] e)) := (Below.refl _ _).alloc (Nat.le_refl _) _
  refine wpList_append_cells _ hgd s x t ho w.heap.size e i z by_ ht hi hz hsize hby hzs (.slice (some ⟨w.heap.size, 0, none⟩) 0 0) 0 [] hs own0 T A m c zs hx (hr.keep (.alloc T w _)) hm h1 (by omega) (by rw [Nat.zero_add]; exact hbytes) (by simp) ?_
  intro v' w' hown hgr _
  rw [Nat.zero_add, List.nil_append] at hown
  refine h v' w' hown (b0.grown hgr (by simp) fun k hk => ?_) ?_
  · have e' : some w.heap.size = some k := hk
    injection e' with e'
    omega
  · have := hgr.size
    simp at this
    omega
end
/-- Of a block of four cells each. -/
theorem row4 {w : World} {b : Nat} {t : TypeId} {f : Nat → Value} (h : w.rowIs b t 4 f) : w.heap[b]? = some (.cells #[f 0, f 1, f 2, f 3] t (0, 0)) := by
  obtain ⟨c, hb, hn, hc⟩ := h
  rw [hb]
  congr 2
  apply Array.ext
  · simpa using hn
  · intro i h1 h2
    have h3 := hc i (by omega)
    rw [Array.getElem?_eq_getElem h1] at h3
    injection h3 with h3
    rw [h3]
    have h4 : i < 4 := by omega
    match i, h4 with
    | 0, _ => rfl
    | 1, _ => rfl
    | 2, _ => rfl
    | 3, _ => rfl
/-- What T had, and what has been made since. -/
def Plus (T : Nat → Prop) (w w' : World) : Nat → Prop := fun k => T k ∨ (w.heap.size ≤ k ∧ k < w'.heap.size)
theorem Plus.heap {T : Nat → Prop} {w w' : World} (h : InHeap T w) (hs : w.heap.size ≤ w'.heap.size) : InHeap (Plus T w w') w' := fun k hk => by
  rcases hk with hk | hk
  · have := h k hk; omega
  · exact hk.2
theorem Plus.apart {S T : Nat → Prop} {w w' : World} (h : Apart S T) (hS : InHeap S w) : Apart S (Plus T w w') := fun k hs hk => by
  rcases hk with hk | hk
  · exact h k hs hk
  · have := hS k hs; omega
end Go.Proofs.Ytiidkfcblnkghaa
