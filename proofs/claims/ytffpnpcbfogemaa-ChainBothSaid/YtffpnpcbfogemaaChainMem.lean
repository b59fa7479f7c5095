/- Layer 5 (chain): how a chain lies in memory, what is kept of it by what. -/
import Derived.Test.YtffpnpcbfogemaaChainMath
import Derived.IntWalk
import Derived.Laws.Rows
import Derived.Laws.NewBlocks
namespace Go.Proofs.Ytffpnpcbfogemaa
open Go.RowKit

/-- Cells of things of three ints each. -/
def tri (a b c : Nat → Int) (j : Nat) : Value := .int .i64 (if j % 3 = 0 then a (j / 3) else if j % 3 = 1 then b (j / 3) else c (j / 3))
theorem tri_0 (a b c : Nat → Int) (i : Nat) : tri a b c (i * 3) = .int .i64 (a i) := by
  unfold tri; rw [if_pos (by omega), show i * 3 / 3 = i by omega]
theorem tri_1 (a b c : Nat → Int) (i : Nat) : tri a b c (i * 3 + 1) = .int .i64 (b i) := by
  unfold tri; rw [if_neg (by omega), if_pos (by omega), show (i * 3 + 1) / 3 = i by omega]
theorem tri_2 (a b c : Nat → Int) (i : Nat) : tri a b c (i * 3 + 2) = .int .i64 (c i) := by
  unfold tri; rw [if_neg (by omega), if_neg (by omega), show (i * 3 + 2) / 3 = i by omega]
theorem tri_set0 (a b c : Nat → Int) (i : Nat) (v : Int) (j : Nat) : (if j = i * 3 then .int .i64 v else tri a b c j) = tri (upd a i v) b c j := by
  by_cases h : j = i * 3
  · rw [if_pos h, h, tri_0, upd_same]
  · rw [if_neg h]
    unfold tri
    by_cases h0 : j % 3 = 0
    · rw [if_pos h0, if_pos h0, upd_ne (by omega)]
    · rw [if_neg h0, if_neg h0]
theorem tri_set1 (a b c : Nat → Int) (i : Nat) (v : Int) (j : Nat) : (if j = i * 3 + 1 then .int .i64 v else tri a b c j) = tri a (upd b i v) c j := by
  by_cases h : j = i * 3 + 1
  · rw [if_pos h, h, tri_1, upd_same]
  · rw [if_neg h]
    unfold tri
    by_cases h0 : j % 3 = 0
    · rw [if_pos h0, if_pos h0]
    · by_cases h1 : j % 3 = 1
      · rw [if_neg h0, if_neg h0, if_pos h1, if_pos h1, upd_ne (by omega)]
      · rw [if_neg h0, if_neg h0, if_neg h1, if_neg h1]
theorem tri_set2 (a b c : Nat → Int) (i : Nat) (v : Int) (j : Nat) : (if j = i * 3 + 2 then .int .i64 v else tri a b c j) = tri a b (upd c i v) j := by
  by_cases h : j = i * 3 + 2
  · rw [if_pos h, h, tri_2, upd_same]
  · rw [if_neg h]
    unfold tri
    by_cases h0 : j % 3 = 0
    · rw [if_pos h0, if_pos h0]
    · by_cases h1 : j % 3 = 1
      · rw [if_neg h0, if_neg h0, if_pos h1, if_pos h1]
      · rw [if_neg h0, if_neg h0, if_neg h1, if_neg h1, upd_ne (by omega)]
def chainF (R P : Option Nat) (L N : Nat) : Nat → Value
  | 0 => .slice (R.map fun b => ⟨b, 0, none⟩) L L
  | _ => .slice (P.map fun b => ⟨b, 0, none⟩) N N
/-- The cells of a chain: its own two, those of its lists, those of its nodes. -/
structure RawAt (w : World) (g : Nat) (R P : Option Nat) (L N : Nat) (F La C Pb Pn Pl : Nat → Int) : Prop where
  head : w.rowIs g 44 2 (chainF R P L N)
  rows : (R = none ∧ L = 0) ∨ ∃ b, R = some b ∧ w.rowIs b 54 (L * 3) (tri F La C)
  places : (P = none ∧ N = 0) ∨ ∃ b, P = some b ∧ w.rowIs b 60 (N * 3) (tri Pb Pn Pl)
  small : L ≤ 1048576 ∧ N ≤ 1048576
variable {w w' : World} {g : Nat} {R P : Option Nat} {L N : Nat} {F La C Pb Pn Pl : Nat → Int} {br bp : Nat}
theorem RawAt.glt (h : RawAt w g R P L N F La C Pb Pn Pl) : g < w.heap.size := h.head.lt
theorem RawAt.c0 (h : RawAt w g R P L N F La C Pb Pn Pl) : w.cell? ⟨g, 0, none⟩ = some (.slice (R.map fun b => ⟨b, 0, none⟩) L L) := h.head.cell (i := 0) (by omega)
theorem RawAt.c1 (h : RawAt w g R P L N F La C Pb Pn Pl) : w.cell? ⟨g, 1, none⟩ = some (.slice (P.map fun b => ⟨b, 0, none⟩) N N) := h.head.cell (i := 1) (by omega)
theorem RawAt.blkR (h : RawAt w g R P L N F La C Pb Pn Pl) (hL : 0 < L) : ∃ b, R = some b ∧ w.rowIs b 54 (L * 3) (tri F La C) := by
  rcases h.rows with ⟨_, h⟩ | h
  · omega
  · exact h
theorem RawAt.blkP (h : RawAt w g R P L N F La C Pb Pn Pl) (hN : 0 < N) : ∃ b, P = some b ∧ w.rowIs b 60 (N * 3) (tri Pb Pn Pl) := by
  rcases h.places with ⟨_, h⟩ | h
  · omega
  · exact h
theorem RawAt.rowR (h : RawAt w g (some br) P L N F La C Pb Pn Pl) : w.rowIs br 54 (L * 3) (tri F La C) := by
  rcases h.rows with ⟨h, _⟩ | ⟨b, e, h⟩
  · cases h
  · injection e with e; subst e; exact h
theorem RawAt.rowP (h : RawAt w g R (some bp) L N F La C Pb Pn Pl) : w.rowIs bp 60 (N * 3) (tri Pb Pn Pl) := by
  rcases h.places with ⟨h, _⟩ | ⟨b, e, h⟩
  · cases h
  · injection e with e; subst e; exact h
theorem RawAt.gr (h : RawAt w g (some br) P L N F La C Pb Pn Pl) : g ≠ br := row_type h.head h.rowR (by decide)
theorem RawAt.gp (h : RawAt w g R (some bp) L N F La C Pb Pn Pl) : g ≠ bp := row_type h.head h.rowP (by decide)
theorem RawAt.rp (h : RawAt w g (some br) P L N F La C Pb Pn Pl) : ∀ b, P = some b → b ≠ br := fun b e => by
  subst e; exact row_type h.rowP h.rowR (by decide)
theorem RawAt.pr (h : RawAt w g R (some bp) L N F La C Pb Pn Pl) : ∀ b, R = some b → b ≠ bp := fun b e => by
  subst e; exact row_type h.rowR h.rowP (by decide)
theorem RawAt.keep (h : RawAt w g R P L N F La C Pb Pn Pl) (hg : w'.heap[g]? = w.heap[g]?) (hr : ∀ b, R = some b → b < w.heap.size → w'.heap[b]? = w.heap[b]?) (hp : ∀ b, P = some b → b < w.heap.size → w'.heap[b]? = w.heap[b]?) : RawAt w' g R P L N F La C Pb Pn Pl := by
  refine ⟨h.head.of_block hg, ?_, ?_, h.small⟩
  · rcases h.rows with h | ⟨b, e, h⟩
    · exact .inl h
    · exact .inr ⟨b, e, h.of_block (hr b e h.lt)⟩
  · rcases h.places with h | ⟨b, e, h⟩
    · exact .inl h
    · exact .inr ⟨b, e, h.of_block (hp b e h.lt)⟩
theorem RawAt.below (h : RawAt w g R P L N F La C Pb Pn Pl) (hb : Below w.heap.size w w') : RawAt w' g R P L N F La C Pb Pn Pl := h.keep (hb.block _ h.glt) (fun b _ hl => hb.block b hl) (fun b _ hl => hb.block b hl)
theorem RawAt.drewN (h : RawAt w g R P L N F La C Pb Pn Pl) (n : Nat) : RawAt (w.drewN n) g R P L N F La C Pb Pn Pl := ⟨h.head, h.rows, h.places, h.small⟩
theorem RawAt.drew (h : RawAt w g R P L N F La C Pb Pn Pl) : RawAt w.drew g R P L N F La C Pb Pn Pl := ⟨h.head, h.rows, h.places, h.small⟩
theorem RawAt.like {F' La' C' Pb' Pn' Pl' : Nat → Int} (h : RawAt w g R P L N F La C Pb Pn Pl) (e1 : F = F') (e2 : La = La') (e3 : C = C') (e4 : Pb = Pb') (e5 : Pn = Pn') (e6 : Pl = Pl') : RawAt w g R P L N F' La' C' Pb' Pn' Pl' := by
  subst e1 e2 e3 e4 e5 e6; exact h
/-! ### one cell set -/
theorem RawAt.setRow {F' La' C' : Nat → Int} (h : RawAt w g (some br) P L N F La C Pb Pn Pl) (i : Nat) (v : Value) (e : ∀ j, (if j = i then v else tri F La C j) = tri F' La' C' j) :
    RawAt (w.setCell ⟨br, i, none⟩ v) g (some br) P L N F' La' C' Pb Pn Pl := by
  refine ⟨h.head.setOther (a := ⟨br, i, none⟩) h.gr v, .inr ⟨br, rfl, (h.rowR.set i v).congr fun j _ => e j⟩, ?_, h.small⟩
  rcases h.places with k | ⟨b, eb, k⟩
  · exact .inl k
  · exact .inr ⟨b, eb, k.setOther (a := ⟨br, i, none⟩) (h.rp b eb) v⟩
theorem RawAt.setPlace {Pb' Pn' Pl' : Nat → Int} (h : RawAt w g R (some bp) L N F La C Pb Pn Pl) (i : Nat) (v : Value) (e : ∀ j, (if j = i then v else tri Pb Pn Pl j) = tri Pb' Pn' Pl' j) :
    RawAt (w.setCell ⟨bp, i, none⟩ v) g R (some bp) L N F La C Pb' Pn' Pl' := by
  refine ⟨h.head.setOther (a := ⟨bp, i, none⟩) h.gp v, ?_, .inr ⟨bp, rfl, (h.rowP.set i v).congr fun j _ => e j⟩, h.small⟩
  rcases h.rows with k | ⟨b, eb, k⟩
  · exact .inl k
  · exact .inr ⟨b, eb, k.setOther (a := ⟨bp, i, none⟩) (h.pr b eb) v⟩
theorem RawAt.setF (h : RawAt w g (some br) P L N F La C Pb Pn Pl) (i : Nat) (v : Int) : RawAt (w.setCell ⟨br, i * 3, none⟩ (.int .i64 v)) g (some br) P L N (upd F i v) La C Pb Pn Pl := h.setRow _ _ (tri_set0 F La C i v)
theorem RawAt.setL (h : RawAt w g (some br) P L N F La C Pb Pn Pl) (i : Nat) (v : Int) : RawAt (w.setCell ⟨br, i * 3 + 1, none⟩ (.int .i64 v)) g (some br) P L N F (upd La i v) C Pb Pn Pl := h.setRow _ _ (tri_set1 F La C i v)
theorem RawAt.setC (h : RawAt w g (some br) P L N F La C Pb Pn Pl) (i : Nat) (v : Int) : RawAt (w.setCell ⟨br, i * 3 + 2, none⟩ (.int .i64 v)) g (some br) P L N F La (upd C i v) Pb Pn Pl := h.setRow _ _ (tri_set2 F La C i v)
theorem RawAt.setB (h : RawAt w g R (some bp) L N F La C Pb Pn Pl) (i : Nat) (v : Int) : RawAt (w.setCell ⟨bp, i * 3, none⟩ (.int .i64 v)) g R (some bp) L N F La C (upd Pb i v) Pn Pl := h.setPlace _ _ (tri_set0 Pb Pn Pl i v)
theorem RawAt.setN (h : RawAt w g R (some bp) L N F La C Pb Pn Pl) (i : Nat) (v : Int) : RawAt (w.setCell ⟨bp, i * 3 + 1, none⟩ (.int .i64 v)) g R (some bp) L N F La C Pb (upd Pn i v) Pl := h.setPlace _ _ (tri_set1 Pb Pn Pl i v)
theorem RawAt.setP (h : RawAt w g R (some bp) L N F La C Pb Pn Pl) (i : Nat) (v : Int) : RawAt (w.setCell ⟨bp, i * 3 + 2, none⟩ (.int .i64 v)) g R (some bp) L N F La C Pb Pn (upd Pl i v) := h.setPlace _ _ (tri_set2 Pb Pn Pl i v)
/-! ### cells read -/
theorem RawAt.cF (h : RawAt w g (some br) P L N F La C Pb Pn Pl) {i : Nat} (hi : i < L) : w.cell? ⟨br, i * 3, none⟩ = some (.int .i64 (F i)) := by rw [h.rowR.cell (by omega), tri_0]
theorem RawAt.cL (h : RawAt w g (some br) P L N F La C Pb Pn Pl) {i : Nat} (hi : i < L) : w.cell? ⟨br, i * 3 + 1, none⟩ = some (.int .i64 (La i)) := by rw [h.rowR.cell (by omega), tri_1]
theorem RawAt.cC (h : RawAt w g (some br) P L N F La C Pb Pn Pl) {i : Nat} (hi : i < L) : w.cell? ⟨br, i * 3 + 2, none⟩ = some (.int .i64 (C i)) := by rw [h.rowR.cell (by omega), tri_2]
theorem RawAt.cB (h : RawAt w g R (some bp) L N F La C Pb Pn Pl) {i : Nat} (hi : i < N) : w.cell? ⟨bp, i * 3, none⟩ = some (.int .i64 (Pb i)) := by rw [h.rowP.cell (by omega), tri_0]
theorem RawAt.cN (h : RawAt w g R (some bp) L N F La C Pb Pn Pl) {i : Nat} (hi : i < N) : w.cell? ⟨bp, i * 3 + 1, none⟩ = some (.int .i64 (Pn i)) := by rw [h.rowP.cell (by omega), tri_1]
theorem RawAt.cP (h : RawAt w g R (some bp) L N F La C Pb Pn Pl) {i : Nat} (hi : i < N) : w.cell? ⟨bp, i * 3 + 2, none⟩ = some (.int .i64 (Pl i)) := by rw [h.rowP.cell (by omega), tri_2]
/-- The cells lie in [lo, hi). -/
structure Part (g : Nat) (R P : Option Nat) (lo hi : Nat) : Prop where
  g : lo ≤ g ∧ g < hi
  r : ∀ b, R = some b → lo ≤ b ∧ b < hi
  p : ∀ b, P = some b → lo ≤ b ∧ b < hi
theorem RawAt.chg {lo hi lo' hi' : Nat} (h : RawAt w g R P L N F La C Pb Pn Pl) (hp : Part g R P lo hi) (hc : Chg lo' hi' w w') (hd : hi ≤ lo' ∨ hi' ≤ lo ∨ hi' ≤ lo') : RawAt w' g R P L N F La C Pb Pn Pl := by
  have := hp.g
  refine h.keep (hc.block _ h.glt (by omega)) (fun b e hl => hc.block b hl ?_) (fun b e hl => hc.block b hl ?_)
  · have := hp.r b e; omega
  · have := hp.p b e; omega
theorem Chg.set {lo hi : Nat} (w : World) {b : Nat} (i : Nat) (v : Value) (h1 : lo ≤ b) (h2 : b < hi) : Chg lo hi w (w.setCell ⟨b, i, none⟩ v) :=
  Chg.of_grown (grown_set b i v) fun k e => by injection e with e; omega

/-! ### a chain -/
/-- A chain of L lists over N nodes that has m lies in [lo, hi); or it is nil, and has none. -/
def ChainIn (w : World) (lo hi : Nat) (v : Value) (L N : Nat) (m : Nat → List Nat) : Prop :=
  Inv L N m ∧ hi ≤ w.heap.size ∧ ((v = .pointer none ∧ L = 0 ∧ N = 0) ∨ ∃ g R P F La C Pb Pn Pl, v = .pointer (some ⟨g, 0, none⟩) ∧ RawAt w g R P L N F La C Pb Pn Pl ∧ Rep L N m F La C Pb Pn Pl ∧ Part g R P lo hi)
theorem ChainIn.chg {lo hi lo' hi' : Nat} {v : Value} {m : Nat → List Nat} (h : ChainIn w lo hi v L N m) (hc : Chg lo' hi' w w') (hd : hi ≤ lo' ∨ hi' ≤ lo ∨ hi' ≤ lo') : ChainIn w' lo hi v L N m := by
  obtain ⟨h1, h2, h3⟩ := h
  refine ⟨h1, Nat.le_trans h2 hc.size, ?_⟩
  rcases h3 with h3 | ⟨g, R, P, F, La, C, Pb, Pn, Pl, e, k1, k2, k3⟩
  · exact .inl h3
  · exact .inr ⟨g, R, P, F, La, C, Pb, Pn, Pl, e, k1.chg k3 hc hd, k2, k3⟩
theorem ChainIn.below {lo hi : Nat} {v : Value} {m : Nat → List Nat} (h : ChainIn w lo hi v L N m) (hb : Below w.heap.size w w') : ChainIn w' lo hi v L N m := h.chg (Chg.of_below (lo := 0) (hi := 0) hb) (by omega)
theorem ChainIn.drewN {lo hi : Nat} {v : Value} {m : Nat → List Nat} (h : ChainIn w lo hi v L N m) (n : Nat) : ChainIn (w.drewN n) lo hi v L N m := h.chg (Chg.drewN 0 0 w n) (by omega)
theorem ChainIn.alloc {lo hi : Nat} {v : Value} {m : Nat → List Nat} (h : ChainIn w lo hi v L N m) (o : Obj) : ChainIn (w.alloc o) lo hi v L N m := h.chg (Chg.alloc 0 0 w o) (by omega)
theorem ChainIn.like {lo hi : Nat} {v : Value} {m m' : Nat → List Nat} (h : ChainIn w lo hi v L N m) (e : m = m') : ChainIn w lo hi v L N m' := by subst e; exact h
theorem ChainIn.small {lo hi : Nat} {v : Value} {m : Nat → List Nat} (h : ChainIn w lo hi v L N m) : L ≤ 1048576 ∧ N ≤ 1048576 := by
  obtain ⟨_, _, ⟨_, h1, h2⟩ | ⟨g, R, P, F, La, C, Pb, Pn, Pl, e, k1, k2, k3⟩⟩ := h
  · omega
  · exact k1.small
theorem ChainIn.raw {lo hi : Nat} {v : Value} {m : Nat → List Nat} (h : ChainIn w lo hi v L N m) (hp : 0 < L ∨ 0 < N) : ∃ g R P F La C Pb Pn Pl, v = .pointer (some ⟨g, 0, none⟩) ∧ RawAt w g R P L N F La C Pb Pn Pl ∧ Rep L N m F La C Pb Pn Pl ∧ Part g R P lo hi := by
  obtain ⟨_, _, ⟨_, h1, h2⟩ | h⟩ := h
  · omega
  · exact h
end Go.Proofs.Ytffpnpcbfogemaa
