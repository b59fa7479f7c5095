/- Words for the walks of every layer: what one call turns (one block, one part of memory), slices of ints that are read or made, small facts. -/
import Derived.Test.YtgooajgoofojmaaDoorProg
import Derived.WalkKit
import Derived.Deep.QuietTactic
import Derived.Deep.OwnRows
import Derived.Maps.AppendAt
import Derived.Maps.RangeWalk
import Derived.Deep.AppendLies
import Derived.BigQuiet
import Derived.Outline
import Derived.Lib.Hide
import Derived.StillTailTactics
import Derived.OwnWalk
import Derived.Laws.AppendOwn
import Derived.Laws.OwnMore
import Derived.Laws.MakeOwn
import Derived.Deep.Onto
namespace Go.Proofs.YtgooajgoofojmaaDoor
open Go.RowKit

theorem ret_int {k : IntKind} {a b : Int} (h : a = b) : Ending.returned (.int k a) = .returned (.int k b) := by rw [h]
theorem ret_bool {a b : Bool} (h : a = b) : Ending.returned (.bool a) = .returned (.bool b) := by rw [h]
theorem not_any : ∀ (x : Bool) (w : World), (Op.unary .not (.bool x)).run Tryd.prog w = .ok (.bool (!x)) w := fun _ _ => rfl

/-! ### one block turned at most -/
theorem grown_drewN {a w : World} {row : Option Nat} (h : a.grownBy w row) (n : Nat) : a.grownBy (w.drewN n) row := ⟨h.os, h.tape, h.output, h.size, h.block⟩
theorem grown_alloc {a w : World} {row : Option Nat} (h : a.grownBy w row) (o : Obj) : a.grownBy (w.alloc o) row := h.trans (World.grownBy_alloc w o row)
theorem grown_set {w : World} (b : Nat) (i : Nat) (v : Value) : w.grownBy (w.setCell ⟨b, i, none⟩ v) (some b) :=
  ⟨rfl, rfl, rfl, by simp [World.setCell], fun k _ hne => Below.heap_setCell _ _ _ _ fun e => hne (by rw [e])⟩
theorem grown_of_below {a w : World} (h : Below a.heap.size a w) (row : Option Nat) : a.grownBy w row := ⟨h.os, h.tape, h.output, h.size, fun i hi _ => h.block i hi⟩
theorem below_grown {B : Nat} {a b c : World} {row : Option Nat} (h : Below B a b) (hg : b.grownBy c row) (hB : B ≤ b.heap.size) (hr : ∀ k, row = some k → B ≤ k) : Below B a c := h.grown hg hB hr
theorem below_drewN {B : Nat} {a w : World} (h : Below B a w) (n : Nat) : Below B a (w.drewN n) := ⟨h.os, h.tape, h.output, h.size, h.block⟩
theorem row_drewN {w : World} {b : Nat} {t : TypeId} {n : Nat} {f : Nat → Value} (h : w.rowIs b t n f) (k : Nat) : (w.drewN k).rowIs b t n f := h
theorem row_grown {w w' : World} {b : Nat} {t : TypeId} {n : Nat} {f : Nat → Value} {row : Option Nat} (h : w.rowIs b t n f) (hg : w.grownBy w' row) (hne : some b ≠ row) : w'.rowIs b t n f := h.of_block (hg.block b h.lt hne)
theorem row_type {w : World} {b b' : Nat} {t t' : TypeId} {n n' : Nat} {f f' : Nat → Value} (h : w.rowIs b t n f) (h' : w.rowIs b' t' n' f') (ht : t ≠ t') : b ≠ b' := by
  rintro rfl
  obtain ⟨c, hb, _⟩ := h
  obtain ⟨c', hb', _⟩ := h'
  rw [hb] at hb'
  injection hb' with hb'
  injection hb' with _ e
  exact ht e

theorem quiet_eq {P : Program} {f : FuncId} {args : Array Value} {w : World} {n : Nat} {v : Value} (h : Calls P f args (w.drewN n) fun e w' => e = .returned v ∧ w.drewN n = w') : Calls P f args (w.drewN n) fun e w' => e = .returned v ∧ ∃ m, w' = w.drewN m :=
  h.mono fun _ _ ⟨he, hm⟩ => ⟨he, n, hm.symm⟩
theorem still_of {P : Program} {f : FuncId} {args : Array Value} {w : World} {v : Value} (h : Calls P f args w fun e w' => e = .returned v ∧ w = w') : Calls P f args w fun e w' => e = .returned v ∧ w' = w :=
  h.mono fun _ _ ⟨he, hm⟩ => ⟨he, hm.symm⟩
theorem int_info : (Tryd.prog.info? 3).map (fun i => (i.zero, i.size, i.bytes)) = some (some (.int .i64 0), 1, 8) := by kernel_rfl
/-- Numbers as cells. -/
def vals (l : List Nat) : List Value := l.map fun (i : Nat) => .int .i64 (i : Int)
theorem vals_length (l : List Nat) : (vals l).length = l.length := List.length_map ..
theorem vals_append (l m : List Nat) : vals (l ++ m) = vals l ++ vals m := List.map_append ..
theorem new_one (w : World) (x : Value) (t : TypeId) : ∀ (j : Nat) (u : Value), [x][j]? = some u → (w.alloc (.cells #[x] t)).cell? ((⟨w.heap.size, 0, none⟩ : Addr).add j) = some u := by
  intro j u h
  match j, h with
  | 0, h =>
    simp at h
    subst h
    simp [Addr.add]
theorem one_int (k : IntKind) (x : Int) : ∀ u ∈ [Value.int k x], u.oneCell' = true := by
  intro u h
  rw [List.mem_singleton.1 h]
  rfl
theorem enter_any {P : Program} {f : FuncId} {fn : Func} {c : Code} (hf : P.funcs[f]? = some fn) (hname : (fn.name == "runtime.NumGoroutine") = false) (hb : fn.body = some c) (args : Array Value) (w : World) : (callFunc f args).run P w = .ok (.enter f args) w := by
  have h1 : fn.name ≠ "runtime.NumGoroutine" := by simpa using hname
  simp [callFunc, hf, h1, hb]
theorem hide_calls {p : Prop} (h : p) : Hid p := h
/-- From w to w' nothing that was there has turned but in the part [lo, hi) of memory. -/
structure Chg (lo hi : Nat) (w w' : World) : Prop where
  os : w'.os = w.os
  tape : w'.tape = w.tape
  output : w'.output = w.output
  size : w.heap.size ≤ w'.heap.size
  block : ∀ k, k < w.heap.size → ¬ (lo ≤ k ∧ k < hi) → w'.heap[k]? = w.heap[k]?
theorem Chg.refl (lo hi : Nat) (w : World) : Chg lo hi w w := ⟨rfl, rfl, rfl, Nat.le_refl _, fun _ _ _ => rfl⟩
theorem Chg.trans {lo hi : Nat} {a b c : World} (h : Chg lo hi a b) (k : Chg lo hi b c) : Chg lo hi a c :=
  ⟨k.os.trans h.os, k.tape.trans h.tape, k.output.trans h.output, Nat.le_trans h.size k.size, fun i hi hn => (k.block i (Nat.lt_of_lt_of_le hi h.size) hn).trans (h.block i hi hn)⟩
theorem Chg.drewN (lo hi : Nat) (w : World) (n : Nat) : Chg lo hi w (w.drewN n) := ⟨rfl, rfl, rfl, Nat.le_refl _, fun _ _ _ => rfl⟩
theorem Chg.alloc (lo hi : Nat) (w : World) (o : Obj) : Chg lo hi w (w.alloc o) := ⟨rfl, rfl, rfl, by simp, fun k hk _ => Below.heap_alloc w o k hk⟩
theorem Chg.of_grown {lo hi : Nat} {w w' : World} {row : Option Nat} (h : w.grownBy w' row) (hr : ∀ k, row = some k → lo ≤ k ∧ k < hi) : Chg lo hi w w' :=
  ⟨h.os, h.tape, h.output, h.size, fun k hk hn => h.block k hk fun e => hn (hr k e.symm)⟩
theorem Chg.of_below {lo hi : Nat} {w w' : World} (h : Below w.heap.size w w') : Chg lo hi w w' := ⟨h.os, h.tape, h.output, h.size, fun k hk _ => h.block k hk⟩
theorem Chg.below {lo hi B : Nat} {a w w' : World} (h : Chg lo hi w w') (hb : Below B a w) (hB : B ≤ w.heap.size) (hlo : B ≤ lo ∨ hi ≤ lo) : Below B a w' :=
  hb.trans ⟨h.os, h.tape, h.output, h.size, fun k hk => h.block k (by omega) (by omega)⟩
theorem Chg.mono {lo hi lo' hi' : Nat} {w w' : World} (h : Chg lo hi w w') (h1 : lo' ≤ lo) (h2 : hi ≤ hi') : Chg lo' hi' w w' :=
  ⟨h.os, h.tape, h.output, h.size, fun k hk hn => h.block k hk (by omega)⟩
/-- A slice of ints that reads as xs. -/
def IntsAt (w : World) (A : Option Addr) (xs : List Int) : Prop := xs = [] ∨ ∃ b off, A = some ⟨b, off, none⟩ ∧ b < w.heap.size ∧ ∀ (k : Nat) (x : Int), xs[k]? = some x → w.cell? ⟨b, off + k, none⟩ = some (.int .i64 x)
theorem IntsAt.at_ {w : World} {A : Option Addr} {xs : List Int} {k : Nat} (h : IntsAt w A xs) (hk : k < xs.length) : ∃ b off, A = some ⟨b, off, none⟩ ∧ w.cell? ⟨b, off + k, none⟩ = some (.int .i64 (xs[k]'hk)) := by
  rcases h with h | ⟨b, off, e, _, hc⟩
  · subst h; simp at hk
  · exact ⟨b, off, e, hc k _ (List.getElem?_eq_getElem hk)⟩
theorem IntsAt.keep {w w' : World} {A : Option Addr} {xs : List Int} (h : IntsAt w A xs) (hk : ∀ b, b < w.heap.size → w'.heap[b]? = w.heap[b]?) (hz : w.heap.size ≤ w'.heap.size) : IntsAt w' A xs := by
  rcases h with h | ⟨b, off, e, hb, hc⟩
  · exact .inl h
  · exact .inr ⟨b, off, e, Nat.lt_of_lt_of_le hb hz, fun k x hx => (World.cell?_of_block (w := w) (a := ⟨b, off + k, none⟩) (hk b hb)).trans (hc k x hx)⟩
theorem IntsAt.below {w w' : World} {A : Option Addr} {xs : List Int} (h : IntsAt w A xs) (hb : Below w.heap.size w w') : IntsAt w' A xs := h.keep hb.block hb.size
theorem IntsAt.drewN {w : World} {A : Option Addr} {xs : List Int} (h : IntsAt w A xs) (n : Nat) : IntsAt (w.drewN n) A xs := h
theorem IntsAt.alloc {w : World} {A : Option Addr} {xs : List Int} (h : IntsAt w A xs) (o : Obj) : IntsAt (w.alloc o) A xs := h.below ((Below.refl _ _).alloc (Nat.le_refl _) o)
theorem IntsAt.far {w w' : World} {A : Option Addr} {xs : List Int} {row : Option Nat} (h : IntsAt w A xs) (hg : w.grownBy w' row) (hne : ∀ b off, A = some ⟨b, off, none⟩ → some b ≠ row) : IntsAt w' A xs := by
  rcases h with h | ⟨b, off, e, hb, hc⟩
  · exact .inl h
  · exact .inr ⟨b, off, e, Nat.lt_of_lt_of_le hb hg.size, fun k x hx => hg.cell (hc k x hx) (hne b off e)⟩
/-- Numbers as ints. -/
def ints (l : List Nat) : List Int := l.map fun (i : Nat) => (i : Int)
theorem ints_length (l : List Nat) : (ints l).length = l.length := List.length_map ..
theorem ints_inj {l m : List Nat} : ints l = ints m ↔ l = m := by
  unfold ints
  constructor
  · exact fun h => (List.map_inj_right (f := fun (i : Nat) => (i : Int)) (fun a b e => by have : (a : Int) = (b : Int) := e; omega)).1 h
  · rintro rfl; rfl
theorem mem_ints {l : List Nat} {x : Nat} : (x : Int) ∈ ints l ↔ x ∈ l := by
  unfold ints
  rw [List.mem_map]
  constructor
  · rintro ⟨a, ha, e⟩
    have : a = x := by omega
    rw [← this]; exact ha
  · exact fun h => ⟨x, h, rfl⟩
/-- What a call has made of ints reads so. -/
theorem own_ints {w : World} {base : Nat} {v : Value} {l : List Nat} (h : w.ownsRow base 3 1 v l.length (vals l)) : ∃ A c, v = .slice A l.length c ∧ IntsAt w A (ints l) ∧ ∀ b off, A = some ⟨b, off, none⟩ → base ≤ b := by
  rcases h.2 with ⟨rfl, hn⟩ | ⟨g, cap, cur, rfl, hb, hg, _, _, _, _⟩
  · exact ⟨none, 0, by rw [hn], .inl (by rw [List.eq_nil_of_length_eq_zero hn]; rfl), fun b off e => by cases e⟩
  · refine ⟨some ⟨g, 0, none⟩, cap, rfl, .inr ⟨g, 0, rfl, (Array.getElem?_eq_some_iff.1 hg).1, fun k x hx => ?_⟩, fun b off e => ?_⟩
    · have hk : k < l.length := by
        have := (List.getElem?_eq_some_iff.1 hx).1
        rwa [ints_length] at this
      have := World.ownsRow.cellAt h k (by omega)
      rw [Nat.zero_add, this]
      unfold vals
      unfold ints at hx
      rw [List.getElem?_map] at hx ⊢
      cases e : l[k]? with
      | none => rw [e] at hx; cases hx
      | some y => rw [e] at hx; simp at hx; simp [hx]
    · injection e with e
      injection e with e
      rw [← e]; exact hb

/-- A slice of ints that lies in [lo, hi). -/
def IntsIn (w : World) (lo hi : Nat) (A : Option Addr) (xs : List Int) : Prop := IntsAt w A xs ∧ hi ≤ w.heap.size ∧ ∀ b off, A = some ⟨b, off, none⟩ → lo ≤ b ∧ b < hi
theorem IntsIn.chg {lo hi lo' hi' : Nat} {w w' : World} {A : Option Addr} {xs : List Int} (h : IntsIn w lo hi A xs) (hc : Chg lo' hi' w w') (hd : hi ≤ lo' ∨ hi' ≤ lo ∨ hi' ≤ lo') : IntsIn w' lo hi A xs := by
  obtain ⟨h1, h2, h3⟩ := h
  refine ⟨?_, Nat.le_trans h2 hc.size, h3⟩
  rcases h1 with h | ⟨b, off, e, hb, hcell⟩
  · exact .inl h
  · have := h3 b off e
    exact .inr ⟨b, off, e, Nat.lt_of_lt_of_le hb hc.size, fun k x hx => (World.cell?_of_block (w := w) (a := ⟨b, off + k, none⟩) (hc.block b hb (by omega))).trans (hcell k x hx)⟩
theorem own_in {w0 w : World} {v : Value} {l : List Nat} (h : w.ownsRow w0.heap.size 3 1 v l.length (vals l)) : ∃ A c, v = .slice A l.length c ∧ IntsIn w w0.heap.size w.heap.size A (ints l) := by
  obtain ⟨A, c, e, hi, hb⟩ := own_ints h
  refine ⟨A, c, e, hi, Nat.le_refl _, fun b off eb => ⟨hb b off eb, ?_⟩⟩
  have := (h.lt b (by rw [e, eb]; rfl)).2
  exact this
end Go.Proofs.YtgooajgoofojmaaDoor
