/- Layer 2 (bits): how a set lies in memory, what is kept of it by what, and small facts for the walks. -/
import Derived.Test.YtgooajgoofojmaaDoorBase
import Derived.Test.YtgooajgoofojmaaDoorFreeBtMath
import Derived.WalkKit
import Derived.Deep.QuietTactic
import Derived.Deep.OwnRows
import Derived.Maps.AppendAt
import Derived.Maps.RangeWalk
import Derived.Deep.AppendLies
import Derived.BigQuiet
import Derived.Outline
import Derived.Lib.Hide
namespace Go.Proofs.YtgooajgoofojmaaDoor
open Go.RowKit

/-! ### a set in memory -/
def nw (size : Nat) : Nat := (size + 63) / 64
def setF (size : Nat) (A : Option Addr) (d : Bool) : Nat → Value
  | 0 => .int .i64 size
  | 1 => .slice A (nw size) (nw size)
  | 2 => .int .u32 (if d then 1 else 0)
  | 3 => .int .i32 0
  | 4 => .int .u32 0
  | j + 5 => .int .u8 (if d then pop 8 j else 0)
/-- The words of the set f: n of them from A on. -/
def WordsAt (w : World) (A : Option Addr) (n : Nat) (f : Nat → Bool) : Prop := n = 0 ∨ ∃ b, A = some ⟨b, 0, none⟩ ∧ w.rowIs b 70 n fun k => .int .u64 (word f k)
structure SetAt (w : World) (g : Nat) (A : Option Addr) (size : Nat) (f : Nat → Bool) : Prop where
  head : ∃ d, w.rowIs g 69 261 (setF size A d)
  body : WordsAt w A (nw size) f
  small : size ≤ 1048576
  out : ∀ j, size ≤ j → f j = false
/-- The block of the words. -/
def rowOf (A : Option Addr) : Option Nat := A.map (·.block)

theorem WordsAt.keep {w w' : World} {A : Option Addr} {n : Nat} {f : Nat → Bool} (h : WordsAt w A n f) (hb : ∀ b, A = some ⟨b, 0, none⟩ → b < w.heap.size → w'.heap[b]? = w.heap[b]?) : WordsAt w' A n f := by
  rcases h with h | ⟨b, e, hr⟩
  · exact .inl h
  · exact .inr ⟨b, e, hr.of_block (hb b e hr.lt)⟩
theorem WordsAt.congr {w : World} {A : Option Addr} {n : Nat} {f f' : Nat → Bool} (h : WordsAt w A n f) (e : ∀ k, k < n → word f k = word f' k) : WordsAt w A n f' := by
  rcases h with h | ⟨b, ea, hr⟩
  · exact .inl h
  · exact .inr ⟨b, ea, hr.congr fun k hk => by rw [e k hk]⟩
theorem WordsAt.at_ {w : World} {A : Option Addr} {n : Nat} {f : Nat → Bool} {k : Nat} (h : WordsAt w A n f) (hk : k < n) : ∃ b, A = some ⟨b, 0, none⟩ ∧ w.rowIs b 70 n (fun k => .int .u64 (word f k)) := by
  rcases h with h | h
  · omega
  · exact h
theorem SetAt.drewN {w : World} {g : Nat} {A : Option Addr} {size : Nat} {f : Nat → Bool} (h : SetAt w g A size f) (n : Nat) : SetAt (w.drewN n) g A size f := ⟨h.head, h.body, h.small, h.out⟩
theorem SetAt.drew {w : World} {g : Nat} {A : Option Addr} {size : Nat} {f : Nat → Bool} (h : SetAt w g A size f) : SetAt w.drew g A size f := ⟨h.head, h.body, h.small, h.out⟩
theorem SetAt.keep {w w' : World} {g : Nat} {A : Option Addr} {size : Nat} {f : Nat → Bool} (h : SetAt w g A size f) (hg : w'.heap[g]? = w.heap[g]?) (hb : ∀ b, A = some ⟨b, 0, none⟩ → b < w.heap.size → w'.heap[b]? = w.heap[b]?) : SetAt w' g A size f := by
  obtain ⟨d, hd⟩ := h.head
  exact ⟨⟨d, hd.of_block hg⟩, h.body.keep hb, h.small, h.out⟩
theorem SetAt.lt {w : World} {g : Nat} {A : Option Addr} {size : Nat} {f : Nat → Bool} (h : SetAt w g A size f) : g < w.heap.size := by
  obtain ⟨d, hd⟩ := h.head
  exact hd.lt
/-- A set lies elsewhere than what has turned. -/
theorem SetAt.grown {w w' : World} {g : Nat} {A : Option Addr} {size : Nat} {f : Nat → Bool} {row : Option Nat} (h : SetAt w g A size f) (hr : w.grownBy w' row) (hg : some g ≠ row) (hb : ∀ b, A = some ⟨b, 0, none⟩ → some b ≠ row) : SetAt w' g A size f :=
  h.keep (hr.block g h.lt hg) fun b e hl => hr.block b hl (hb b e)
theorem SetAt.alloc {w : World} {g : Nat} {A : Option Addr} {size : Nat} {f : Nat → Bool} (h : SetAt w g A size f) (o : Obj) : SetAt (w.alloc o) g A size f :=
  h.grown (World.grownBy_alloc w o none) (by simp) (fun _ _ => by simp)
theorem SetAt.below {B : Nat} {w w' : World} {g : Nat} {A : Option Addr} {size : Nat} {f : Nat → Bool} (h : SetAt w g A size f) (hw : Below B w w') (hg : g < B) (hb : ∀ b, A = some ⟨b, 0, none⟩ → b < B) : SetAt w' g A size f :=
  h.keep (hw.block g hg) fun b e _ => hw.block b (hb b e)
theorem SetAt.congr {w : World} {g : Nat} {A : Option Addr} {size : Nat} {f f' : Nat → Bool} (h : SetAt w g A size f) (e : ∀ j, f j = f' j) : SetAt w g A size f' := by
  have : f = f' := funext e
  subst this; exact h
theorem SetAt.set {w : World} {g b size : Nat} {f : Nat → Bool} {i x : Nat} (h : SetAt w g (some ⟨b, 0, none⟩) size f) (hi : i < size) (hgb : g ≠ b) (v : Bool) (e : x = word (upd f i v) (i / 64)) :
    SetAt (w.setCell ⟨b, i / 64, none⟩ (.int .u64 x)) g (some ⟨b, 0, none⟩) size (upd f i v) := by
  obtain ⟨⟨d, hd⟩, hb, hs, ho⟩ := h
  refine ⟨⟨d, hd.setOther hgb _⟩, ?_, hs, fun j hj => ?_⟩
  · rcases hb with hb | ⟨b', eb, hr⟩
    · exact .inl hb
    · injection eb with eb
      injection eb with eb
      subst eb
      refine .inr ⟨b, rfl, (hr.set (i / 64) (.int .u64 x)).congr fun k _ => ?_⟩
      by_cases hk : k = i / 64
      · subst hk; simp [e]
      · rw [if_neg hk, word_upd_other f v hk]
  · unfold upd
    rw [if_neg (by omega)]
    exact ho j hj
theorem grown_set_drewN (w : World) (n b i : Nat) (v : Value) : w.grownBy ((w.drewN n).setCell ⟨b, i, none⟩ v) (rowOf (some ⟨b, 0, none⟩)) := (grown_drewN (World.grownBy.refl w _) n).trans (grown_set b i v)
theorem nw_le {size : Nat} (h : size ≤ 1048576) : nw size ≤ 16384 := by unfold nw; omega
theorem div_lt_nw {size i : Nat} (h : i < size) : i / 64 < nw size := by unfold nw; omega
theorem nw_more (size : Nat) : size ≤ 64 * nw size := by unfold nw; omega
end Go.Proofs.YtgooajgoofojmaaDoor
