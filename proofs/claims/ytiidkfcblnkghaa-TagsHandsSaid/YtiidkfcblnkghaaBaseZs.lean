/- A slice of any ints that lies from a block on, its capacity at least its length: what the documents' own answers are handed and give (BaseList says the same of numbers alone). -/
import Derived.Test.YtiidkfcblnkghaaBase
namespace Go.Proofs.Ytiidkfcblnkghaa
open Go.RowKit

/-- v is a slice that reads as l; what it has lies from block lo on. -/
def ZsAt (w : World) (lo : Nat) (v : Value) (l : List Int) : Prop := ∃ A c, v = .slice A l.length c ∧ l.length ≤ c ∧ IntsAt w A l ∧ ∀ b off, A = some ⟨b, off, none⟩ → lo ≤ b
theorem IntsAt.chg' {w w' : World} {lo lo' hi' : Nat} {A : Option Addr} {xs : List Int} (h : IntsAt w A xs) (hb : ∀ b off, A = some ⟨b, off, none⟩ → lo ≤ b) (hc : Chg lo' hi' w w') (hd : hi' ≤ lo ∨ hi' ≤ lo') : IntsAt w' A xs := by
  rcases h with h | ⟨b, off, e, hlt, hcell⟩
  · exact .inl h
  · have := hb b off e
    exact .inr ⟨b, off, e, Nat.lt_of_lt_of_le hlt hc.size, fun k x hx => (World.cell?_of_block (w := w) (a := ⟨b, off + k, none⟩) (hc.block b hlt (by omega))).trans (hcell k x hx)⟩
theorem ZsAt.chg {w w' : World} {lo lo' hi' : Nat} {v : Value} {l : List Int} (h : ZsAt w lo v l) (hc : Chg lo' hi' w w') (hd : hi' ≤ lo ∨ hi' ≤ lo') : ZsAt w' lo v l := by
  obtain ⟨A, c, e, h1, h2, h3⟩ := h
  exact ⟨A, c, e, h1, h2.chg' h3 hc hd, h3⟩
theorem ZsAt.below {w w' : World} {lo : Nat} {v : Value} {l : List Int} (h : ZsAt w lo v l) (hb : Below w.heap.size w w') : ZsAt w' lo v l := h.chg (Chg.of_below (lo := 0) (hi := 0) hb) (by omega)
theorem ZsAt.drewN {w : World} {lo : Nat} {v : Value} {l : List Int} (h : ZsAt w lo v l) (n : Nat) : ZsAt (w.drewN n) lo v l := h.chg (Chg.drewN 0 0 w n) (by omega)
theorem ZsAt.more {w : World} {lo lo' : Nat} {v : Value} {l : List Int} (h : ZsAt w lo v l) (hl : lo' ≤ lo) : ZsAt w lo' v l := by
  obtain ⟨A, c, e, h1, h2, h3⟩ := h
  exact ⟨A, c, e, h1, h2, fun b off eb => Nat.le_trans hl (h3 b off eb)⟩
theorem ZsAt.nil (w : World) (lo : Nat) : ZsAt w lo (.slice none 0 0) [] := ⟨none, 0, rfl, Nat.le_refl _, .inl rfl, fun b off e => by cases e⟩
theorem ZsAt.like {w : World} {lo : Nat} {v : Value} {l l' : List Int} (h : ZsAt w lo v l) (e : l = l') : ZsAt w lo v l' := by subst e; exact h
/-- What a call has made of ints reads so. -/
theorem own_zs {w : World} {base n : Nat} {v : Value} {l : List Int} (h : w.ownsRow base 3 1 v n (l.map (Value.int .i64))) (hn : n = l.length) :
    ∃ A c, v = .slice A l.length c ∧ l.length ≤ c ∧ IntsAt w A l ∧ ∀ b off, A = some ⟨b, off, none⟩ → base ≤ b ∧ b < w.heap.size := by
  subst hn
  rcases h.2 with ⟨rfl, hn⟩ | ⟨g, cap, cur, rfl, hb, hg, hc, _, _, _⟩
  · exact ⟨none, 0, by rw [hn], by omega, .inl (List.eq_nil_of_length_eq_zero hn), fun b off e => by cases e⟩
  · have hlt := (Array.getElem?_eq_some_iff.1 hg).1
    refine ⟨some ⟨g, 0, none⟩, cap, rfl, hc, .inr ⟨g, 0, rfl, hlt, fun k x hx => ?_⟩, fun b off e => ?_⟩
    · have hk : k < l.length := (List.getElem?_eq_some_iff.1 hx).1
      have := World.ownsRow.cellAt h k (by omega)
      rw [Nat.zero_add, this, List.getElem?_map, hx]
      rfl
    · injection e with e
      injection e with e
      rw [← e]; exact ⟨hb, hlt⟩
theorem own_zlist {w : World} {base n : Nat} {v : Value} {l : List Int} (h : w.ownsRow base 3 1 v n (l.map (Value.int .i64))) (hn : n = l.length) : ZsAt w base v l := by
  obtain ⟨A, c, e, h1, h2, h3⟩ := own_zs h hn
  exact ⟨A, c, e, h1, h2, fun b off eb => (h3 b off eb).1⟩
/-- A literal of ints reads so. -/
theorem lit_ints (w : World) (xs : List Int) : IntsAt (w.alloc (.cells (xs.map (Value.int .i64)).toArray 3)) (some ⟨w.heap.size, 0, none⟩) xs := by
  refine .inr ⟨w.heap.size, 0, rfl, by simp, fun k x hx => ?_⟩
  have hk := (List.getElem?_eq_some_iff.1 hx).1
  have := World.rowIs_alloc w (xs.map (Value.int .i64)).toArray 3 (fun i => .int .i64 (xs[i]?.getD 0)) (by
    intro i hi
    have hi' : i < xs.length := by simpa using hi
    simp [hi'])
  have := this.cell (i := k) (by simpa using hk)
  rw [Nat.zero_add, this, hx]
  rfl
end Go.Proofs.Ytiidkfcblnkghaa
