/- A slice of numbers that lies from a block on, its capacity at least its length: what the documents' own answers are handed and give. -/
import Derived.Test.YtgooajgoofojmaaDoorBaseHere
import Derived.Test.YtgooajgoofojmaaDoorBaseSame
namespace Go.Proofs.YtgooajgoofojmaaDoor
open Go.RowKit

/-- v is a slice that reads as l; what it has lies from block lo on. -/
def ListAt (w : World) (lo : Nat) (v : Value) (l : List Nat) : Prop := ∃ A c, v = .slice A l.length c ∧ l.length ≤ c ∧ IntsAt w A (ints l) ∧ ∀ b off, A = some ⟨b, off, none⟩ → lo ≤ b
theorem IntsAt.chg {w w' : World} {lo lo' hi' : Nat} {A : Option Addr} {xs : List Int} (h : IntsAt w A xs) (hb : ∀ b off, A = some ⟨b, off, none⟩ → lo ≤ b) (hc : Chg lo' hi' w w') (hd : hi' ≤ lo ∨ hi' ≤ lo') : IntsAt w' A xs := by
  rcases h with h | ⟨b, off, e, hlt, hcell⟩
  · exact .inl h
  · have := hb b off e
    exact .inr ⟨b, off, e, Nat.lt_of_lt_of_le hlt hc.size, fun k x hx => (World.cell?_of_block (w := w) (a := ⟨b, off + k, none⟩) (hc.block b hlt (by omega))).trans (hcell k x hx)⟩
theorem ListAt.chg {w w' : World} {lo lo' hi' : Nat} {v : Value} {l : List Nat} (h : ListAt w lo v l) (hc : Chg lo' hi' w w') (hd : hi' ≤ lo ∨ hi' ≤ lo') : ListAt w' lo v l := by
  obtain ⟨A, c, e, h1, h2, h3⟩ := h
  exact ⟨A, c, e, h1, h2.chg h3 hc hd, h3⟩
theorem ListAt.below {w w' : World} {lo : Nat} {v : Value} {l : List Nat} (h : ListAt w lo v l) (hb : Below w.heap.size w w') : ListAt w' lo v l := h.chg (Chg.of_below (lo := 0) (hi := 0) hb) (by omega)
theorem ListAt.drewN {w : World} {lo : Nat} {v : Value} {l : List Nat} (h : ListAt w lo v l) (n : Nat) : ListAt (w.drewN n) lo v l := h.chg (Chg.drewN 0 0 w n) (by omega)
theorem ListAt.more {w : World} {lo lo' : Nat} {v : Value} {l : List Nat} (h : ListAt w lo v l) (hl : lo' ≤ lo) : ListAt w lo' v l := by
  obtain ⟨A, c, e, h1, h2, h3⟩ := h
  exact ⟨A, c, e, h1, h2, fun b off eb => Nat.le_trans hl (h3 b off eb)⟩
theorem ListAt.nil (w : World) (lo : Nat) : ListAt w lo (.slice none 0 0) [] := ⟨none, 0, rfl, Nat.le_refl _, .inl rfl, fun b off e => by cases e⟩
theorem own_cap {w : World} {base n : Nat} {t : TypeId} {A : Option Addr} {len c : Nat} {xs : List Value} (h : w.ownsRow base t 1 (.slice A len c) n xs) : len = n ∧ n ≤ c := by
  rcases h.2 with ⟨e, hn⟩ | ⟨g, cap, cur, e, _, _, hc, _⟩
  · injection e with e1 e2 e3
    subst e2 e3
    omega
  · injection e with e1 e2 e3
    subst e2 e3
    exact ⟨rfl, hc⟩
theorem own_list {w : World} {base n : Nat} {v : Value} {l : List Nat} (h : w.ownsRow base 3 1 v n (vals l)) (hn : n = l.length) : ListAt w base v l := by
  subst hn
  obtain ⟨A, c, e, hi, hb⟩ := own_ints h
  subst e
  exact ⟨A, c, rfl, (own_cap h).2, hi, hb⟩
theorem vals_ints (l : List Nat) : (ints l).map (Value.int .i64) = vals l := by unfold ints vals; rw [List.map_map]; rfl
end Go.Proofs.YtgooajgoofojmaaDoor
