/- Layer 2 (bits): the table of math/bits, the row of a set, how many zeros a number ends with. -/
import Derived.Test.YtgooajgoofojmaaDoorFreeBtPut
import Derived.Test.YtgooajgoofojmaaDoorShelf
namespace Go.Proofs.YtgooajgoofojmaaDoor
open Go.RowKit

/-! ### the table of math/bits -/
/-- The block of math/bits.deBruijn64tab holds what its initialiser lays. -/
def TabOk (w : World) : Prop := ∀ j, j < 64 → w.cell? ⟨0, j, none⟩ = some (.int .u8 (Lib.deBruijn64tab.getD j 0))
theorem TabOk.keep {w w' : World} (h : TabOk w) (hb : ∀ i v, w.cell? ⟨0, i, none⟩ = some v → w'.cell? ⟨0, i, none⟩ = some v) : TabOk w' := fun j hj => hb _ _ (h j hj)
theorem TabOk.lt {w : World} (h : TabOk w) : 0 < w.heap.size := by
  have := h 0 (by omega)
  rcases Nat.lt_or_ge 0 w.heap.size with hl | hl
  · exact hl
  · simp [World.cell?, Array.getElem?_eq_none hl] at this
theorem TabOk.drewN {w : World} (h : TabOk w) (n : Nat) : TabOk (w.drewN n) := h
theorem TabOk.drew {w : World} (h : TabOk w) : TabOk w.drew := h
theorem TabOk.below {B : Nat} {w w' : World} (h : TabOk w) (hb : Below B w w') (hB : 0 < B) : TabOk w' := h.keep fun _ _ hc => (hb.cell hB).trans hc
theorem TabOk.grown {w w' : World} {row : Option Nat} (h : TabOk w) (hg : w.grownBy w' row) (hne : some 0 ≠ row) : TabOk w' := h.keep fun _ _ hc => hg.cell hc hne
theorem TabOk.alloc {w : World} (h : TabOk w) (o : Obj) : TabOk (w.alloc o) := h.grown (World.grownBy_alloc w o none) (by simp)

theorem row_any {w : World} {g : Nat} {A : Option Addr} {size : Nat} {f : Nat → Bool} (h : SetAt w g A size f) : Calls Tryd.prog 41 #[.pointer (some ⟨g, 0, none⟩)] w fun e w' => e = .returned (.slice A (nw size) (nw size)) ∧ w = w' := by
  obtain ⟨d, hd⟩ := h.head
  have h0 : w.cell? ⟨g, 1, none⟩ = some (.slice A (nw size) (nw size)) := hd.cell (i := 1) (by omega)
  clear hd h
  go_enter Tryd.func41, Tryd.ntmps41
  go_wp2
  go_ret
  exact ⟨rfl, rfl⟩
theorem row_nil (w : World) : Calls Tryd.prog 41 #[.pointer none] w fun e w' => e = .returned (.slice none 0 0) ∧ w = w' := by
  go_enter Tryd.func41, Tryd.ntmps41
  go_wp2
  go_ret
  exact ⟨rfl, rfl⟩
theorem tz_any {x : Nat} (hx : x < 18446744073709551616) (w : World) (hT : TabOk w) : Calls Tryd.prog 42 #[.int .u64 x] w fun e w' => e = .returned (.int .i64 (Lib.ctz 64 x)) ∧ w = w' :=
  (Any7.bits_TrailingZeros64 Tryd.lays7n29 x hx w fun _ => hT).mono fun _ _ ⟨he, hw⟩ => ⟨he, hw.symm⟩
end Go.Proofs.YtgooajgoofojmaaDoor
