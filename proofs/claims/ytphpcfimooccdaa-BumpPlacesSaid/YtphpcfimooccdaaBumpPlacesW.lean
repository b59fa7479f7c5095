/- The walk of BumpPlaces. -/
import Derived.Test.YtphpcfimooccdaaBumpPlace
namespace Go.Proofs.Ytphpcfimooccdaa
open Go.RowKit

/-! ### a block of four cells -/
def fourF (a b c d : Value) : Nat → Value
  | 0 => a
  | 1 => b
  | 2 => c
  | _ => d
theorem four_lit (w : World) (a b c d : Value) (t : TypeId) : (w.alloc (.cells #[a, b, c, d] t)).rowIs w.heap.size t 4 (fourF a b c d) := World.rowIs_alloc w #[a, b, c, d] t (fourF a b c d) (by
  intro i hi
  match i, hi with
  | 0, _ => rfl
  | 1, _ => rfl
  | 2, _ => rfl
  | 3, _ => rfl)
theorem four_any {W0 : World} {g : Nat} {t : TypeId} {f : Nat → Value} (h : W0.rowIs g t 4 f) {W : World} (hb : Below W0.heap.size W0 W) : W.cell? ⟨g, 0, none⟩ = some (f 0) ∧ W.cell? ⟨g, 1, none⟩ = some (f 1) ∧ W.cell? ⟨g, 2, none⟩ = some (f 2) ∧ W.cell? ⟨g, 3, none⟩ = some (f 3) := by
  have k := h.of_block (hb.block g h.lt)
  exact ⟨k.cell (by omega), k.cell (by omega), k.cell (by omega), k.cell (by omega)⟩
theorem quiet_below {P : Program} {f : FuncId} {args : Array Value} {w : World} {v : Value} (h : Calls P f args w fun e w' => e = .returned v ∧ w = w') : Calls P f args w fun e w' => e = .returned v ∧ Below w.heap.size w w' :=
  h.mono fun _ _ ⟨he, hw⟩ => ⟨he, hw ▸ Below.refl _ _⟩
set_option maxHeartbeats 1600000 in
theorem places_any {w : World} {a b c d : Int} (ha : InInt a) (hb : InInt b) (hc : InInt c) (hd : InInt d) : Calls Try.prog 3 #[.agg #[.int .i64 a, .int .i64 b, .int .i64 c, .int .i64 d]] w (TrueBelow w) := by
  have hnot := not_any
  have n0 := four_lit w (.int .i64 a) (.int .i64 b) (.int .i64 c) (.int .i64 d) 22
  have b0 := new_below w (.cells #[.int .i64 a, .int .i64 b, .int .i64 c, .int .i64 d] 22)
  have HA := Lib.hid ha
  have HB' := Lib.hid hb
  have HC' := Lib.hid hc
  have HD := Lib.hid hd
  obtain ⟨x, ex⟩ : ∃ x, placeA a b c d = x := ⟨_, rfl⟩
  obtain ⟨y, ey⟩ : ∃ x, placeN a b c d = x := ⟨_, rfl⟩
  obtain ⟨e, ee⟩ : ∃ x, placeE a b c d = x := ⟨_, rfl⟩
  obtain ⟨u, eu⟩ : ∃ x, wasteV a c = x := ⟨_, rfl⟩
  have EX := Lib.hid ex
  have EY := Lib.hid ey
  have EE := Lib.hid ee
  have EU := Lib.hid eu
  clear ex ey ee eu ha hb hc hd
  go_enter Try.func3, Try.ntmps3
  go_upto_region 1 with fail
  generalize w.alloc (.cells #[.int .i64 a, .int .i64 b, .int .i64 c, .int .i64 d] 22) = W0 at *
  have HC : Hid (∀ W, Below W0.heap.size W0 W → (W.cell? ⟨w.heap.size, 0, none⟩ = some (.int .i64 a) ∧ W.cell? ⟨w.heap.size, 1, none⟩ = some (.int .i64 b) ∧ W.cell? ⟨w.heap.size, 2, none⟩ = some (.int .i64 c) ∧ W.cell? ⟨w.heap.size, 3, none⟩ = some (.int .i64 d)) ∧ Below w.heap.size w W) := fun W hW => ⟨four_any n0 hW, b0.trans (hW.mono b0.size)⟩
  have hl0 := n0.lt
  have HL : Hid (w.heap.size < W0.heap.size) := hl0
  clear n0 b0 hl0
  obtain ⟨⟨c0, c1, c2, c3⟩, bw⟩ := HC.out _ (Below.refl _ _)
  go_wp2_with fail
  refine (place_is _ HA.out HB'.out HC'.out HD.out EX.out EY.out EE.out).mono ?_
  rintro e' w' ⟨rfl, rfl⟩
  go_wp2_with fail
  refine (rplace_is _ HA.out HB'.out HC'.out HD.out EX.out EY.out EE.out).mono ?_
  rintro e' w' ⟨rfl, rfl⟩
  have z1 : (x == x) = true := by simp
  have z2 : (y == y) = true := by simp
  have z3 : (e == e) = true := by simp
  have z4 : (u == u) = true := by simp
  clear c0 c1 c2 c3 bw
  have c0 : ∀ q : From W0, q.W.cell? ⟨w.heap.size, 0, none⟩ = some (.int .i64 a) := fun q => (HC.out _ q.bel).1.1
  have c2 : ∀ q : From W0, q.W.cell? ⟨w.heap.size, 2, none⟩ = some (.int .i64 c) := fun q => (HC.out _ q.bel).1.2.2.1
  have hb1 := Below.refl W0.heap.size W0
  have R1 : Hid (∀ p : From W0, Calls Try.prog 7 #[.int .i64 a, .int .i64 c] p.W fun e' w' => e' = .returned (.int .i64 u) ∧ Below p.W.heap.size p.W w') := fun p => quiet_below (waste_is _ HA.out HC'.out EU.out)
  have R2 : Hid (∀ p : From W0, Calls Try.prog 8 #[.int .i64 a, .int .i64 c] p.W fun e' w' => e' = .returned (.int .i64 u) ∧ Below p.W.heap.size p.W w') := fun p => quiet_below (rwaste_is _ HA.out HC'.out EU.out)
  have R3 : Hid (∀ p : From W0, Calls Try.prog 9 #[] p.W fun e' w' => e' = .returned (.bool true) ∧ Below p.W.heap.size p.W w') := fun p => quiet_below (works_any _)
  go_upto_region 3 with fail
  refine wp_region_from (w0 := W0) (by kernel_rfl) (by kernel_rfl) hb1 ?_
  repeat (go_big_quiet_step (first
    | (go_at_call 7; with_reducible refine from_of (R1.out _))
    | (go_at_call 8; with_reducible refine from_of (R2.out _))
    | (go_at_call 9; with_reducible refine from_of (R3.out _))))
  refine wpQuiet_nil ?_
  intro wq hw'
  obtain ⟨⟨wy, hq⟩, hw''⟩ := hw'
  subst hw''
  have B := Lib.hid (HC.out _ hq).2
  clear c0 c2 R1 R2 R3 hb1
  go_wp2
  go_ret
  exact ⟨rfl, B.out⟩
end Go.Proofs.Ytphpcfimooccdaa
