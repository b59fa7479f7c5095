/- The walk of DigitsReads. -/
import Derived.Test.YtcafppconcghhaaDoorDigitsWorks
namespace Go.Proofs.YtcafppconcghhaaDoor
open Go.RowKit
open Go.Lib (itoa)

theorem two_cells (w : World) (a b : Value) (t : TypeId) {W : World} (hb : Below (w.alloc (.cells #[a, b] t)).heap.size (w.alloc (.cells #[a, b] t)) W) : W.cell? ⟨w.heap.size, 0, none⟩ = some a ∧ W.cell? ⟨w.heap.size, 1, none⟩ = some b := by
  have h0 := heap_alloc_new w (.cells #[a, b] t)
  have hlt := (Array.getElem?_eq_some_iff.1 h0).1
  have h := (hb.block _ hlt).trans h0
  exact ⟨by rw [Lib.cell_of_heap h]; rfl, by rw [Lib.cell_of_heap h]; rfl⟩
set_option maxHeartbeats 2000000 in
theorem reads_any {w : World} {n lo hi : Int} {s : ByteArray} (hn : -9223372036854775808 ≤ n ∧ n ≤ 9223372036854775807) (hT : Tabs w.heap.size w) : Calls Tryd.prog 3 #[.int .i64 n, .string s, .agg #[.int .i64 lo, .int .i64 hi]] w fun e w' => e = .returned (.bool true) ∧ Below w.heap.size w w' := by
  have B0 := (Below.refl w.heap.size w).alloc (Nat.le_refl _) (.cells #[.int .i64 lo, .int .i64 hi] 22)
  have HC0 : Hid (∀ W, Below (w.alloc (.cells #[.int .i64 lo, .int .i64 hi] 22)).heap.size (w.alloc (.cells #[.int .i64 lo, .int .i64 hi] 22)) W → W.cell? ⟨w.heap.size, 0, none⟩ = some (.int .i64 lo) ∧ W.cell? ⟨w.heap.size, 1, none⟩ = some (.int .i64 hi)) := fun W hW => two_cells w _ _ _ hW
  obtain ⟨a, p, hr⟩ : ∃ a p, readV (txt s) = (a, p) := ⟨_, _, rfl⟩
  obtain ⟨c, u, hw⟩ : ∃ c u, withinV (readV (txt s)) lo hi = (c, u) := ⟨_, _, rfl⟩
  obtain ⟨S, hS⟩ : ∃ S, mkT (itoa n) = S := ⟨_, rfl⟩
  have HN := Lib.hid hn
  have HT := Lib.hid hT
  have HR1 : Hid (∀ W, Calls Tryd.prog 8 #[.string s] W fun e w' => e = .returned (.tuple #[.int .i64 a, .bool p]) ∧ Below W.heap.size W w') := fun W => read_is W s hr
  have HR2 : Hid (∀ W, Calls Tryd.prog 9 #[.string s] W fun e w' => e = .returned (.tuple #[.int .i64 a, .bool p]) ∧ W = w') := fun W => refRead_is W s hr
  have HW1 : Hid (∀ W, Calls Tryd.prog 10 #[.string s, .int .i64 lo, .int .i64 hi] W fun e w' => e = .returned (.tuple #[.int .i64 c, .bool u]) ∧ Below W.heap.size W w') := fun W => within_is W s lo hi hw
  have HW2 : Hid (∀ W, Calls Tryd.prog 11 #[.string s, .int .i64 lo, .int .i64 hi] W fun e w' => e = .returned (.tuple #[.int .i64 c, .bool u]) ∧ W = w') := fun W => refWithin_is W s lo hi hw
  have HM1 : Hid (∀ W, Tabs w.heap.size W → Calls Tryd.prog 12 #[.int .i64 n] W fun e w' => e = .returned (.string S) ∧ Below W.heap.size W w') := fun W hT => by rw [← hS]; exact num_is W hn hT
  have HM2 : Hid (∀ W, Calls Tryd.prog 13 #[.int .i64 n] W fun e w' => e = .returned (.string S) ∧ W = w') := fun W => refNum_is W hn hS
  have z1 : (S.toList == S.toList) = true := by simp
  have z2 : (a == a) = true := by simp
  have z3 : (p == p) = true := by simp
  have z4 : (c == c) = true := by simp
  have z5 : (u == u) = true := by simp
  clear hr hw hS hn hT
  go_enter Tryd.func3, Tryd.ntmps3
  go_upto_region 1 with fail
  generalize w.alloc (.cells #[.int .i64 lo, .int .i64 hi] 22) = W0 at *
  have HB : Hid (∀ W, Below W0.heap.size W0 W → Below w.heap.size w W) := fun W hW => B0.trans (hW.mono B0.size)
  clear B0
  by_cases hsz : 100 < (s.size : Int)
  · go_wp2_with fail
    refine (works_is _ (HT.out.on (HB.out _ (Below.refl _ _))) (HB.out _ (Below.refl _ _)).size).mono ?_
    rintro e w9 ⟨rfl, b9⟩
    have B9 := HB.out _ b9
    go_wp2
    go_ret
    exact ⟨rfl, B9⟩
  · go_wp2_with fail
    refine (HR1.out _).mono ?_
    rintro e w1 ⟨rfl, b1⟩
    go_wp2_with fail
    refine (HR2.out _).mono ?_
    rintro e w2 ⟨rfl, rfl⟩
    obtain ⟨c0, c1⟩ := HC0.out _ b1
    go_wp2_with fail
    refine (HW1.out _).mono ?_
    rintro e w3 ⟨rfl, b3⟩
    have b4 := below_next b1.size b1 b3
    clear c0 c1 b3 b1
    obtain ⟨c0, c1⟩ := HC0.out _ b4
    go_wp2_with fail
    refine (HW2.out _).mono ?_
    rintro e w4 ⟨rfl, rfl⟩
    clear c0 c1
    go_wp2_with fail
    refine (HM1.out _ (HT.out.on (HB.out _ b4))).mono ?_
    rintro e w5 ⟨rfl, b5⟩
    have b6 := below_next b4.size b4 b5
    clear b4 b5
    go_wp2_with fail
    refine (HM2.out _).mono ?_
    rintro e w6 ⟨rfl, rfl⟩
    go_wp2_with fail
    refine (works_is _ (HT.out.on (HB.out _ b6)) (HB.out _ b6).size).mono ?_
    rintro e w9 ⟨rfl, b9⟩
    have B9 := HB.out _ (below_next b6.size b6 b9)
    go_wp2
    go_ret
    exact ⟨rfl, B9⟩
end Go.Proofs.YtcafppconcghhaaDoor
