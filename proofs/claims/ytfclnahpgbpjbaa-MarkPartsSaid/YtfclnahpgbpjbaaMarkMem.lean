/- Layer 13 (mark): a mark in memory; what Load, Store and CompareAndSwap of its atomic number, New, Add and Sum return: contracts. -/
import Derived.Test.YtfclnahpgbpjbaaMarkNum
import Derived.Laws.LoneSync
import Derived.RegionCalls
import Derived.Test.YtfclnahpgbpjbaaBaseFrom
namespace Go.Proofs.Ytfclnahpgbpjbaa
open Go.RowKit

/-! ### the atomic number -/
theorem store_is (w : World) (q : Nat) (x : Value) (y : Int) (hc : w.cell? ⟨q, 1, none⟩ = some x) (hz : w.frozen? ⟨q, 1, none⟩ = false) :
    Calls Try.prog 16 #[.pointer (some ⟨q, 1, none⟩), .int .u64 y] w fun e w' => e = .returned (.tuple #[]) ∧ w.setCell ⟨q, 1, none⟩ (.int .u64 y) = w' := by
  have hst := run_call_store (P := Try.prog) Try.func19 (by kernel_rfl) (by kernel_rfl) (by kernel_rfl) (by kernel_rfl) (k := .u64) (y := y) hc hz
  go_enter Try.func16, Try.ntmps16
  go_wp2
  go_end0
  exact ⟨rfl, rfl⟩
theorem load_is (w : World) (q : Nat) (x : Int) (hc : w.cell? ⟨q, 1, none⟩ = some (.int .u64 x)) :
    Calls Try.prog 17 #[.pointer (some ⟨q, 1, none⟩)] w fun e w' => e = .returned (.int .u64 x) ∧ w = w' := by
  have hl := run_call_load (P := Try.prog) Try.func20 (by kernel_rfl) (by kernel_rfl) (by kernel_rfl) .u64 (by kernel_rfl) (w := w) (a := ⟨q, 1, none⟩) (x := x) hc
  go_enter Try.func17, Try.ntmps17
  go_wp2
  go_ret
  exact ⟨rfl, rfl⟩
theorem cas_is (w : World) (q : Nat) (x y : Int) (hc : w.cell? ⟨q, 1, none⟩ = some (.int .u64 x)) (hz : w.frozen? ⟨q, 1, none⟩ = false) :
    Calls Try.prog 18 #[.pointer (some ⟨q, 1, none⟩), .int .u64 x, .int .u64 y] w fun e w' => e = .returned (.bool true) ∧ w.setCell ⟨q, 1, none⟩ (.int .u64 y) = w' := by
  have hcas := run_call_cas_hit (P := Try.prog) Try.func21 (by kernel_rfl) (by kernel_rfl) (by kernel_rfl) .u64 (by kernel_rfl) (y := y) hc hz
  go_enter Try.func18, Try.ntmps18
  go_wp2
  go_ret
  exact ⟨rfl, rfl⟩

/-! ### a mark -/
def markF (b : Bool) (h : Nat) : Nat → Value
  | 0 => .bool b
  | _ => .int .u64 h
/-- A mark lies at q: begun or not, and what it is made of. -/
def MarkAt (w : World) (q : Nat) (b : Bool) (h : Nat) : Prop := w.rowIs q 37 2 (markF b h)
theorem MarkAt.put {w : World} {q : Nat} {b : Bool} {h : Nat} (hM : MarkAt w q b h) (y : Nat) : MarkAt (w.setCell ⟨q, 1, none⟩ (.int .u64 y)) q b y :=
  (World.rowIs.set hM 1 _).congr fun i hi => by
    match i, hi with
    | 0, _ => rfl
    | 1, _ => rfl
theorem mark_lit (w : World) (b : Bool) (h : Nat) : MarkAt (w.alloc (.cells #[.bool b, .int .u64 (h : Int)] 37)) w.heap.size b h :=
  World.rowIs_alloc w #[.bool b, .int .u64 (h : Int)] 37 (markF b h) (by
    intro i hi
    match i, hi with
    | 0, _ => rfl
    | 1, _ => rfl)
theorem MarkAt.of_block {w w' : World} {q : Nat} {b : Bool} {h : Nat} (hM : MarkAt w q b h) (hb : w'.heap[q]? = w.heap[q]?) : MarkAt w' q b h := World.rowIs.of_block hM hb
theorem MarkAt.lt {w : World} {q : Nat} {b : Bool} {h : Nat} (hM : MarkAt w q b h) : q < w.heap.size := World.rowIs.lt hM
theorem MarkAt.below {w w' : World} {q : Nat} {b : Bool} {h : Nat} (hM : MarkAt w q b h) (hb : Below w.heap.size w w') : MarkAt w' q b h := hM.of_block (hb.block q hM.lt)
theorem new_is (w : World) : Calls Try.prog 10 #[] w fun e w' => ∃ q, e = .returned (.pointer (some ⟨q, 0, none⟩)) ∧ w.heap.size ≤ q ∧ MarkAt w' q true firstM ∧ Below w.heap.size w w' := by
  have hM := mark_lit w true 0
  have hc := World.rowIs.cell hM (i := 1) (by omega)
  have hz := World.rowIs.frozen hM 1
  have HM := Lib.hid (mark_lit w true firstM)
  have HB := Lib.hid (new_below w (.cells #[.bool true, .int .u64 ((firstM : Nat) : Int)] 37))
  have HS := Lib.hid (store_is (w.alloc (.cells #[.bool true, .int .u64 ((0 : Nat) : Int)] 37)) w.heap.size _ (firstM : Int) hc hz)
  clear hM hc hz
  go_enter Try.func10, Try.ntmps10
  go_wp2_with fail
  refine HS.out.mono ?_
  rintro e w2 ⟨rfl, rfl⟩
  clear HS
  go_wp2
  go_ret
  exact ⟨w.heap.size, rfl, Nat.le_refl _, HM.out, HB.out⟩

/-! ### Sum -/
theorem sum_nil (w : World) {r : Nat} (hr : toldM firstM = r) : Calls Try.prog 12 #[.pointer none] w fun e w' => e = .returned (.int .i64 r) ∧ w = w' := by
  have HT := Lib.hid (told_is w hr)
  clear hr
  go_enter Try.func12, Try.ntmps12
  go_wp2_with fail
  refine HT.out.mono ?_
  rintro e w2 ⟨rfl, rfl⟩
  go_wp2
  go_ret
  exact ⟨rfl, rfl⟩
theorem sum_zero (w : World) {q h : Nat} (hM : MarkAt w q false h) {r : Nat} (hr : toldM firstM = r) : Calls Try.prog 12 #[.pointer (some ⟨q, 0, none⟩)] w fun e w' => e = .returned (.int .i64 r) ∧ w = w' := by
  have HT := Lib.hid (told_is w hr)
  have hnot := not_any
  have hc0 : w.cell? ⟨q, 0, none⟩ = some (.bool false) := World.rowIs.cell hM (i := 0) (by omega)
  clear hr hM
  go_enter Try.func12, Try.ntmps12
  go_wp2_with fail
  refine HT.out.mono ?_
  rintro e w2 ⟨rfl, rfl⟩
  go_wp2
  go_ret
  exact ⟨rfl, rfl⟩
theorem sum_is (w : World) {q h : Nat} (hM : MarkAt w q true h) {r : Nat} (hr : toldM h = r) : Calls Try.prog 12 #[.pointer (some ⟨q, 0, none⟩)] w fun e w' => e = .returned (.int .i64 r) ∧ w = w' := by
  have HT := Lib.hid (told_is w hr)
  have hnot := not_any
  have hc0 : w.cell? ⟨q, 0, none⟩ = some (.bool true) := World.rowIs.cell hM (i := 0) (by omega)
  have HL := Lib.hid (load_is w q (h : Int) (World.rowIs.cell hM (i := 1) (by omega)))
  clear hr hM
  go_enter Try.func12, Try.ntmps12
  go_wp2_with fail
  refine HL.out.mono ?_
  rintro e w2 ⟨rfl, rfl⟩
  go_wp2_with fail
  refine HT.out.mono ?_
  rintro e w2 ⟨rfl, rfl⟩
  go_wp2
  go_ret
  exact ⟨rfl, rfl⟩

/-! ### Add -/
theorem add_nil (w : World) (v : Value) : Calls Try.prog 11 #[.pointer none, v] w fun e w' => e = .returned (.tuple #[]) ∧ w = w' := by
  go_enter Try.func11, Try.ntmps11
  go_wp2
  refine bodyPost_ret (results_none rfl _ _ _) rfl ?_
  exact ⟨rfl, rfl⟩
theorem add_zero (w : World) {q h : Nat} (hM : MarkAt w q false h) (v : Value) : Calls Try.prog 11 #[.pointer (some ⟨q, 0, none⟩), v] w fun e w' => e = .returned (.tuple #[]) ∧ w = w' := by
  have hnot := not_any
  have hc0 : w.cell? ⟨q, 0, none⟩ = some (.bool false) := World.rowIs.cell hM (i := 0) (by omega)
  clear hM
  go_enter Try.func11, Try.ntmps11
  go_wp2
  refine bodyPost_ret (results_none rfl _ _ _) rfl ?_
  exact ⟨rfl, rfl⟩
set_option maxHeartbeats 800000 in
theorem add_is (w : World) {q h : Nat} (hM : MarkAt w q true h) (hh : h < 18446744073709551616) {A : Option Addr} {n c : Nat} {l : List Int} (hl : IntsAt w A l) (hn : l.length = n) (hs : n ≤ 9223372036854775807) {r : Nat} (hr : marksM h l = r) :
    Calls Try.prog 11 #[.pointer (some ⟨q, 0, none⟩), .slice A n c] w fun e w' => e = .returned (.tuple #[]) ∧ MarkAt w' q true r ∧ w.grownBy w' (some q) := by
  have hnot := not_any
  have hc0 : w.cell? ⟨q, 0, none⟩ = some (.bool true) := World.rowIs.cell hM (i := 0) (by omega)
  have hc1 : w.cell? ⟨q, 1, none⟩ = some (.int .u64 (h : Int)) := World.rowIs.cell hM (i := 1) (by omega)
  have hz1 : w.frozen? ⟨q, 1, none⟩ = false := World.rowIs.frozen hM 1
  have HL := Lib.hid (load_is w q (h : Int) hc1)
  have HBH := Lib.hid (behind_is w.drew (c := c) hl hn hs hh hr)
  have HC := Lib.hid (cas_is w.drew q (h : Int) (r : Int) hc1 hz1)
  have HP : Hid (MarkAt (w.drew.setCell ⟨q, 1, none⟩ (.int .u64 (r : Int))) q true r) := MarkAt.put (w := w.drew) hM r
  have HG : Hid (w.grownBy (w.drew.setCell ⟨q, 1, none⟩ (.int .u64 (r : Int))) (some q)) := (grown_drewN (World.grownBy.refl w _) 1).trans (grown_set _ _ _)
  clear hM hh hl hn hs hr hz1 hc1
  go_enter Try.func11, Try.ntmps11
  go_wp2_with fail
  go_loopw [] (fun wr => w = wr) (fun _ => 0)
  case atStart => rfl
  case round =>
    subst hrel
    go_wp2_with fail
    refine HL.out.mono ?_
    rintro e w2 ⟨rfl, rfl⟩
    go_wp2_with fail
    refine wp_region_still_tail 7 (by kernel_rfl) (by kernel_rfl) ?_
    simp only [List.take_succ_cons, List.take_zero, List.drop_succ_cons, List.drop_zero]
    change wpStill _ _ w.drew _ _ _
    repeat still_step
    still_call (still_of HBH.out)
    repeat still_step
    refine wpStill_nil ?_
    change wpList _ _ _ _ _ w.drew
    go_wp2_with fail
    refine HC.out.mono ?_
    rintro e w2 ⟨rfl, rfl⟩
    go_wp2
    refine bodyPost_ret (results_none rfl _ _ _) rfl ?_
    exact ⟨rfl, HP.out, HG.out⟩
end Go.Proofs.Ytfclnahpgbpjbaa
