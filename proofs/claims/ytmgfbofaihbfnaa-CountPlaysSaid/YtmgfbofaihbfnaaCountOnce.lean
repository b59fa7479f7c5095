/- Layer 14 (count): sync.Once of a book, entered alone: the first Do lays the counts, every later one does nothing: contracts of the calls of package sync that it comes to. -/
import Derived.Test.YtmgfbofaihbfnaaCountMath
import Derived.Test.YtmgfbofaihbfnaaBaseFoot
import Derived.StillTailTactics
import Derived.Defers
import Derived.Laws.LoneSync
import Derived.RegionCalls
import Derived.BigRegion
namespace Go.Proofs.Ytmgfbofaihbfnaa
open Go.RowKit

theorem once_disable (w : World) : (callFunc 39 #[]).run Try.prog w = .ok (.value (.tuple #[])) w := run_call_mark0 Try.func39 (by kernel_rfl) (by kernel_rfl) (by kernel_rfl) .disable (by kernel_rfl) w
theorem once_enable (w : World) : (callFunc 41 #[]).run Try.prog w = .ok (.value (.tuple #[])) w := run_call_mark0 Try.func41 (by kernel_rfl) (by kernel_rfl) (by kernel_rfl) .enable (by kernel_rfl) w
theorem once_acquire (a : Addr) (w : World) : (callFunc 42 #[.pointer (some a)]).run Try.prog w = .ok (.value (.tuple #[])) w := run_call_marked Try.func42 (by kernel_rfl) (by kernel_rfl) (by kernel_rfl) .acquire (by kernel_rfl) a w
theorem once_release (a : Addr) (w : World) : (callFunc 44 #[.pointer (some a)]).run Try.prog w = .ok (.value (.tuple #[])) w := run_call_marked Try.func44 (by kernel_rfl) (by kernel_rfl) (by kernel_rfl) .releaseMerge (by kernel_rfl) a w

/-- The flag is stored, by the call that doSlow defers last. -/
theorem flag_deferred (a : Addr) (x : Value) (u : FrameMode) (w : World) (hc : w.cell? a = some x) (hz : w.frozen? a = false) :
    CallsD Try.prog 34 #[.pointer (some a), .bool true] u w fun e u' w' => u' = u ∧ (e = .returned (.tuple #[]) ∧ w' = w.drew.setCell a (.int .u32 1)) := by
  have hc' : w.drew.cell? a = some x := by go_simp
  have hz' : w.drew.frozen? a = false := by go_simp
  have hst := run_call_store (P := Try.prog) Try.func37 (by kernel_rfl) (by kernel_rfl) (by kernel_rfl) (by kernel_rfl) (k := .u32) (y := 1) hc' hz'
  go_enter_d Try.func34, Try.ntmps34
  go_wp2
  go_region_calls
  all_goals (go_end0; exact ⟨rfl, rfl⟩)
/-- The lock is let go: nobody waits. -/
theorem unlock_deferred (a : Addr) (u : FrameMode) (w : World) (hc : w.cell? a = some (.int .i32 1)) (hz : w.frozen? a = false) :
    CallsD Try.prog 33 #[.pointer (some a)] u w fun e u' w' => u' = u ∧ (e = .returned (.tuple #[]) ∧ w' = w.setCell a (.int .i32 0)) := by
  have hd := once_disable
  have he := once_enable
  have hr := once_release
  have hadd := run_call_add (P := Try.prog) Try.func45 (by kernel_rfl) (by kernel_rfl) (by kernel_rfl) .i32 (by kernel_rfl) (y := -1) (s := 0) hc hz (by simp [go_sem]; rfl)
  have hcv := run_convert_to_unsafe (P := Try.prog) (src := 82) (dst := 86) Try.underlying82 Try.underlying86 (by kernel_rfl) hc
  go_enter_d Try.func33, Try.ntmps33
  go_wp2
  go_end0
  go_wp2
  go_end0
  exact ⟨rfl, rfl⟩
/-- The lock is free, and taken. -/
theorem lock_free (a : Addr) (w : World) (hc : w.cell? a = some (.int .i32 0)) (hz : w.frozen? a = false) :
    Calls Try.prog 32 #[.pointer (some a)] w fun e w' => e = .returned (.tuple #[]) ∧ w' = w.setCell a (.int .i32 1) := by
  have hd := once_disable
  have he := once_enable
  have ha := once_acquire
  have hcas := run_call_cas_hit (P := Try.prog) Try.func40 (by kernel_rfl) (by kernel_rfl) (by kernel_rfl) .i32 (by kernel_rfl) (y := 1) hc hz
  have hc' : (w.setCell a (.int .i32 1)).cell? a = some (.int .i32 1) := World.cell?_setCell_same w a _ hc
  have hcv := run_convert_to_unsafe (P := Try.prog) (src := 82) (dst := 86) Try.underlying82 Try.underlying86 (by kernel_rfl) hc'
  go_enter Try.func32, Try.ntmps32
  go_wp2
  first | go_end0 | (simp only [Exit.inBlock, Exit.then]; refine bodyPost_ret (results_none rfl _ _ _) rfl ?_) | refine bodyPost_ret (results_none rfl _ _ _) rfl ?_
  go_wp2
  go_end0
  exact ⟨rfl, rfl⟩

/-! ### the counts are laid -/
/-- A book's cells: how many counts, whether they are laid, the lock, and where they lie. -/
def bookF (n d s : Nat) (v : Value) : Nat → Value
  | 0 => .int .i64 n
  | 1 => .int .u32 d
  | 2 => .int .i32 s
  | 3 => .int .u32 0
  | _ => v
def BookRow (w : World) (q n d s : Nat) (v : Value) : Prop := w.rowIs q 57 5 (bookF n d s v)
theorem BookRow.put1 {w : World} {q n d s : Nat} {v : Value} (h : BookRow w q n d s v) (x : Nat) : BookRow (w.setCell ⟨q, 1, none⟩ (.int .u32 x)) q n x s v :=
  (World.rowIs.set h 1 _).congr fun i hi => by
    match i, hi with
    | 0, _ => rfl
    | 1, _ => rfl
    | 2, _ => rfl
    | 3, _ => rfl
    | 4, _ => rfl
theorem BookRow.put2 {w : World} {q n d s : Nat} {v : Value} (h : BookRow w q n d s v) (x : Nat) : BookRow (w.setCell ⟨q, 2, none⟩ (.int .i32 x)) q n d x v :=
  (World.rowIs.set h 2 _).congr fun i hi => by
    match i, hi with
    | 0, _ => rfl
    | 1, _ => rfl
    | 2, _ => rfl
    | 3, _ => rfl
    | 4, _ => rfl
theorem BookRow.put4 {w : World} {q n d s : Nat} {v : Value} (h : BookRow w q n d s v) (x : Value) : BookRow (w.setCell ⟨q, 4, none⟩ x) q n d s x :=
  (World.rowIs.set h 4 _).congr fun i hi => by
    match i, hi with
    | 0, _ => rfl
    | 1, _ => rfl
    | 2, _ => rfl
    | 3, _ => rfl
    | 4, _ => rfl
theorem BookRow.same {w w' : World} {q n d s : Nat} {v : Value} (h : BookRow w q n d s v) (hb : w'.heap[q]? = w.heap[q]?) : BookRow w' q n d s v := World.rowIs.of_block h hb
theorem BookRow.lt {w : World} {q n d s : Nat} {v : Value} (h : BookRow w q n d s v) : q < w.heap.size := World.rowIs.lt h
/-- The counts of a book lie in block g. -/
def Row (w : World) (g : Nat) (L : List Nat) : Prop := w.rowIs g 65 L.length (fun i => .int .i64 (L.getD i 0))
theorem Row.same {w w' : World} {g : Nat} {L : List Nat} (h : Row w g L) (hb : w'.heap[g]? = w.heap[g]?) : Row w' g L := World.rowIs.of_block h hb
theorem Row.lt {w : World} {g : Nat} {L : List Nat} (h : Row w g L) : g < w.heap.size := World.rowIs.lt h
theorem row_book {w : World} {q n d s g : Nat} {v : Value} {L : List Nat} (h : BookRow w q n d s v) (hr : Row w g L) : q ≠ g := row_type h hr (by decide)

def gS (g n : Nat) : Value := .slice (some ⟨g, 0, none⟩) n n
/-- The counts have been laid, in g. -/
def LaidAt (w : World) (q n d s : Nat) (e : Ending) (w' : World) : Prop := e = .returned (.tuple #[]) ∧ ∃ g, w.heap.size ≤ g ∧ BookRow w' q n d s (gS g n) ∧ Row w' g (List.replicate n 0) ∧ w.grownBy w' (some q)
theorem i64_info : (Try.prog.info? 65).map (fun i => (i.zero, i.size, i.bytes)) = some (some (.agg #[.int .i64 0]), 1, 8) := by kernel_rfl
theorem make_counts (n : Nat) (hn : n ≤ 64) (W : World) : (Instr.makeSlice 55 (.int .i64 n) (.int .i64 n)).run Try.prog W = .ok (gS W.heap.size n) (W.alloc (.cells (madeCells #[.int .i64 0] n) 65)) := by
  obtain ⟨i, hi, hzz⟩ := Option.map_eq_some_iff.1 i64_info
  simp only [Prod.mk.injEq] at hzz
  obtain ⟨hz, hs, hb⟩ := hzz
  have h := run_make (P := Try.prog) W 55 65 i _ Try.underlying55 hi hz .i64 .i64 n n (by omega) (by omega) (by rw [hb]; omega) (by omega)
  rw [hs, Nat.mul_one, Int.toNat_natCast] at h
  exact h
theorem laid_row (w : World) (n : Nat) : Row (w.alloc (.cells (madeCells #[.int .i64 0] n) 65)) w.heap.size (List.replicate n 0) := by
  unfold Row
  rw [List.length_replicate]
  exact (World.rowIs_made w (.int .i64 0) n 65).congr fun i _ => by rw [zero_getD]; rfl
set_option maxHeartbeats 1600000 in
theorem lay_is {w : World} {q n d s x : Nat} {v : Value} (h : BookRow w q n d s v) (hn : n ≤ 64) (hx : w.cell? ⟨x, 0, none⟩ = some (.pointer (some ⟨q, 0, none⟩))) :
    Calls Try.prog 25 #[.pointer (some ⟨x, 0, none⟩)] w (LaidAt w q n d s) := by
  have hxl : x < w.heap.size := World.block_lt_of_cell? w _ hx
  have b1 : Below w.heap.size w (w.drew.alloc (.cells (madeCells #[.int .i64 0] n) 65)) := (below_drewN (Below.refl _ w) 1).alloc (Nat.le_refl _) _
  have h1 : BookRow (w.drew.alloc (.cells (madeCells #[.int .i64 0] n) 65)) q n d s v := h.same (b1.block q h.lt)
  have c0 : w.drew.cell? ⟨x, 0, none⟩ = some (.pointer (some ⟨q, 0, none⟩)) := hx
  have c1 : w.drew.cell? ⟨q, 0, none⟩ = some (.int .i64 n) := World.rowIs.cell h (i := 0) (by omega)
  have d0 : (w.alloc (.cells (madeCells #[.int .i64 0] n) 65)).drew.cell? ⟨x, 0, none⟩ = some (.pointer (some ⟨q, 0, none⟩)) := (b1.cell (p := ⟨x, 0, none⟩) hxl).trans hx
  have d4 : (w.alloc (.cells (madeCells #[.int .i64 0] n) 65)).drew.cell? ⟨q, 4, none⟩ = some v := World.rowIs.cell h1 (i := 4) (by omega)
  have f4 : (w.alloc (.cells (madeCells #[.int .i64 0] n) 65)).drew.frozen? ⟨q, 4, none⟩ = false := World.rowIs.frozen h1 4
  have e1 : (w.alloc (.cells (madeCells #[.int .i64 0] n) 65)).drew.cell? ⟨q, 0, none⟩ = some (.int .i64 n) := World.rowIs.cell h1 (i := 0) (by omega)
  have d0' : (w.alloc (.cells (madeCells #[.int .i64 0] n) 65)).cell? ⟨x, 0, none⟩ = some (.pointer (some ⟨q, 0, none⟩)) := d0
  have d4' : (w.alloc (.cells (madeCells #[.int .i64 0] n) 65)).cell? ⟨q, 4, none⟩ = some v := d4
  have f4' : (w.alloc (.cells (madeCells #[.int .i64 0] n) 65)).frozen? ⟨q, 4, none⟩ = false := f4
  have hmk := make_counts n hn w.drew
  have HQ : Hid (LaidAt w q n d s (.returned (.tuple #[])) ((w.drew.alloc (.cells (madeCells #[.int .i64 0] n) 65)).setCell ⟨q, 4, none⟩ (gS w.heap.size n))) := by
    refine ⟨rfl, w.heap.size, Nat.le_refl _, h1.put4 _, ?_, (grown_of_below b1 (some q)).trans (grown_set _ _ _)⟩
    exact (laid_row w.drew n).same (Below.heap_setCell _ _ _ _ fun e => by have := h.lt; have e' : w.heap.size = q := e; omega)
  unfold gS at hmk HQ
  clear h h1 b1 hx hxl hn
  go_enter Try.func25, Try.ntmps25
  go_wp2_with fail
  go_region
  all_goals
    go_end0
    exact HQ.out

/-! ### doSlow, Do -/
set_option maxHeartbeats 1600000 in
theorem slow_any {w : World} {q n x : Nat} {v : Value} (h : BookRow w q n 0 0 v) (hn : n ≤ 64) (hx : w.cell? ⟨x, 0, none⟩ = some (.pointer (some ⟨q, 0, none⟩))) (hxq : x ≠ q) :
    Calls Try.prog 29 #[.pointer (some ⟨q, 1, none⟩), .func (.func 25) #[] #[.pointer (some ⟨x, 0, none⟩)]] w (LaidAt w q n 1 0) := by
  have h3 : w.cell? ⟨q, 2, none⟩ = some (.int .i32 0) := World.rowIs.cell h (i := 2) (by omega)
  have f3 : w.frozen? ⟨q, 2, none⟩ = false := World.rowIs.frozen h 2
  have hk : BookRow (w.setCell ⟨q, 2, none⟩ (.int .i32 1)) q n 0 1 v := h.put2 1
  have hx' : (w.setCell ⟨q, 2, none⟩ (.int .i32 1)).cell? ⟨x, 0, none⟩ = some (.pointer (some ⟨q, 0, none⟩)) := (World.cell?_of_block (w := w) (a := ⟨x, 0, none⟩) (Below.heap_setCell _ _ _ _ hxq)).trans hx
  have hl := run_call_load (P := Try.prog) Try.func31 (by kernel_rfl) (by kernel_rfl) (by kernel_rfl) .u32 (by kernel_rfl) (w := w.setCell ⟨q, 2, none⟩ (.int .i32 1)) (a := ⟨q, 1, none⟩) (x := 0) (World.rowIs.cell hk (i := 1) (by omega))
  have hnot := not_any
  have hE := fun (args : Array Value) (W : World) => enter_any (P := Try.prog) Try.func25 (by kernel_rfl) rfl args W
  have HT := Lib.hid (lay_is hk hn hx')
  have HG : Hid (w.grownBy (w.setCell ⟨q, 2, none⟩ (.int .i32 1)) (some q)) := grown_set _ _ _
  clear hk h hx hx' hxq
  go_enter_defers Try.func29, Try.ntmps29
  go_wp2_with (first
    | (go_at_call 32; refine (lock_free ⟨q, 2, none⟩ _ (by go_simp) (by go_simp)).mono ?_; rintro e w' ⟨rfl, rfl⟩)
    | (go_at_call 28; go_in)
    | (go_at_call 25; refine HT.out.mono ?_; rintro e w2 ⟨rfl, g, hg, hb, hr, hgr⟩))
  have hr2 : BookRow w2.drew q n 0 1 (gS g n) := hb
  have hr3 := hr2.put1 1
  have hr4 := hr3.put2 0
  have hne : g ≠ q := fun e => row_book hb hr e.symm
  refine leaves_cons (f := 34) (args := #[.pointer (some ⟨q, 1, none⟩), .bool true]) (by simp) (by simp [go_sem]) ?_
  refine (flag_deferred ⟨q, 1, none⟩ (.int .u32 0) .returning _ (World.rowIs.cell hb (i := 1) (by omega)) (World.rowIs.frozen hb 1)).mono ?_
  rintro e u' w'' ⟨rfl, rfl, rfl⟩
  refine leaves_cons (f := 33) (args := #[.pointer (some ⟨q, 2, none⟩)]) (by simp [settle]) (by simp [go_sem]) ?_
  refine (unlock_deferred ⟨q, 2, none⟩ _ _ (World.rowIs.cell hr3 (i := 2) (by omega)) (World.rowIs.frozen hr3 2)).mono ?_
  rintro e u' w'' ⟨rfl, rfl, rfl⟩
  have hsz : w.heap.size ≤ g := by have := HG.out.size; omega
  have HQ : LaidAt w q n 1 0 (.returned (.tuple #[])) ((w2.drew.setCell ⟨q, 1, none⟩ (.int .u32 1)).setCell ⟨q, 2, none⟩ (.int .i32 0)) :=
    ⟨rfl, g, hsz, hr4, (hr.same (w' := w2.drew.setCell ⟨q, 1, none⟩ (.int .u32 1)) (Below.heap_setCell _ _ _ _ hne)).same (Below.heap_setCell _ _ _ _ hne), (((HG.out.trans hgr).trans (grown_drewN (World.grownBy.refl w2 _) 1)).trans (grown_set _ _ _)).trans (grown_set _ _ _)⟩
  simp [Leaves, settle, results, Try.results29]
  exact HQ
set_option maxHeartbeats 1600000 in
/-- The first Do. -/
theorem do_first {w : World} {q n x : Nat} {v : Value} (h : BookRow w q n 0 0 v) (hn : n ≤ 64) (hx : w.cell? ⟨x, 0, none⟩ = some (.pointer (some ⟨q, 0, none⟩))) (hxq : x ≠ q) :
    Calls Try.prog 24 #[.pointer (some ⟨q, 1, none⟩), .func (.func 25) #[] #[.pointer (some ⟨x, 0, none⟩)]] w (LaidAt w q n 1 0) := by
  have hl := run_call_load (P := Try.prog) Try.func31 (by kernel_rfl) (by kernel_rfl) (by kernel_rfl) .u32 (by kernel_rfl) (w := w) (a := ⟨q, 1, none⟩) (x := 0) (World.rowIs.cell h (i := 1) (by omega))
  have hnot := not_any
  have H := Lib.hid (slow_any h hn hx hxq)
  clear h hn hx hxq
  go_enter Try.func24, Try.ntmps24
  go_wp2_with (first
    | (go_at_call 29; refine H.out.mono ?_; rintro e w' ⟨rfl, hr⟩)
    | (go_at_call 28; go_in))
  go_end0
  exact ⟨rfl, hr⟩
/-- Every later Do. -/
theorem do_done {w : World} {q n : Nat} {v : Value} (h : BookRow w q n 1 0 v) (fv : Value) :
    Calls Try.prog 24 #[.pointer (some ⟨q, 1, none⟩), fv] w fun e w' => e = .returned (.tuple #[]) ∧ w = w' := by
  have hl := run_call_load (P := Try.prog) Try.func31 (by kernel_rfl) (by kernel_rfl) (by kernel_rfl) .u32 (by kernel_rfl) (w := w) (a := ⟨q, 1, none⟩) (x := 1) (World.rowIs.cell h (i := 1) (by omega))
  have hnot := not_any
  clear h
  go_enter Try.func24, Try.ntmps24
  go_wp2
  go_end0
  exact ⟨rfl, rfl⟩
end Go.Proofs.Ytmgfbofaihbfnaa
