/- sync.Once of a set, entered alone: the first Do fills the table of how many bits a byte has, every later one does nothing: contracts of the calls of package sync that it comes to, and of countBytes. -/
import Derived.Test.YtgooajgoofojmaaDoorFreeBtPut
import Derived.StillTailTactics
import Derived.Defers
import Derived.Laws.LoneSync
import Derived.RegionCalls
namespace Go.Proofs.YtgooajgoofojmaaDoor
open Go.RowKit

theorem once_disable (w : World) : (callFunc 56 #[]).run Tryd.prog w = .ok (.value (.tuple #[])) w := run_call_mark0 Tryd.func56 (by kernel_rfl) (by kernel_rfl) (by kernel_rfl) .disable (by kernel_rfl) w
theorem once_enable (w : World) : (callFunc 58 #[]).run Tryd.prog w = .ok (.value (.tuple #[])) w := run_call_mark0 Tryd.func58 (by kernel_rfl) (by kernel_rfl) (by kernel_rfl) .enable (by kernel_rfl) w
theorem once_acquire (a : Addr) (w : World) : (callFunc 59 #[.pointer (some a)]).run Tryd.prog w = .ok (.value (.tuple #[])) w := run_call_marked Tryd.func59 (by kernel_rfl) (by kernel_rfl) (by kernel_rfl) .acquire (by kernel_rfl) a w
theorem once_release (a : Addr) (w : World) : (callFunc 61 #[.pointer (some a)]).run Tryd.prog w = .ok (.value (.tuple #[])) w := run_call_marked Tryd.func61 (by kernel_rfl) (by kernel_rfl) (by kernel_rfl) .releaseMerge (by kernel_rfl) a w

/-- The flag is stored, by the call that doSlow defers last. -/
theorem flag_deferred (a : Addr) (x : Value) (u : FrameMode) (w : World) (hc : w.cell? a = some x) (hz : w.frozen? a = false) :
    CallsD Tryd.prog 51 #[.pointer (some a), .bool true] u w fun e u' w' => u' = u ∧ (e = .returned (.tuple #[]) ∧ w' = w.drew.setCell a (.int .u32 1)) := by
  have hc' : w.drew.cell? a = some x := by go_simp
  have hz' : w.drew.frozen? a = false := by go_simp
  have hst := run_call_store (P := Tryd.prog) Tryd.func54 (by kernel_rfl) (by kernel_rfl) (by kernel_rfl) (by kernel_rfl) (k := .u32) (y := 1) hc' hz'
  go_enter_d Tryd.func51, Tryd.ntmps51
  go_wp2
  go_region_calls
  all_goals (go_end0; exact ⟨rfl, rfl⟩)
/-- The lock is let go: nobody waits. -/
theorem unlock_deferred (a : Addr) (u : FrameMode) (w : World) (hc : w.cell? a = some (.int .i32 1)) (hz : w.frozen? a = false) :
    CallsD Tryd.prog 50 #[.pointer (some a)] u w fun e u' w' => u' = u ∧ (e = .returned (.tuple #[]) ∧ w' = w.setCell a (.int .i32 0)) := by
  have hd := once_disable
  have he := once_enable
  have hr := once_release
  have hadd := run_call_add (P := Tryd.prog) Tryd.func62 (by kernel_rfl) (by kernel_rfl) (by kernel_rfl) .i32 (by kernel_rfl) (y := -1) (s := 0) hc hz (by simp [go_sem]; rfl)
  have hcv := run_convert_to_unsafe (P := Tryd.prog) (src := 86) (dst := 90) Tryd.underlying86 Tryd.underlying90 (by kernel_rfl) hc
  go_enter_d Tryd.func50, Tryd.ntmps50
  go_wp2
  go_end0
  go_wp2
  go_end0
  exact ⟨rfl, rfl⟩
/-- The lock is free, and taken. -/
theorem lock_free (a : Addr) (w : World) (hc : w.cell? a = some (.int .i32 0)) (hz : w.frozen? a = false) :
    Calls Tryd.prog 49 #[.pointer (some a)] w fun e w' => e = .returned (.tuple #[]) ∧ w' = w.setCell a (.int .i32 1) := by
  have hd := once_disable
  have he := once_enable
  have ha := once_acquire
  have hcas := run_call_cas_hit (P := Tryd.prog) Tryd.func57 (by kernel_rfl) (by kernel_rfl) (by kernel_rfl) .i32 (by kernel_rfl) (y := 1) hc hz
  have hc' : (w.setCell a (.int .i32 1)).cell? a = some (.int .i32 1) := World.cell?_setCell_same w a _ hc
  have hcv := run_convert_to_unsafe (P := Tryd.prog) (src := 86) (dst := 90) Tryd.underlying86 Tryd.underlying90 (by kernel_rfl) hc'
  go_enter Tryd.func49, Tryd.ntmps49
  go_wp2
  first | go_end0 | (simp only [Exit.inBlock, Exit.then]; refine bodyPost_ret (results_none rfl _ _ _) rfl ?_) | refine bodyPost_ret (results_none rfl _ _ _) rfl ?_
  go_wp2
  go_end0
  exact ⟨rfl, rfl⟩

/-! ### the table -/
def tabF (F : Nat → Value) (k i : Nat) : Value := if i < 5 then F i else if i - 5 < k then .int .u8 (pop 8 (i - 5)) else .int .u8 0
def TabRow (w : World) (g : Nat) (F : Nat → Value) (k : Nat) : Prop := w.rowIs g 69 261 (tabF F k)
def TabDone (w : World) (g : Nat) (F : Nat → Value) (e : Ending) (w' : World) : Prop := e = .returned (.tuple #[]) ∧ TabRow w' g F 256 ∧ w.grownBy w' (some g)
set_option maxRecDepth 100000 in
set_option maxHeartbeats 800000 in
theorem table_any {w : World} {g : Nat} {F : Nat → Value} (h : TabRow w g F 0) :
    Calls Tryd.prog 45 #[.pointer (some ⟨g, 0, none⟩)] w (TabDone w g F) := by
  go_enter Tryd.func45, Tryd.ntmps45
  go_wp2
  go_loopw [3] (fun i wr => ∃ k : Nat, k ≤ 256 ∧ i = .int .i64 k ∧ TabRow wr g F k ∧ w.grownBy wr (some g)) (fun i _ => 256 - (intOf i).toNat)
  case atStart => exact ⟨0, by omega, rfl, h, World.grownBy.refl _ _⟩
  case round =>
    obtain ⟨k, hk, rfl, hr, hg⟩ := hrel
    by_cases hlt : k < 256
    · obtain ⟨y, hc, hy⟩ : ∃ y : Nat, wr.cell? ⟨g, 5 + k / 2, none⟩ = some (.int .u8 y) ∧ y + k % 2 = pop 8 k := by
        unfold TabRow at hr
        rw [hr.cell (i := 5 + k / 2) (by omega)]
        unfold tabF
        rw [if_neg (by omega), Nat.add_sub_cancel_left]
        rw [pop_half k hlt]
        by_cases h0 : k / 2 < k
        · rw [if_pos h0]; exact ⟨_, rfl, rfl⟩
        · have : k = 0 := by omega
          subst this
          exact ⟨0, rfl, rfl⟩
      have hpl := pop_le 8 k
      have hf : wr.frozen? ⟨g, 5 + k, none⟩ = false := World.rowIs.frozen hr _
      have hc2 : wr.cell? ⟨g, 5 + k, none⟩ = some (.int .u8 0) := by
        unfold TabRow at hr
        rw [hr.cell (i := 5 + k) (by omega)]
        unfold tabF
        rw [if_neg (by omega), Nat.add_sub_cancel_left, if_neg (by omega)]
      go_wp2
      have hwr : IntKind.i64.wrap ((k : Int) / 2) = (k : Int) / 2 := IntWalk.i64_in _ (by omega)
      have hto : ((k : Int) / 2).toNat = k / 2 := by omega
      have hb1 : 0 ≤ (k : Int) / 2 ∧ (k : Int) / 2 < 256 := by omega
      have hb2 : 0 ≤ (k : Int) ∧ (k : Int) < 256 := by omega
      refine wp_region_still_tail 16 (by kernel_rfl) (by kernel_rfl) ?_
      simp only [List.take_succ_cons, List.take_zero, List.drop_succ_cons, List.drop_zero]
      change wpStill _ _ wr.drew _ _ _
      have hm1 : IntKind.i64.wrap ((k : Int) % 2) = (k : Int) % 2 := IntWalk.i64_in _ (by omega)
      have hm2 : IntKind.u8.wrap ((k : Int) % 2) = (k : Int) % 2 := by rw [IntKind.wrap_u8']; omega
      have hm3 : IntKind.u8.wrap ((y : Int) + (k : Int) % 2) = ((pop 8 k : Nat) : Int) := by rw [IntKind.wrap_u8']; omega
      have HY := Lib.hid hy
      clear hy
      repeat still_step
      refine wpStill_nil ?_
      change wpList _ _ _ _ _ wr.drew
      go_wp2
      go_roundw
      case rel =>
        refine ⟨k + 1, by omega, by go_num, ?_, (grown_drewN hg 1).trans (grown_set _ _ _)⟩
        refine ((World.rowIs.drew hr).set (5 + k) _).congr fun i hi => ?_
        unfold tabF
        by_cases h1 : i = 5 + k
        · subst h1
          rw [if_pos rfl, if_neg (by omega), if_pos (by omega), Nat.add_sub_cancel_left]
          have := HY.out
          congr 1
        · rw [if_neg h1]
          by_cases h2 : i < 5
          · rw [if_pos h2, if_pos h2]
          · rw [if_neg h2, if_neg h2]
            by_cases h3 : i - 5 < k
            · rw [if_pos h3, if_pos (by omega)]
            · rw [if_neg h3, if_neg (by omega)]
      case measure => simp [intOf]; omega
    · go_wp2
      go_end0
      have e : k = 256 := by omega
      subst e
      exact ⟨rfl, hr, hg⟩

/-! ### doSlow, Do -/
def lockedF (size : Nat) (A : Option Addr) (i : Nat) : Value := if i = 3 then .int .i32 1 else setF size A false i
def OnceDone (w : World) (g size : Nat) (A : Option Addr) (e : Ending) (w' : World) : Prop := e = .returned (.tuple #[]) ∧ w'.rowIs g 69 261 (setF size A true) ∧ w.grownBy w' (some g)
theorem tab_locked (size : Nat) (A : Option Addr) (i : Nat) : lockedF size A i = tabF (lockedF size A) 0 i := by
  unfold tabF
  by_cases h : i < 5
  · rw [if_pos h]
  · rw [if_neg h, if_neg (by omega)]
    unfold lockedF
    rw [if_neg (by omega)]
    match i, h with
    | j + 5, _ => rfl
theorem tab_done (size : Nat) (A : Option Addr) (i : Nat) (hi : i < 261) : (if i = 3 then .int .i32 0 else if i = 2 then .int .u32 1 else tabF (lockedF size A) 256 i) = setF size A true i := by
  match i, hi with
  | 0, _ => rfl
  | 1, _ => rfl
  | 2, _ => rfl
  | 3, _ => rfl
  | 4, _ => rfl
  | j + 5, hi =>
    rw [if_neg (by omega), if_neg (by omega)]
    unfold tabF
    rw [if_neg (by omega), if_pos (by omega)]
    rfl
set_option maxRecDepth 100000 in
set_option maxHeartbeats 1600000 in
theorem slow_any {w : World} {g size : Nat} {A : Option Addr} (h : w.rowIs g 69 261 (setF size A false)) :
    Calls Tryd.prog 47 #[.pointer (some ⟨g, 2, none⟩), .func (.func 45) #[.pointer (some ⟨g, 0, none⟩)] #[]] w (OnceDone w g size A) := by
  have h3 : w.cell? ⟨g, 3, none⟩ = some (.int .i32 0) := h.cell (i := 3) (by omega)
  have f3 : w.frozen? ⟨g, 3, none⟩ = false := h.frozen 3
  have hk : (w.setCell ⟨g, 3, none⟩ (.int .i32 1)).rowIs g 69 261 (lockedF size A) := h.set 3 (.int .i32 1)
  have hl := run_call_load (P := Tryd.prog) Tryd.func48 (by kernel_rfl) (by kernel_rfl) (by kernel_rfl) .u32 (by kernel_rfl) (w := w.setCell ⟨g, 3, none⟩ (.int .i32 1)) (a := ⟨g, 2, none⟩) (x := 0) (hk.cell (i := 2) (by omega))
  have hnot := not_any
  have HT : TabRow (w.setCell ⟨g, 3, none⟩ (.int .i32 1)) g (lockedF size A) 0 := hk.congr fun i _ => tab_locked size A i
  clear hk h
  go_enter_defers Tryd.func47, Tryd.ntmps47
  go_wp2_with (first
    | (go_at_call 49; refine (lock_free ⟨g, 3, none⟩ _ (by go_simp) (by go_simp)).mono ?_; rintro e w' ⟨rfl, rfl⟩)
    | (go_at_call 46; go_in)
    | (go_at_call 45; refine (table_any HT).mono ?_; rintro e w2 ⟨rfl, hr, hg⟩))
  unfold TabRow at hr
  have hr2 : w2.drew.rowIs g 69 261 (tabF (lockedF size A) 256) := hr
  have hr3 := hr2.set 2 (.int .u32 1)
  have hr4 := hr3.set 3 (.int .i32 0)
  refine leaves_cons (f := 51) (args := #[.pointer (some ⟨g, 2, none⟩), .bool true]) (by simp) (by simp [go_sem]) ?_
  refine (flag_deferred ⟨g, 2, none⟩ (.int .u32 0) .returning _ (hr.cell (i := 2) (by omega)) (hr.frozen 2)).mono ?_
  rintro e u' w'' ⟨rfl, rfl, rfl⟩
  refine leaves_cons (f := 50) (args := #[.pointer (some ⟨g, 3, none⟩)]) (by simp [settle]) (by simp [go_sem]) ?_
  refine (unlock_deferred ⟨g, 3, none⟩ _ _ (hr3.cell (i := 3) (by omega)) (hr3.frozen 3)).mono ?_
  rintro e u' w'' ⟨rfl, rfl, rfl⟩
  have HQ : OnceDone w g size A (.returned (.tuple #[])) ((w2.drew.setCell ⟨g, 2, none⟩ (.int .u32 1)).setCell ⟨g, 3, none⟩ (.int .i32 0)) :=
    ⟨rfl, hr4.congr fun i hi => tab_done size A i hi, (((grown_set _ _ _).trans (grown_drewN hg 1)).trans (grown_set _ _ _)).trans (grown_set _ _ _)⟩
  simp [Leaves, settle, results, Tryd.results47]
  exact HQ
set_option maxRecDepth 100000 in
set_option maxHeartbeats 1600000 in
/-- The first Do. -/
theorem do_first {w : World} {g size : Nat} {A : Option Addr} (h : w.rowIs g 69 261 (setF size A false)) :
    Calls Tryd.prog 44 #[.pointer (some ⟨g, 2, none⟩), .func (.func 45) #[.pointer (some ⟨g, 0, none⟩)] #[]] w (OnceDone w g size A) := by
  have hl := run_call_load (P := Tryd.prog) Tryd.func48 (by kernel_rfl) (by kernel_rfl) (by kernel_rfl) .u32 (by kernel_rfl) (w := w) (a := ⟨g, 2, none⟩) (x := 0) (h.cell (i := 2) (by omega))
  have hnot := not_any
  have H := Lib.hid h
  clear h
  go_enter Tryd.func44, Tryd.ntmps44
  go_wp2_with (first
    | (go_at_call 47; refine (slow_any H.out).mono ?_; rintro e w' ⟨rfl, hr, hg⟩)
    | (go_at_call 46; go_in))
  go_end0
  exact ⟨rfl, hr, hg⟩
/-- Every later Do. -/
theorem do_done {w : World} {g size : Nat} {A : Option Addr} (h : w.rowIs g 69 261 (setF size A true)) (fv : Value) :
    Calls Tryd.prog 44 #[.pointer (some ⟨g, 2, none⟩), fv] w (OnceDone w g size A) := by
  have hl := run_call_load (P := Tryd.prog) Tryd.func48 (by kernel_rfl) (by kernel_rfl) (by kernel_rfl) .u32 (by kernel_rfl) (w := w) (a := ⟨g, 2, none⟩) (x := 1) (h.cell (i := 2) (by omega))
  have hnot := not_any
  have HQ : OnceDone w g size A (.returned (.tuple #[])) w := ⟨rfl, h, World.grownBy.refl _ _⟩
  clear h
  go_enter Tryd.func44, Tryd.ntmps44
  go_wp2
  go_end0
  exact HQ
theorem do_any {w : World} {g size : Nat} {A : Option Addr} (h : ∃ d, w.rowIs g 69 261 (setF size A d)) :
    Calls Tryd.prog 44 #[.pointer (some ⟨g, 2, none⟩), .func (.func 45) #[.pointer (some ⟨g, 0, none⟩)] #[]] w (OnceDone w g size A) := by
  obtain ⟨d, h⟩ := h
  cases d with
  | false => exact do_first h
  | true => exact do_done h _
end Go.Proofs.YtgooajgoofojmaaDoor
