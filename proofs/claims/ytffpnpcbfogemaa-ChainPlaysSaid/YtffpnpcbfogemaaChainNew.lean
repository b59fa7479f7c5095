/- Layer 5 (chain): what New gives, and what slices.Repeat lays: contracts. (gen_new.py writes this text.) -/
import Derived.Test.YtffpnpcbfogemaaChainList
import Derived.Test.YtffpnpcbfogemaaBaseWide
import Derived.Test.YtffpnpcbfogemaaShelf
namespace Go.Proofs.Ytffpnpcbfogemaa
open Go.RowKit

/-- Cells of k things that are alike, and zeros. -/
def repF (a b c : Int) (k j : Nat) : Value := if j < k * 3 then tri (fun _ => a) (fun _ => b) (fun _ => c) j else .int .i64 0
theorem tri_turn (a b c : Int) (k j : Nat) : tri (fun _ => a) (fun _ => b) (fun _ => c) (k * 3 + j) = tri (fun _ => a) (fun _ => b) (fun _ => c) j := by
  unfold tri
  rw [show (k * 3 + j) % 3 = j % 3 by omega]
def repL (a b c : Int) (n : Nat) : List Value := (List.range (n * 3)).map (tri (fun _ => a) (fun _ => b) (fun _ => c))
theorem repL_length (a b c : Int) (n : Nat) : (repL a b c n).length = n * 3 := by unfold repL; simp
theorem repL_at (a b c : Int) {n j : Nat} (h : j < n * 3) : (repL a b c n)[j]? = some (tri (fun _ => a) (fun _ => b) (fun _ => c) j) := by
  unfold repL
  rw [List.getElem?_map, List.getElem?_range h]
  rfl
theorem repL_one (a b c : Int) (n : Nat) : ∀ v ∈ repL a b c n, v.oneCell' = true := fun v hv => by
  obtain ⟨j, _, rfl⟩ := List.mem_map.1 hv
  rfl
theorem rep_step (a b c : Int) {k q : Nat} (j : Nat) : (if k * 3 ≤ j ∧ j < k * 3 + (repL a b c q).length then (repL a b c q).getD (j - k * 3) undef else repF a b c k j) = repF a b c (k + q) j := by
  rw [repL_length]
  unfold repF
  by_cases h1 : k * 3 ≤ j ∧ j < k * 3 + q * 3
  · rw [if_pos h1, if_pos (by omega), List.getD_eq_getElem?_getD, repL_at a b c (by omega), Option.getD_some]
    rw [← tri_turn a b c k, show k * 3 + (j - k * 3) = j by omega]
  · rw [if_neg h1]
    by_cases h2 : j < k * 3
    · rw [if_pos h2, if_pos (by omega)]
    · rw [if_neg h2, if_neg (by omega)]
def RepIn (w : World) (t : TypeId) (a b c : Int) (n : Nat) (e : Ending) (w' : World) : Prop := ∃ B, e = .returned (.slice (some ⟨B, 0, none⟩) n n) ∧ w'.rowIs B t (n * 3) (tri (fun _ => a) (fun _ => b) (fun _ => c)) ∧ w.heap.size ≤ B ∧ Below w.heap.size w w'

theorem rw_info : (Try.prog.info? 54).map (fun i => (i.zero, i.size, i.bytes)) = some (some (.agg #[.int .i64 0, .int .i64 0, .int .i64 0]), 3, 24) := by kernel_rfl
theorem rw_size : (Try.prog.info? 54).map (·.size) = some 3 := by kernel_rfl
theorem rw_cut_low (W : World) (B n k : Nat) (hk : k < n) : (Instr.slice 41 (.slice (some ⟨B, 0, none⟩) n n) (some (.int .i64 k)) none none).run Try.prog W = .ok (.slice (some ⟨B, k * 3, none⟩) (n - k) (n - k)) W := by
  rw [run_slice_l (P := Try.prog) W 41 (some ⟨B, 0, none⟩) n n (by kernel_rfl) .i64 k (by omega) (by omega)]
  rw [show (sizeOf (Try.prog.elem 41)).run Try.prog W = .ok 3 W by kernel_rfl]
  have h' : ¬ n = k := by omega
  by_cases h : k = 0
  · subst h; simp [Result.andThen, sliced, Addr.add]
  · have h3 : ¬ k * 3 = 0 := by omega
    simp [Result.andThen, sliced, Addr.add, h', h3]
theorem rw_cut_high (W : World) (B n k : Nat) (hk : k ≤ n) : (Instr.slice 41 (.slice (some ⟨B, 0, none⟩) n n) none (some (.int .i64 k)) none).run Try.prog W = .ok (.slice (some ⟨B, 0, none⟩) k n) W := by
  rw [run_slice_h (P := Try.prog) W 41 (some ⟨B, 0, none⟩) n n (by kernel_rfl) .i64 k (by omega) (by omega)]
  rw [show (sizeOf (Try.prog.elem 41)).run Try.prog W = .ok 3 W by kernel_rfl]
  simp [Result.andThen, sliced, Addr.add]
theorem rw_copy {W : World} {B n k q : Nat} {a b c : Int} (hr : W.rowIs B 54 (n * 3) (repF a b c k)) (hq : k + q ≤ n) (hmin : q = Nat.min k (n - k)) (ty : TypeId) :
    (Builtin.copy_ #[41, 41] ty #[.slice (some ⟨B, k * 3, none⟩) (n - k) (n - k), .slice (some ⟨B, 0, none⟩) k n]).run Try.prog W = .ok (goInt q) (W.setCells B (k * 3) (repL a b c q)) := by
  refine run_copy_wide W _ _ ty 54 3 B (k * 3) (n - k) (n - k) ⟨B, 0, none⟩ k n q (repL a b c q) Try.underlying41 rw_size hmin (repL_length _ _ _ _) (fun j v hj => ?_) (fun j hj => ?_) (fun j hj => hr.frozen _) (repL_one _ _ _ _)
  · have hjl := (List.getElem?_eq_some_iff.1 hj).1
    rw [repL_length] at hjl
    have hqk : q ≤ k := by rw [hmin]; exact Nat.min_le_left _ _
    rw [repL_at a b c hjl] at hj
    rw [Addr.add_lit, Nat.zero_add, hr.cell (by omega), ← hj]
    unfold repF
    rw [if_pos (by omega)]
  · rw [repL_length] at hj
    rw [hr.cell (by omega)]; rfl
theorem rw_copy1 {W : World} {B n g : Nat} {a b c : Int} (hr : W.rowIs B 54 (n * 3) (repF a b c 0)) (hg : W.rowIs g 54 3 (tri (fun _ => a) (fun _ => b) (fun _ => c))) (ty : TypeId) :
    (Builtin.copy_ #[41, 41] ty #[.slice (some ⟨B, 0, none⟩) n n, .slice (some ⟨g, 0, none⟩) 1 1]).run Try.prog W = .ok (goInt (Nat.min 1 n)) (W.setCells B (0 * 3) (repL a b c (Nat.min 1 n))) := by
  have hm : Nat.min 1 n ≤ 1 ∧ Nat.min 1 n ≤ n := ⟨Nat.min_le_left _ _, Nat.min_le_right _ _⟩
  refine run_copy_wide W _ _ ty 54 3 B (0 * 3) n n ⟨g, 0, none⟩ 1 1 (Nat.min 1 n) (repL a b c (Nat.min 1 n)) Try.underlying41 rw_size rfl (repL_length _ _ _ _) (fun j v hj => ?_) (fun j hj => ?_) (fun j hj => hr.frozen _) (repL_one _ _ _ _)
  · have hjl := (List.getElem?_eq_some_iff.1 hj).1
    rw [repL_length] at hjl
    rw [repL_at a b c hjl] at hj
    rw [Addr.add_lit, Nat.zero_add, hg.cell (by omega), ← hj]
  · rw [repL_length] at hj
    rw [hr.cell (by omega)]; rfl
set_option maxHeartbeats 1600000 in
theorem rw_rep {w : World} {g n : Nat} {a b c : Int} (hg : w.rowIs g 54 3 (tri (fun _ => a) (fun _ => b) (fun _ => c))) (hn : n ≤ 1048576) :
    Calls Try.prog 26 #[.slice (some ⟨g, 0, none⟩) 1 1, .int .i64 n] w (RepIn w 54 a b c n) := by
  obtain ⟨i0, hi0, hz0, hz1, hz2⟩ := info_parts rw_info
  have hmk := fun W => run_make (P := Try.prog) W 41 54 i0 _ Try.underlying41 hi0 hz0 .i64 .i64 n n (by omega) (by omega) (by rw [hz2]; omega) (by omega)
  have hmk' : ∀ W : World, (Instr.makeSlice 41 (.int .i64 n) (.int .i64 n)).run Try.prog W = .ok (.slice (some ⟨W.heap.size, 0, none⟩) n n) (W.alloc (.cells (madeCells #[.int .i64 0, .int .i64 0, .int .i64 0] (n * 3)) 54)) := fun W => by
    have := hmk W
    rw [hz1] at this
    simpa [Value.cells] using this
  have r0 : (w.alloc (.cells (madeCells #[.int .i64 0, .int .i64 0, .int .i64 0] (n * 3)) 54)).rowIs w.heap.size 54 (n * 3) (repF a b c 0) :=
    (rowIs_made_wide w _ (n * 3) _).congr fun j _ => by
      unfold repF
      rw [if_neg (by omega)]
      have : j % 3 < 3 := Nat.mod_lt _ (by omega)
      show (#[Value.int .i64 0, .int .i64 0, .int .i64 0])[j % 3]! = _
      generalize j % 3 = q at *
      match q, this with
      | 0, _ => rfl
      | 1, _ => rfl
      | 2, _ => rfl
  have g0 := hg.alloc (.cells (madeCells #[.int .i64 0, .int .i64 0, .int .i64 0] (n * 3)) 54)
  have hcp := fun (ty : TypeId) => rw_copy1 r0 g0 ty
  have hmin : Nat.min 1 n ≤ n ∧ (0 < n → 0 < Nat.min 1 n) := ⟨Nat.min_le_right _ _, fun h => by
    have : Nat.min 1 n = 1 := Nat.min_eq_left h
    omega⟩
  have r1 := (rowIs_setCells (repL a b c (Nat.min 1 n)) (0 * 3) r0).congr fun j _ => (rep_step a b c (k := 0) (q := Nat.min 1 n) j).trans (by rw [Nat.zero_add])
  have b1 : Below w.heap.size w (w.alloc (.cells (madeCells #[.int .i64 0, .int .i64 0, .int .i64 0] (n * 3)) 54)) := (Below.refl _ _).alloc (Nat.le_refl _) _
  have b2 := below_setCells (b := w.heap.size) (Nat.le_refl _) (repL a b c (Nat.min 1 n)) (0 * 3) b1
  have e1 : 1 * n / 18446744073709551616 = 0 := by omega
  have e2 : 1 * n % 18446744073709551616 = n := by omega
  have hMul : ∀ W : World, Calls Try.prog 43 #[.int .u64 1, .int .u64 n] W fun e w' => e = .returned (.tuple #[.int .u64 0, .int .u64 n]) ∧ W = w' := fun W => by
    have := Try.bits_Mul 1 n (by omega) (by omega) W
    rw [e1, e2] at this
    exact this.mono fun _ _ ⟨h, h'⟩ => ⟨h, h'.symm⟩
  have HMul := Lib.hid hMul
  have hw1 : IntKind.u64.wrap (n : Int) = (n : Int) := by rw [IntKind.wrap_u64]; omega
  have hw2 : IntKind.i64.wrap (n : Int) = (n : Int) := IntWalk.i64_in _ (by omega)
  have hn0 : ¬ (n : Int) < 0 := by omega
  have hn1 : ¬ 9223372036854775807 < (n : Int) := by omega
  generalize Nat.min 1 n = k0 at *
  have R1 := Lib.hid r1
  have B2 := Lib.hid b2
  clear hmk hi0 hz0 hz1 hz2 r0 g0 e1 e2 hMul r1 b1 b2 hg
  go_enter Try.func26, Try.ntmps26
  go_wp2_with fail
  refine (HMul.out _).mono ?_
  rintro e w' ⟨rfl, rfl⟩
  go_wp2
  clear hmk' hcp
  have R2 := R1.out
  have B3 := B2.out
  clear R1 B2
  generalize (w.alloc (.cells (madeCells #[.int .i64 0, .int .i64 0, .int .i64 0] (n * 3)) 54)).setCells w.heap.size (0 * 3) (repL a b c k0) = W0 at *
  go_loopw [8] (fun i wr => ∃ k : Nat, k ≤ n ∧ (0 < n → 0 < k) ∧ i = .int .i64 k ∧ wr.rowIs w.heap.size 54 (n * 3) (repF a b c k) ∧ Below w.heap.size w wr) (fun i _ => n - (intOf i).toNat)
  case atStart => exact ⟨k0, hmin.1, hmin.2, rfl, R2, B3⟩
  case round =>
    obtain ⟨k, hk, hk0, rfl, q1, q2⟩ := hrel
    clear R2 B3
    by_cases hlt : k < n
    · have hkp := hk0 (by omega)
      have hc1 := fun W => rw_cut_low W w.heap.size n k hlt
      have hc2 := fun W => rw_cut_high W w.heap.size n k hk
      have hq : k + Nat.min k (n - k) ≤ n ∧ 0 < Nat.min k (n - k) := by
        have h1 : Nat.min k (n - k) ≤ n - k := Nat.min_le_right _ _
        refine ⟨by omega, ?_⟩
        have : 0 < min k (n - k) := by omega
        exact this
      have hcp := fun ty => rw_copy (W := wr.drew) q1 hq.1 rfl ty
      have q3 := (rowIs_setCells (repL a b c (Nat.min k (n - k))) (k * 3) (w := wr.drew) q1).congr fun j _ => rep_step a b c (k := k) (q := Nat.min k (n - k)) j
      have q4 := below_setCells (b := w.heap.size) (Nat.le_refl _) (repL a b c (Nat.min k (n - k))) (k * 3) (w := wr.drew) (below_drewN q2 1)
      have hwr : IntKind.i64.wrap ((k : Int) + (Nat.min k (n - k) : Nat)) = (k : Int) + (Nat.min k (n - k) : Nat) := IntWalk.i64_in _ (by omega)
      generalize Nat.min k (n - k) = q at *
      have Q3 := Lib.hid q3
      have Q4 := Lib.hid q4
      clear q1 q2 q3 q4
      go_wp2
      go_region_held3 (fun _ => True) (first | exact trivial) (first | fail)
      go_wp2
      go_roundw
      case rel => exact ⟨k + q, hq.1, fun _ => by omega, by go_num, Q3.out, Q4.out⟩
      case measure => simp [intOf]; omega
    · go_wp2
      go_ret
      have e : k = n := by omega
      subst e
      exact ⟨_, rfl, q1.congr fun j hj => if_pos hj, Nat.le_refl _, q2⟩

theorem pl_info : (Try.prog.info? 60).map (fun i => (i.zero, i.size, i.bytes)) = some (some (.agg #[.int .i64 0, .int .i64 0, .int .i64 0]), 3, 24) := by kernel_rfl
theorem pl_size : (Try.prog.info? 60).map (·.size) = some 3 := by kernel_rfl
theorem pl_cut_low (W : World) (B n k : Nat) (hk : k < n) : (Instr.slice 42 (.slice (some ⟨B, 0, none⟩) n n) (some (.int .i64 k)) none none).run Try.prog W = .ok (.slice (some ⟨B, k * 3, none⟩) (n - k) (n - k)) W := by
  rw [run_slice_l (P := Try.prog) W 42 (some ⟨B, 0, none⟩) n n (by kernel_rfl) .i64 k (by omega) (by omega)]
  rw [show (sizeOf (Try.prog.elem 42)).run Try.prog W = .ok 3 W by kernel_rfl]
  have h' : ¬ n = k := by omega
  by_cases h : k = 0
  · subst h; simp [Result.andThen, sliced, Addr.add]
  · have h3 : ¬ k * 3 = 0 := by omega
    simp [Result.andThen, sliced, Addr.add, h', h3]
theorem pl_cut_high (W : World) (B n k : Nat) (hk : k ≤ n) : (Instr.slice 42 (.slice (some ⟨B, 0, none⟩) n n) none (some (.int .i64 k)) none).run Try.prog W = .ok (.slice (some ⟨B, 0, none⟩) k n) W := by
  rw [run_slice_h (P := Try.prog) W 42 (some ⟨B, 0, none⟩) n n (by kernel_rfl) .i64 k (by omega) (by omega)]
  rw [show (sizeOf (Try.prog.elem 42)).run Try.prog W = .ok 3 W by kernel_rfl]
  simp [Result.andThen, sliced, Addr.add]
theorem pl_copy {W : World} {B n k q : Nat} {a b c : Int} (hr : W.rowIs B 60 (n * 3) (repF a b c k)) (hq : k + q ≤ n) (hmin : q = Nat.min k (n - k)) (ty : TypeId) :
    (Builtin.copy_ #[42, 42] ty #[.slice (some ⟨B, k * 3, none⟩) (n - k) (n - k), .slice (some ⟨B, 0, none⟩) k n]).run Try.prog W = .ok (goInt q) (W.setCells B (k * 3) (repL a b c q)) := by
  refine run_copy_wide W _ _ ty 60 3 B (k * 3) (n - k) (n - k) ⟨B, 0, none⟩ k n q (repL a b c q) Try.underlying42 pl_size hmin (repL_length _ _ _ _) (fun j v hj => ?_) (fun j hj => ?_) (fun j hj => hr.frozen _) (repL_one _ _ _ _)
  · have hjl := (List.getElem?_eq_some_iff.1 hj).1
    rw [repL_length] at hjl
    have hqk : q ≤ k := by rw [hmin]; exact Nat.min_le_left _ _
    rw [repL_at a b c hjl] at hj
    rw [Addr.add_lit, Nat.zero_add, hr.cell (by omega), ← hj]
    unfold repF
    rw [if_pos (by omega)]
  · rw [repL_length] at hj
    rw [hr.cell (by omega)]; rfl
theorem pl_copy1 {W : World} {B n g : Nat} {a b c : Int} (hr : W.rowIs B 60 (n * 3) (repF a b c 0)) (hg : W.rowIs g 60 3 (tri (fun _ => a) (fun _ => b) (fun _ => c))) (ty : TypeId) :
    (Builtin.copy_ #[42, 42] ty #[.slice (some ⟨B, 0, none⟩) n n, .slice (some ⟨g, 0, none⟩) 1 1]).run Try.prog W = .ok (goInt (Nat.min 1 n)) (W.setCells B (0 * 3) (repL a b c (Nat.min 1 n))) := by
  have hm : Nat.min 1 n ≤ 1 ∧ Nat.min 1 n ≤ n := ⟨Nat.min_le_left _ _, Nat.min_le_right _ _⟩
  refine run_copy_wide W _ _ ty 60 3 B (0 * 3) n n ⟨g, 0, none⟩ 1 1 (Nat.min 1 n) (repL a b c (Nat.min 1 n)) Try.underlying42 pl_size rfl (repL_length _ _ _ _) (fun j v hj => ?_) (fun j hj => ?_) (fun j hj => hr.frozen _) (repL_one _ _ _ _)
  · have hjl := (List.getElem?_eq_some_iff.1 hj).1
    rw [repL_length] at hjl
    rw [repL_at a b c hjl] at hj
    rw [Addr.add_lit, Nat.zero_add, hg.cell (by omega), ← hj]
  · rw [repL_length] at hj
    rw [hr.cell (by omega)]; rfl
set_option maxHeartbeats 1600000 in
theorem pl_rep {w : World} {g n : Nat} {a b c : Int} (hg : w.rowIs g 60 3 (tri (fun _ => a) (fun _ => b) (fun _ => c))) (hn : n ≤ 1048576) :
    Calls Try.prog 28 #[.slice (some ⟨g, 0, none⟩) 1 1, .int .i64 n] w (RepIn w 60 a b c n) := by
  obtain ⟨i0, hi0, hz0, hz1, hz2⟩ := info_parts pl_info
  have hmk := fun W => run_make (P := Try.prog) W 42 60 i0 _ Try.underlying42 hi0 hz0 .i64 .i64 n n (by omega) (by omega) (by rw [hz2]; omega) (by omega)
  have hmk' : ∀ W : World, (Instr.makeSlice 42 (.int .i64 n) (.int .i64 n)).run Try.prog W = .ok (.slice (some ⟨W.heap.size, 0, none⟩) n n) (W.alloc (.cells (madeCells #[.int .i64 0, .int .i64 0, .int .i64 0] (n * 3)) 60)) := fun W => by
    have := hmk W
    rw [hz1] at this
    simpa [Value.cells] using this
  have r0 : (w.alloc (.cells (madeCells #[.int .i64 0, .int .i64 0, .int .i64 0] (n * 3)) 60)).rowIs w.heap.size 60 (n * 3) (repF a b c 0) :=
    (rowIs_made_wide w _ (n * 3) _).congr fun j _ => by
      unfold repF
      rw [if_neg (by omega)]
      have : j % 3 < 3 := Nat.mod_lt _ (by omega)
      show (#[Value.int .i64 0, .int .i64 0, .int .i64 0])[j % 3]! = _
      generalize j % 3 = q at *
      match q, this with
      | 0, _ => rfl
      | 1, _ => rfl
      | 2, _ => rfl
  have g0 := hg.alloc (.cells (madeCells #[.int .i64 0, .int .i64 0, .int .i64 0] (n * 3)) 60)
  have hcp := fun (ty : TypeId) => pl_copy1 r0 g0 ty
  have hmin : Nat.min 1 n ≤ n ∧ (0 < n → 0 < Nat.min 1 n) := ⟨Nat.min_le_right _ _, fun h => by
    have : Nat.min 1 n = 1 := Nat.min_eq_left h
    omega⟩
  have r1 := (rowIs_setCells (repL a b c (Nat.min 1 n)) (0 * 3) r0).congr fun j _ => (rep_step a b c (k := 0) (q := Nat.min 1 n) j).trans (by rw [Nat.zero_add])
  have b1 : Below w.heap.size w (w.alloc (.cells (madeCells #[.int .i64 0, .int .i64 0, .int .i64 0] (n * 3)) 60)) := (Below.refl _ _).alloc (Nat.le_refl _) _
  have b2 := below_setCells (b := w.heap.size) (Nat.le_refl _) (repL a b c (Nat.min 1 n)) (0 * 3) b1
  have e1 : 1 * n / 18446744073709551616 = 0 := by omega
  have e2 : 1 * n % 18446744073709551616 = n := by omega
  have hMul : ∀ W : World, Calls Try.prog 43 #[.int .u64 1, .int .u64 n] W fun e w' => e = .returned (.tuple #[.int .u64 0, .int .u64 n]) ∧ W = w' := fun W => by
    have := Try.bits_Mul 1 n (by omega) (by omega) W
    rw [e1, e2] at this
    exact this.mono fun _ _ ⟨h, h'⟩ => ⟨h, h'.symm⟩
  have HMul := Lib.hid hMul
  have hw1 : IntKind.u64.wrap (n : Int) = (n : Int) := by rw [IntKind.wrap_u64]; omega
  have hw2 : IntKind.i64.wrap (n : Int) = (n : Int) := IntWalk.i64_in _ (by omega)
  have hn0 : ¬ (n : Int) < 0 := by omega
  have hn1 : ¬ 9223372036854775807 < (n : Int) := by omega
  generalize Nat.min 1 n = k0 at *
  have R1 := Lib.hid r1
  have B2 := Lib.hid b2
  clear hmk hi0 hz0 hz1 hz2 r0 g0 e1 e2 hMul r1 b1 b2 hg
  go_enter Try.func28, Try.ntmps28
  go_wp2_with fail
  refine (HMul.out _).mono ?_
  rintro e w' ⟨rfl, rfl⟩
  go_wp2
  clear hmk' hcp
  have R2 := R1.out
  have B3 := B2.out
  clear R1 B2
  generalize (w.alloc (.cells (madeCells #[.int .i64 0, .int .i64 0, .int .i64 0] (n * 3)) 60)).setCells w.heap.size (0 * 3) (repL a b c k0) = W0 at *
  go_loopw [8] (fun i wr => ∃ k : Nat, k ≤ n ∧ (0 < n → 0 < k) ∧ i = .int .i64 k ∧ wr.rowIs w.heap.size 60 (n * 3) (repF a b c k) ∧ Below w.heap.size w wr) (fun i _ => n - (intOf i).toNat)
  case atStart => exact ⟨k0, hmin.1, hmin.2, rfl, R2, B3⟩
  case round =>
    obtain ⟨k, hk, hk0, rfl, q1, q2⟩ := hrel
    clear R2 B3
    by_cases hlt : k < n
    · have hkp := hk0 (by omega)
      have hc1 := fun W => pl_cut_low W w.heap.size n k hlt
      have hc2 := fun W => pl_cut_high W w.heap.size n k hk
      have hq : k + Nat.min k (n - k) ≤ n ∧ 0 < Nat.min k (n - k) := by
        have h1 : Nat.min k (n - k) ≤ n - k := Nat.min_le_right _ _
        refine ⟨by omega, ?_⟩
        have : 0 < min k (n - k) := by omega
        exact this
      have hcp := fun ty => pl_copy (W := wr.drew) q1 hq.1 rfl ty
      have q3 := (rowIs_setCells (repL a b c (Nat.min k (n - k))) (k * 3) (w := wr.drew) q1).congr fun j _ => rep_step a b c (k := k) (q := Nat.min k (n - k)) j
      have q4 := below_setCells (b := w.heap.size) (Nat.le_refl _) (repL a b c (Nat.min k (n - k))) (k * 3) (w := wr.drew) (below_drewN q2 1)
      have hwr : IntKind.i64.wrap ((k : Int) + (Nat.min k (n - k) : Nat)) = (k : Int) + (Nat.min k (n - k) : Nat) := IntWalk.i64_in _ (by omega)
      generalize Nat.min k (n - k) = q at *
      have Q3 := Lib.hid q3
      have Q4 := Lib.hid q4
      clear q1 q2 q3 q4
      go_wp2
      go_region_held3 (fun _ => True) (first | exact trivial) (first | fail)
      go_wp2
      go_roundw
      case rel => exact ⟨k + q, hq.1, fun _ => by omega, by go_num, Q3.out, Q4.out⟩
      case measure => simp [intOf]; omega
    · go_wp2
      go_ret
      have e : k = n := by omega
      subst e
      exact ⟨_, rfl, q1.congr fun j hj => if_pos hj, Nat.le_refl _, q2⟩

/-! ### New -/
theorem Rep.empty (L N : Nat) : Rep L N (fun _ => []) (fun _ => -1) (fun _ => -1) (fun _ => 0) (fun _ => -1) (fun _ => -1) (fun _ => -1) :=
  ⟨Inv.empty L N, fun _ _ => rfl, fun _ _ => rfl, fun _ _ => rfl, fun _ => trivial, fun i x h => by simp at h, fun _ _ _ => ⟨rfl, rfl, rfl⟩⟩
def inB (n : Int) : Bool := decide (0 ≤ n ∧ n ≤ 1048576)
theorem new_no (n k : Int) (w : World) (h : inB n = false ∨ inB k = false) : Calls Try.prog 8 #[.int .i64 n, .int .i64 k] w fun e w' => e = .returned (.pointer none) ∧ w = w' := by
  by_cases h1 : n < 0
  · clear h
    go_enter Try.func8, Try.ntmps8
    go_wp2
    go_ret
    exact ⟨rfl, rfl⟩
  · by_cases h2 : 1048576 < n
    · clear h
      go_enter Try.func8, Try.ntmps8
      go_wp2
      go_ret
      exact ⟨rfl, rfl⟩
    · have h3 : ¬ (0 ≤ k ∧ k ≤ 1048576) := by
        rcases h with h | h
        · exact absurd (by omega) (of_decide_eq_false h)
        · exact of_decide_eq_false h
      clear h
      by_cases h4 : k < 0
      · clear h3
        go_enter Try.func8, Try.ntmps8
        go_wp2
        go_ret
        exact ⟨rfl, rfl⟩
      · have h5 : 1048576 < k := by omega
        clear h3
        go_enter Try.func8, Try.ntmps8
        go_wp2
        go_ret
        exact ⟨rfl, rfl⟩
def NewIn (w : World) (L N : Nat) (e : Ending) (w' : World) : Prop := ∃ g, e = .returned (.pointer (some ⟨g, 0, none⟩)) ∧ ChainIn w' w.heap.size w'.heap.size (.pointer (some ⟨g, 0, none⟩)) L N (fun _ => []) ∧ Below w.heap.size w w'
theorem lit_three (w : World) (a b c : Int) (t : TypeId) : (w.alloc (.cells #[.int .i64 a, .int .i64 b, .int .i64 c] t)).rowIs w.heap.size t 3 (tri (fun _ => a) (fun _ => b) (fun _ => c)) := World.rowIs_alloc w _ _ _ (by
  intro i hi
  match i, hi with
  | 0, _ => rfl
  | 1, _ => rfl
  | 2, _ => rfl)
theorem new_in {w : World} {L N : Nat} (hL : L ≤ 1048576) (hN : N ≤ 1048576) : Calls Try.prog 8 #[.int .i64 L, .int .i64 N] w (NewIn w L N) := by
  have h0 : ¬ (L : Int) < 0 := by omega
  have h1 : ¬ 1048576 < (L : Int) := by omega
  have h2 : ¬ (N : Int) < 0 := by omega
  have h3 : ¬ 1048576 < (N : Int) := by omega
  go_enter Try.func8, Try.ntmps8
  go_wp2_with fail
  refine (no_row _).mono ?_
  rintro e w1 ⟨rfl, b1⟩
  unfold rowV
  go_wp2_with fail
  refine (rw_rep (lit_three w1 (-1) (-1) 0 54) hL).mono ?_
  rintro e w2 ⟨br, rfl, r2, hr2, b2⟩
  have a1 := b1.alloc b1.size (.cells #[.int .i64 (-1), .int .i64 (-1), .int .i64 0] 54)
  have a2 := a1.trans (b2.mono a1.size)
  go_wp2_with fail
  refine (no_place _).mono ?_
  rintro e w3 ⟨rfl, b3⟩
  unfold rowV
  go_wp2_with fail
  refine (pl_rep (lit_three w3 (-1) (-1) (-1) 60) hN).mono ?_
  rintro e w4 ⟨bp, rfl, r4, hr4, b4⟩
  have a3 := a2.trans (b3.mono a2.size)
  have a4 := a3.alloc a3.size (.cells #[.int .i64 (-1), .int .i64 (-1), .int .i64 (-1)] 60)
  have a5 := a4.trans (b4.mono a4.size)
  have r3 := r2.of_block (b3.block _ r2.lt)
  have r4' := (r3.alloc (.cells #[.int .i64 (-1), .int .i64 (-1), .int .i64 (-1)] 60))
  have r5 := r4'.of_block (b4.block _ r4'.lt)
  have q1 := Nat.le_trans a1.size hr2
  have q2 := Nat.le_trans a4.size hr4
  have A5 := Lib.hid a5
  have R5 := Lib.hid r5
  have R4 := Lib.hid r4
  clear b1 b2 b3 b4 a1 a2 a3 a4 a5 r2 r3 r4 r4' r5 hr2 hr4
  go_wp2
  go_ret
  have k1 := R5.out.alloc (.cells #[.slice (some ⟨br, 0, none⟩) L L, .slice (some ⟨bp, 0, none⟩) N N] 44)
  have k2 := R4.out.alloc (.cells #[.slice (some ⟨br, 0, none⟩) L L, .slice (some ⟨bp, 0, none⟩) N N] 44)
  have k3 : (w4.alloc (.cells #[.slice (some ⟨br, 0, none⟩) L L, .slice (some ⟨bp, 0, none⟩) N N] 44)).rowIs w4.heap.size 44 2 (chainF (some br) (some bp) L N) := World.rowIs_alloc w4 _ _ _ (by
    intro i hi
    match i, hi with
    | 0, _ => rfl
    | 1, _ => rfl)
  have k4 := A5.out.alloc A5.out.size (.cells #[.slice (some ⟨br, 0, none⟩) L L, .slice (some ⟨bp, 0, none⟩) N N] 44)
  have z1 := A5.out.size
  refine ⟨w4.heap.size, rfl, ⟨Inv.empty L N, Nat.le_refl _, .inr ⟨w4.heap.size, some br, some bp, _, _, _, _, _, _, rfl, ⟨k3, .inr ⟨br, rfl, k1⟩, .inr ⟨bp, rfl, k2⟩, hL, hN⟩, Rep.empty L N, ⟨⟨z1, k3.lt⟩, fun b e => ?_, fun b e => ?_⟩⟩⟩, k4⟩
  · injection e with e
    subst e
    exact ⟨q1, k1.lt⟩
  · injection e with e
    subst e
    exact ⟨q2, k2.lt⟩
end Go.Proofs.Ytffpnpcbfogemaa
