/- Layer 3 (stack): what List returns: contracts. -/
import Derived.Test.YtgooajgoofojmaaDoorFreeStPut
namespace Go.Proofs.YtgooajgoofojmaaDoor
open Go.RowKit

/-! ### List -/
/-- What List gives lies behind all that was there. -/
def ListIn (w : World) (l : List Nat) (e : Ending) (w' : World) : Prop := ∃ b, e = .returned (.slice (some ⟨b, 0, none⟩) l.length l.length) ∧ w'.rowIs b 3 l.length (fun j => .int .i64 (l.getD j 0 : Nat)) ∧ w.heap.size ≤ b ∧ Below w.heap.size w w'
theorem getD_at {l : List Nat} {k : Nat} (h : k < l.length) : l[k]? = some (l.getD k 0) := by rw [List.getD_eq_getElem?_getD, List.getElem?_eq_getElem h]; rfl
theorem ints_row {w : World} {l : List Nat} {b lo : Nat} {f : Nat → Value} (h : w.rowIs b 3 l.length f) (hf : ∀ j, j < l.length → f j = .int .i64 (l.getD j 0 : Nat)) (hlo : lo ≤ b) : IntsIn w lo w.heap.size (some ⟨b, 0, none⟩) (ints l) := by
  refine ⟨.inr ⟨b, 0, rfl, h.lt, fun k x hx => ?_⟩, Nat.le_refl _, fun b' off e => ?_⟩
  · have hk := (List.getElem?_eq_some_iff.1 hx).1
    rw [ints_length] at hk
    rw [Nat.zero_add, h.cell hk, hf k hk]
    unfold ints at hx
    rw [List.getElem?_map, getD_at hk] at hx
    injection hx with hx
    rw [← hx]
  · injection e with e
    injection e with e
    have := h.lt
    omega
set_option maxHeartbeats 800000 in
theorem list_at {w : World} {lo hi size : Nat} {v : Value} {l : List Nat} (h : StackIn w lo hi v size l) : Calls Tryd.prog 34 #[v] w (ListIn w l) := by
  obtain ⟨h1, h2, h3, h4⟩ := h.small
  have h00 := h
  obtain ⟨g, A, rfl, hs, hlo, hhi, hsz, hA⟩ := h
  obtain ⟨m, em⟩ : ∃ m, l.length = m := ⟨_, rfl⟩
  have hmk := fun W => run_make_row' (P := Tryd.prog) 26 3 (.int .i64 0) 8 Tryd.underlying26 int_info rfl .i64 .i64 m (by omega) (by omega) W
  have HM := Lib.hid em
  have hmb : m ≤ 1048576 := by omega
  have s1 := h00.chg (Chg.alloc 0 0 w (.cells (madeCells #[.int .i64 0] m) 3)) (by omega)
  have r1 : (w.alloc (.cells (madeCells #[.int .i64 0] m) 3)).rowIs w.heap.size 3 m (fun j => if j < 0 then .int .i64 (l.getD j 0 : Nat) else .int .i64 0) := World.rowIs_made w (.int .i64 0) m 3
  have b1 : Below w.heap.size w (w.alloc (.cells (madeCells #[.int .i64 0] m) 3)) := (Below.refl _ _).alloc (Nat.le_refl _) _
  have hg0 : g < w.heap.size := hs.glt
  have hb0 : ∀ b, A = some b → b < w.heap.size := fun b e => by have := hA b e; omega
  clear em h1 h2 h3 h4
  go_enter Tryd.func34, Tryd.ntmps34
  go_wp2_with (first
    | (go_at_call 33; (with_reducible refine (len_is h00 HM.out).mono ?_); rintro e w' ⟨rfl, rfl⟩)
    | (go_at_call 33; refine (len_is s1 HM.out).mono ?_; rintro e w' ⟨rfl, rfl⟩))
  clear hmk s1 h00
  go_loopw [10] (fun i wr => ∃ k : Nat, k ≤ m ∧ i = .int .i64 k ∧ wr.rowIs w.heap.size 3 m (fun j => if j < k then .int .i64 (l.getD j 0 : Nat) else .int .i64 0) ∧ Below w.heap.size w wr) (fun i _ => m - (intOf i).toNat)
  case atStart => exact ⟨0, by omega, rfl, r1, b1⟩
  case round =>
    obtain ⟨k, hk, rfl, q1, b2⟩ := hrel
    by_cases hlt : k < m
    · have hi : 0 ≤ (k : Int) ∧ (k : Int) < (m : Int) := by omega
      have hsz' := hs.le
      obtain ⟨b, c, rfl, hb, hc⟩ := hs.blk (by have := HM.out; omega)
      have hb' := hb0 b rfl
      have c0 : w.cell? ⟨g, 0, none⟩ = some (.slice (some ⟨b, 0, none⟩) l.length size) := hs.head.cell (i := 0) (by omega)
      rw [HM.out] at c0
      have c1 : wr.cell? ⟨g, 0, none⟩ = some (.slice (some ⟨b, 0, none⟩) m size) := (b2.cell (p := ⟨g, 0, none⟩) hg0).trans c0
      have hkl : k < l.length := by have := HM.out; omega
      have c2 : wr.cell? ⟨b, k, none⟩ = some (.int .i64 (l.getD k 0 : Nat)) := (b2.cell (p := ⟨b, k, none⟩) hb').trans (by rw [hb.cell (i := k) (by omega), hc.1 k _ (getD_at hkl)])
      have c3 := q1.cell (i := k) hlt
      have f3 := q1.frozen k
      have q2 := (q1.set k (.int .i64 (l.getD k 0 : Nat))).congr (g := fun j => if j < k + 1 then .int .i64 (l.getD j 0 : Nat) else .int .i64 0) fun j _ => by
        by_cases e : j = k
        · subst e; simp
        · by_cases e2 : j < k
          · simp only [if_neg e, if_pos e2]; rw [if_pos (by omega)]
          · simp only [if_neg e, if_neg e2]; rw [if_neg (by omega)]
      have b3 := b2.setCell (p := ⟨w.heap.size, k, none⟩) (Nat.le_refl _) (.int .i64 (l.getD k 0 : Nat))
      have Q2 := Lib.hid q2
      have B3 := Lib.hid b3
      generalize l.getD k 0 = y at *
      clear hb hc c0 q1 q2 b2 b3 r1 b1
      go_wp2
      go_roundw
      case rel => exact ⟨k + 1, by omega, by go_num, Q2.out, B3.out⟩
      case measure => simp [intOf]; omega
    · go_wp2
      go_ret
      have e : k = m := by omega
      subst e
      have e := HM.out
      subst e
      exact ⟨_, rfl, q1.congr fun j hj => if_pos hj, Nat.le_refl _, b2⟩
theorem list_nil (w : World) : Calls Tryd.prog 34 #[.pointer none] w (ListIn w []) := by
  have hmk := fun W => run_make_row' (P := Tryd.prog) 26 3 (.int .i64 0) 8 Tryd.underlying26 int_info rfl .i64 .i64 0 (by omega) (by omega) W
  simp only [Int.natCast_zero] at hmk
  go_enter Tryd.func34, Tryd.ntmps34
  go_wp2_with (go_at_call 33; refine (len_nil _).mono ?_; rintro e w' ⟨rfl, rfl⟩)
  refine wp_loop_rounds 1 ?_; rw [rounds_succ]
  go_wp2
  go_ret
  exact ⟨_, rfl, (World.rowIs_made w (.int .i64 0) 0 3).congr fun j hj => by omega, Nat.le_refl _, (Below.refl _ _).alloc (Nat.le_refl _) _⟩
end Go.Proofs.YtgooajgoofojmaaDoor
