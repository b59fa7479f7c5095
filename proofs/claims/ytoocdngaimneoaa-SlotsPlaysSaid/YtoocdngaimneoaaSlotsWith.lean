/- What copyholdref06's with returns: a contract. -/
import Derived.Test.YtoocdngaimneoaaSlotsRefs
namespace Go.Proofs.Ytoocdngaimneoaa
open Go.RowKit Go.Maps

def sF (a b c d : Value) : Nat → Value
  | 0 => a
  | 1 => b
  | 2 => c
  | _ => d
theorem row_lit4 (w : World) (a b c d : Value) (t : TypeId) : (w.alloc (.cells #[a, b, c, d] t)).rowIs w.heap.size t 4 (sF a b c d) := World.rowIs_alloc w #[a, b, c, d] t (sF a b c d) (by
  intro i hi
  match i, hi with
  | 0, _ => rfl
  | 1, _ => rfl
  | 2, _ => rfl
  | 3, _ => rfl)
theorem row_set0 {w : World} {g : Nat} {t : TypeId} {a b c d : Value} (h : w.rowIs g t 4 (sF a b c d)) (x : Value) : (w.setCell ⟨g, 0, none⟩ x).rowIs g t 4 (sF x b c d) := (h.set 0 x).congr fun j hj => by
  match j, hj with
  | 0, _ => rfl
  | 1, _ => rfl
  | 2, _ => rfl
  | 3, _ => rfl
theorem row_set1 {w : World} {g : Nat} {t : TypeId} {a b c d : Value} (h : w.rowIs g t 4 (sF a b c d)) (x : Value) : (w.setCell ⟨g, 1, none⟩ x).rowIs g t 4 (sF a x c d) := (h.set 1 x).congr fun j hj => by
  match j, hj with
  | 0, _ => rfl
  | 1, _ => rfl
  | 2, _ => rfl
  | 3, _ => rfl
theorem row_set2 {w : World} {g : Nat} {t : TypeId} {a b c d : Value} (h : w.rowIs g t 4 (sF a b c d)) (x : Value) : (w.setCell ⟨g, 2, none⟩ x).rowIs g t 4 (sF a b x d) := (h.set 2 x).congr fun j hj => by
  match j, hj with
  | 0, _ => rfl
  | 1, _ => rfl
  | 2, _ => rfl
  | 3, _ => rfl
theorem row_set3 {w : World} {g : Nat} {t : TypeId} {a b c d : Value} (h : w.rowIs g t 4 (sF a b c d)) (x : Value) : (w.setCell ⟨g, 3, none⟩ x).rowIs g t 4 (sF a b c x) := (h.set 3 x).congr fun j hj => by
  match j, hj with
  | 0, _ => rfl
  | 1, _ => rfl
  | 2, _ => rfl
  | 3, _ => rfl
theorem row_all {w : World} {g : Nat} {t : TypeId} {a b c d : Value} (h : w.rowIs g t 4 (sF a b c d)) (x y z u : Value) : ((((w.setCell ⟨g, 0, none⟩ x).setCell ⟨g, 1, none⟩ y).setCell ⟨g, 2, none⟩ z).setCell ⟨g, 3, none⟩ u).rowIs g t 4 (sF x y z u) :=
  row_set3 (row_set2 (row_set1 (row_set0 h x) y) z) u
theorem own_all {w : World} {base n size : Nat} {t : TypeId} {v : Value} {xs : List Value} (h : w.ownsRow base t size v n xs) {g : Nat} (hb : v.ownBlock ≠ some g) (x y z u : Value) : ((((w.setCell ⟨g, 0, none⟩ x).setCell ⟨g, 1, none⟩ y).setCell ⟨g, 2, none⟩ z).setCell ⟨g, 3, none⟩ u).ownsRow base t size v n xs :=
  own_other (own_other (own_other (own_other h hb 0 x) hb 1 y) hb 2 z) hb 3 u
theorem below_all {a w : World} {B : Nat} (h : Below B a w) {g : Nat} (hb : B ≤ g) (x y z u : Value) : Below B a ((((w.setCell ⟨g, 0, none⟩ x).setCell ⟨g, 1, none⟩ y).setCell ⟨g, 2, none⟩ z).setCell ⟨g, 3, none⟩ u) :=
  (((h.setCell (p := ⟨g, 0, none⟩) hb x).setCell (p := ⟨g, 1, none⟩) hb y).setCell (p := ⟨g, 2, none⟩) hb z).setCell (p := ⟨g, 3, none⟩) hb u
/-- What with makes: fresh lists of places and generations, the rest as it was. -/
def WithIn (w : World) (n : Nat) (os : List Bool) (gs : List Nat) (vc : Value) (f : Int) (e : Ending) (w' : World) : Prop := ∃ go co gg cg, e = .returned (.agg #[.slice (some ⟨go, 0, none⟩) n co, .slice (some ⟨gg, 0, none⟩) n cg, vc, .int .i64 f]) ∧ w'.ownsRow w.heap.size 4 1 (.slice (some ⟨go, 0, none⟩) n co) n (bools os) ∧ w'.ownsRow w.heap.size 3 1 (.slice (some ⟨gg, 0, none⟩) n cg) n (vals gs) ∧ Below w.heap.size w w'
theorem bools_one (l : List Bool) : ∀ u ∈ bools l, u.oneCell' = true := fun u hu => by
  obtain ⟨z, _, rfl⟩ := List.mem_map.1 hu
  rfl
theorem vals_one (l : List Nat) : ∀ u ∈ vals l, u.oneCell' = true := fun u hu => by
  obtain ⟨z, _, rfl⟩ := List.mem_map.1 hu
  rfl
theorem intsF_vals {w : World} {T : Nat → Prop} {A : Option Addr} {l : List Nat} (h : IntsF w T A (ints l)) : CellsF w T A (vals l) := by
  have := h.cells
  unfold ints at this
  rw [List.map_map] at this
  exact this
theorem blk_ne {a b n c : Nat} (h : a ≠ b) : some a ≠ (Value.slice (some ⟨b, 0, none⟩) n c).ownBlock := fun e => h (by injection e)
theorem blk_eq {a b n c : Nat} (h : (Value.slice (some ⟨b, 0, none⟩) n c).ownBlock = some a) : b = a := by injection h
set_option maxHeartbeats 1600000 in
theorem rwith_any {w : World} {T : Nat → Prop} {n p m cc co cg : Nat} {f : Int} {Ao Ag Ac : Option Addr} {os : List Bool} {gs : List Nat} (h1 : BoolsF w T Ao os) (h2 : IntsF w T Ag (ints gs)) (hlo : os.length = n) (hlg : gs.length = n) (hp : p < n) (hn : n ≤ 1048576) (b : Bool) :
    Calls Try.prog 21 #[.agg #[.slice Ao n co, .slice Ag n cg, .slice Ac m cc, .int .i64 f], .int .i64 p, .bool b] w (WithIn w n (os.set p b) gs (.slice Ac m cc) f) := by
  obtain ⟨i0, hi0, hz0, hz1, hz2⟩ := info_parts int_info
  obtain ⟨j0, hj0, hy0, hy1, hy2⟩ := info_parts bool_info
  have HI := Lib.hid hi0
  have HZ0 := Lib.hid hz0
  have HZ1 := Lib.hid hz1
  have HZ2 := Lib.hid hz2
  have HJ := Lib.hid hj0
  have HY0 := Lib.hid hy0
  have HY1 := Lib.hid hy1
  have HY2 := Lib.hid hy2
  -- the box, the result
  have r0 := (row_lit4 w (.slice Ao n co) (.slice Ag n cg) (.slice Ac m cc) (.int .i64 f) 29).alloc (.cells #[.slice none 0 0, .slice none 0 0, .slice none 0 0, .int .i64 0] 29)
  have s0 := row_lit4 (w.alloc (.cells #[.slice Ao n co, .slice Ag n cg, .slice Ac m cc, .int .i64 f] 29)) (.slice none 0 0) (.slice none 0 0) (.slice none 0 0) (.int .i64 0) 29
  have b0 : Below w.heap.size w ((w.alloc (.cells #[.slice Ao n co, .slice Ag n cg, .slice Ac m cc, .int .i64 f] 29)).alloc (.cells #[.slice none 0 0, .slice none 0 0, .slice none 0 0, .int .i64 0] 29)) := ((Below.refl _ _).alloc (Nat.le_refl _) _).alloc (by simp) _
  have hW : ((w.alloc (.cells #[.slice Ao n co, .slice Ag n cg, .slice Ac m cc, .int .i64 f] 29)).alloc (.cells #[.slice none 0 0, .slice none 0 0, .slice none 0 0, .int .i64 0] 29)).heap.size = w.heap.size + 2 := by simp
  have hsz : (w.alloc (.cells #[.slice Ao n co, .slice Ag n cg, .slice Ac m cc, .int .i64 f] 29)).heap.size = w.heap.size + 1 := by simp
  rw [hsz] at s0
  have k0 := h1.cells.keep (.of_below T b0)
  have H2 := Lib.hid (intsF_vals h2)
  clear hi0 hz0 hz1 hz2 hj0 hy0 hy1 hy2 hsz h1 h2
  go_enter Try.func21, Try.ntmps21
  go_upto_region 1 with fail
  generalize (w.alloc (.cells #[.slice Ao n co, .slice Ag n cg, .slice Ac m cc, .int .i64 f] 29)).alloc (.cells #[.slice none 0 0, .slice none 0 0, .slice none 0 0, .int .i64 0] 29) = W at *
  have c0 := (r0.alloc (.cells #[] 4)).cell (i := 0) (by omega)
  simp only [sF] at c0
  have R0 := Lib.hid r0
  have S0 := Lib.hid s0
  have B0 := Lib.hid b0
  have HLO := Lib.hid hlo
  have HLG := Lib.hid hlg
  have K0 := Lib.hid k0
  have HW := Lib.hid hW
  clear r0 s0 b0 k0 hlo hlg hW
  go_upto_region 2 with (at_builtin
                         refine wpList_append_copy _ rfl (.tmp 7) (.tmp 9) 26 rfl 4 j0 (.bool false) 1 Try.underlying26 HJ.out HY0.out HY1.out HY2.out rfl rfl T Ao n co (bools os) rfl K0.out (by unfold bools; rw [List.length_map]; exact HLO.out.symm) (bools_one os) (by omega) (by omega) ?_
                         intro v1 w1 hown1 b1 hsz1
                         obtain ⟨go, cco, rfl, _, hgo⟩ := own_some hown1 (by omega)
                         have r1 := row_same R0.out (.of_below (fun _ => True) b1) trivial
                         have c1 := r1.cell (i := 0) (by omega)
                         have f1 := r1.frozen 0
                         have OWN1 := Lib.hid hown1
                         have B1 := Lib.hid b1
                         clear hown1 r1 b1)
  have hw := HW.out
  have hgo2 := (OWN1.out.lt go rfl).1
  have r2 := row_set0 (row_same R0.out (.of_below (fun _ => True) B1.out) trivial) (.slice (some ⟨go, 0, none⟩) n cco)
  have s2 := (row_same S0.out (.of_below (fun _ => True) B1.out) trivial).setOther (a := ⟨w.heap.size, 0, none⟩) (by simp) (.slice (some ⟨go, 0, none⟩) n cco)
  have o2 := own_other OWN1.out (b := w.heap.size) (fun e => by have := blk_eq e; omega) 0 (.slice (some ⟨go, 0, none⟩) n cco)
  have hbel2 : Below w.heap.size w (w1.setCell ⟨w.heap.size, 0, none⟩ (.slice (some ⟨go, 0, none⟩) n cco)) := (B0.out.trans (B1.out.mono (by omega))).setCell (p := ⟨w.heap.size, 0, none⟩) (Nat.le_refl _) _
  have hbs2 : w.heap.size + 2 ≤ (w1.setCell ⟨w.heap.size, 0, none⟩ (.slice (some ⟨go, 0, none⟩) n cco)).heap.size := by simp [World.setCell]; omega
  have hgo3 : go < (w1.setCell ⟨w.heap.size, 0, none⟩ (.slice (some ⟨go, 0, none⟩) n cco)).heap.size := by simp [World.setCell]; exact hgo
  clear OWN1 B1 R0 S0 K0 c0 c1 f1 hgo B0 HW hsz1
  generalize w1.setCell ⟨w.heap.size, 0, none⟩ (.slice (some ⟨go, 0, none⟩) n cco) = W2 at *
  have K2 := Lib.hid (H2.out.keep (.of_below T hbel2))
  have c2 := (r2.alloc (.cells #[] 3)).cell (i := 1) (by omega)
  simp only [sF] at c2
  have R2 := Lib.hid r2
  have S2 := Lib.hid s2
  have O2 := Lib.hid o2
  have B2 := Lib.hid hbel2
  clear r2 s2 o2 hbel2
  go_upto_region 3 with (at_builtin
                         refine wpList_append_copy _ rfl (.tmp 12) (.tmp 14) 27 rfl 3 i0 (.int .i64 0) 8 Try.underlying27 HI.out HZ0.out HZ1.out HZ2.out rfl rfl T Ag n cg (vals gs) rfl K2.out (by rw [vals_length]; exact HLG.out.symm) (vals_one gs) (by omega) (by omega) ?_
                         intro v3 w3 hown3 b3 hsz3
                         obtain ⟨gg, ccg, rfl, _, hgg⟩ := own_some hown3 (by omega)
                         have r3 := row_same R2.out (.of_below (fun _ => True) b3) trivial
                         have c3 := r3.cell (i := 1) (by omega)
                         have f3 := r3.frozen 1
                         have OWN3 := Lib.hid hown3
                         have B3 := Lib.hid b3
                         clear hown3 r3 b3)
  have hgg2 := (OWN3.out.lt gg rfl).1
  have r4 := row_set1 (row_same R2.out (.of_below (fun _ => True) B3.out) trivial) (.slice (some ⟨gg, 0, none⟩) n ccg)
  have s4 := (row_same S2.out (.of_below (fun _ => True) B3.out) trivial).setOther (a := ⟨w.heap.size, 1, none⟩) (by simp) (.slice (some ⟨gg, 0, none⟩) n ccg)
  have o4 := own_other (own_same O2.out (.of_below (fun _ => True) B3.out) fun _ _ => trivial) (b := w.heap.size) (fun e => by have := blk_eq e; omega) 1 (.slice (some ⟨gg, 0, none⟩) n ccg)
  have q4 := own_other OWN3.out (b := w.heap.size) (fun e => by have := blk_eq e; omega) 1 (.slice (some ⟨gg, 0, none⟩) n ccg)
  have b4 : Below w.heap.size w (w3.setCell ⟨w.heap.size, 1, none⟩ (.slice (some ⟨gg, 0, none⟩) n ccg)) := (B2.out.trans (B3.out.mono (by omega))).setCell (p := ⟨w.heap.size, 1, none⟩) (Nat.le_refl _) _
  clear OWN3 B3 R2 S2 O2 B2 K2 c2 c3 f3 hsz3 H2 hgg
  generalize w3.setCell ⟨w.heap.size, 1, none⟩ (.slice (some ⟨gg, 0, none⟩) n ccg) = W4 at *
  -- the place
  have c4 := r4.cell (i := 0) (by omega)
  simp only [sF] at c4
  obtain ⟨xb, hxb⟩ : ∃ xb, os[p]? = some xb := ⟨_, List.getElem?_eq_getElem (by have := HLO.out; omega)⟩
  have c5 : W4.cell? ⟨go, p, none⟩ = some (.bool xb) := by rw [World.ownsRow.cellAt o4 p (by omega), bools_at hxb]
  have f5 := World.ownsRow.frozenAt o4 p
  have hpr : 0 ≤ (p : Int) ∧ (p : Int) < (n : Int) := by omega
  have r6 := r4.setOther (a := ⟨go, p, none⟩) (show w.heap.size ≠ go by omega) (.bool b)
  have s6 := s4.setOther (a := ⟨go, p, none⟩) (show w.heap.size + 1 ≠ go by omega) (.bool b)
  have o6 := own_set o4 p (.bool b)
  have q6 := own_other q4 (b := go) (fun e => by have := blk_eq e; omega) p (.bool b)
  have b6 := b4.setCell (p := ⟨go, p, none⟩) (show w.heap.size ≤ go by omega) (.bool b)
  have hos : (bools os).set p (.bool b) = bools (os.set p b) := by unfold bools; rw [List.map_set]
  rw [hos] at o6
  have R6 := Lib.hid r6
  have S6 := Lib.hid s6
  have O6 := Lib.hid o6
  have Q6 := Lib.hid q6
  have B6 := Lib.hid b6
  clear r4 s4 o4 q4 b4 r6 s6 o6 q6 b6 hos hxb
  go_upto_region 4 with fail
  clear c4 c5 f5
  generalize W4.setCell ⟨go, p, none⟩ (.bool b) = W6 at *
  have e0 := R6.out.cell (i := 0) (by omega)
  have e1 := R6.out.cell (i := 1) (by omega)
  have e2 := R6.out.cell (i := 2) (by omega)
  have e3 := R6.out.cell (i := 3) (by omega)
  have g0 := S6.out.cell (i := 0) (by omega)
  have g1 := S6.out.cell (i := 1) (by omega)
  have g2 := S6.out.cell (i := 2) (by omega)
  have g3 := S6.out.cell (i := 3) (by omega)
  have t0 := S6.out.frozen 0
  have t1 := S6.out.frozen 1
  have t2 := S6.out.frozen 2
  have t3 := S6.out.frozen 3
  simp only [sF] at e0 e1 e2 e3 g0 g1 g2 g3
  go_wp2
  refine bodyPost_ret_by (results_cell_row rfl _ _ (w.heap.size + 1) 29 _ (0, 0) _ rfl (row4 (row_all S6.out _ _ _ _)) Try.underlying29 rfl (by kernel_rfl)) rfl ?_
  exact ⟨go, cco, gg, ccg, rfl, (own_all O6.out (fun e => by have := blk_eq e; omega) _ _ _ _).mono (by omega), (own_all Q6.out (fun e => by have := blk_eq e; omega) _ _ _ _).mono (by omega), below_all B6.out (by omega) _ _ _ _⟩
end Go.Proofs.Ytoocdngaimneoaa
