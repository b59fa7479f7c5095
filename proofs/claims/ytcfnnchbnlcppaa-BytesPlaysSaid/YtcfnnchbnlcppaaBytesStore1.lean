/- Layer 10 (bytes): what is done with each row in Store: a contract. -/
import Derived.Test.YtcfnnchbnlcppaaBytesRow
import Derived.BigRegion
namespace Go.Proofs.Ytcfnnchbnlcppaa
open Go.RowKit Go.Maps

/-- From w to w' nothing that was there has turned but in the blocks of S. -/
structure But (S : Nat → Prop) (w w' : World) : Prop where
  os : w'.os = w.os
  tape : w'.tape = w.tape
  output : w'.output = w.output
  size : w.heap.size ≤ w'.heap.size
  block : ∀ k, k < w.heap.size → ¬ S k → w'.heap[k]? = w.heap[k]?
theorem But.refl (S : Nat → Prop) (w : World) : But S w w := ⟨rfl, rfl, rfl, Nat.le_refl _, fun _ _ _ => rfl⟩
theorem But.trans {S : Nat → Prop} {a b c : World} (h : But S a b) (k : But S b c) : But S a c :=
  ⟨k.os.trans h.os, k.tape.trans h.tape, k.output.trans h.output, Nat.le_trans h.size k.size, fun j hj hS => (k.block j (by have := h.size; omega) hS).trans (h.block j hj hS)⟩
theorem But.of_below (S : Nat → Prop) {w w' : World} (h : Below w.heap.size w w') : But S w w' := ⟨h.os, h.tape, h.output, h.size, fun k hk _ => h.block k hk⟩
theorem But.of_grown {S : Nat → Prop} {b : Nat} {w w' : World} (h : w.grownBy w' (some b)) (hb : S b) : But S w w' := ⟨h.os, h.tape, h.output, h.size, fun k hk hS => h.block k hk (by intro e; injection e with e; subst e; exact hS hb)⟩
theorem But.more {S T : Nat → Prop} {w w' : World} (h : But S w w') (hT : ∀ k, k < w.heap.size → S k → T k) : But T w w' := ⟨h.os, h.tape, h.output, h.size, fun k hk hS => h.block k hk fun hs => hS (hT k hk hs)⟩
theorem But.drewN {S : Nat → Prop} {w w' : World} (h : But S w w') (n : Nat) : But S w (w'.drewN n) := ⟨h.os, h.tape, h.output, h.size, h.block⟩
theorem But.drew {S : Nat → Prop} {w w' : World} (h : But S w w') : But S w w'.drew := ⟨h.os, h.tape, h.output, h.size, h.block⟩
theorem But.alloc {S : Nat → Prop} {w w' : World} (h : But S w w') (o : Obj) : But S w (w'.alloc o) := h.trans (.of_below S ((Below.refl _ _).alloc (Nat.le_refl _) o))
theorem setRow_size (w : World) (q : Nat) (A : Array Value) : (w.setRow q A).heap.size = w.heap.size := by simp [World.setRow]
theorem But.setRow {S : Nat → Prop} {w w' : World} (h : But S w w') {q : Nat} (hq : w.heap.size ≤ q ∨ S q) (A : Array Value) : But S w (w'.setRow q A) :=
  ⟨h.os, h.tape, h.output, by rw [setRow_size]; exact h.size, fun k hk hS => (setRow_other w' q k A (fun e => by subst e; exact hq.elim (fun hq => by omega) hS)).trans (h.block k hk hS)⟩
theorem But.setCell {S : Nat → Prop} {w w' : World} (h : But S w w') {q i : Nat} (hq : w.heap.size ≤ q ∨ S q) (v : Value) : But S w (w'.setCell ⟨q, i, none⟩ v) :=
  ⟨h.os, h.tape, h.output, by simpa [World.setCell] using h.size, fun k hk hS => (Below.heap_setCell _ _ _ _ (fun e => by subst e; exact hq.elim (fun hq => by omega) hS)).trans (h.block k hk hS)⟩
theorem ChunkAt.but {w w' : World} {S : Nat → Prop} {g b n : Nat} {c : Nat → UInt8} (h : ChunkAt w g b n c) (hb : But S w w') (h1 : ¬ S g) (h2 : ¬ S b) : ChunkAt w' g b n c := h.keep (hb.block g h.lt.1 h1) (hb.block b h.lt.2 h2)
theorem heap_lt {w : World} {k : Nat} {o : Obj} (h : w.heap[k]? = some o) : k < w.heap.size := (Array.getElem?_eq_some_iff.1 h).1
theorem ne_kind {w : World} {p q : Nat} {cs ds : Array Value} {t u : TypeId} {fr fr' : Nat × Nat} (hp : w.heap[p]? = some (.cells cs t fr)) (hq : w.heap[q]? = some (.cells ds u fr')) (h : t ≠ u) : p ≠ q := by
  rintro rfl
  rw [hp] at hq
  injection hq with hq
  injection hq with _ e
  exact h e
/-- The head of the bytes is no box of another type. -/
theorem ChunkAt.apart {w : World} {g b n : Nat} {c : Nat → UInt8} (h : ChunkAt w g b n c) {p : Nat} {cs : Array Value} {t : TypeId} {fr : Nat × Nat} (hp : w.heap[p]? = some (.cells cs t fr)) (ht : t ≠ 41) : p ≠ g ∧ p ≠ b := by
  obtain ⟨ds, hd, _⟩ := h.head
  exact ⟨ne_kind hp hd ht, h.kind hp⟩
theorem box_cell {w : World} {p : Nat} {v : Value} {t : TypeId} (h : w.heap[p]? = some (.cells #[v] t (0, 0))) : w.cell? ⟨p, 0, none⟩ = some v ∧ w.frozen? ⟨p, 0, none⟩ = false := ⟨by rw [cell_of_row _ _ _ _ _ _ h]; rfl, frozen_of_row _ _ _ _ _ h⟩
theorem box_set {w : World} {p : Nat} {v u : Value} {t : TypeId} (h : w.heap[p]? = some (.cells #[v] t (0, 0))) : (w.setCell ⟨p, 0, none⟩ u).heap[p]? = some (.cells #[u] t (0, 0)) := heap_setCell_same _ _ _ _ _ _ h

def boxB (g : Nat) : Obj := .cells #[.pointer (some ⟨g, 0, none⟩)] 24
def boxS (s : ByteArray) : Obj := .cells #[.string s] 9
def storeF (c : Nat → UInt8) (k i t : Nat) (s : ByteArray) : Nat → UInt8 := fun j => if i ≤ j ∧ j < t then byteAt s (j - i) else rowOf c k j
theorem cut_rest (W : World) (s : ByteArray) {L : Nat} (h : L ≤ s.size) : (Instr.slice 9 (.string s) (some (.int .i64 (L : Int))) none none).run Try.prog W = .ok (.string (s.extract L s.size)) W := by
  have e1 : (0 : Int) ≤ (L : Int) := by omega
  have e2 : (L : Int) ≤ (s.size : Int) := by omega
  simp [Instr.slice, Instr.sliceBounds, Instr.sliceBound, asIntOf, run_underlying Try.underlying9, e1, h]
section
variable {w : World} {g b n : Nat} {c : Nat → UInt8}
set_option maxRecDepth 100000 in
set_option maxHeartbeats 1000000 in
theorem store_one (h : ChunkAt w g b n c) {p1 p2 : Nat} {s : ByteArray} (hb1 : w.heap[p1]? = some (boxB g)) (hb2 : w.heap[p2]? = some (boxS s)) {k i t : Nat} (hk : k < 16384) (hi : i < t) (ht : t ≤ 64) (hn : 64 * k + t ≤ n) (hL : t - i ≤ s.size) :
    Calls Try.prog 28 #[.int .i64 k, .int .i64 i, .int .i64 t, .pointer (some ⟨p1, 0, none⟩), .pointer (some ⟨p2, 0, none⟩)] w fun e w' => e = .returned (.tuple #[]) ∧ ChunkAt w' g b n (rowSet c k (storeF c k i t s)) ∧ w'.heap[p2]? = some (boxS (s.extract (t - i) s.size)) ∧ But (fun j => j = b ∨ j = p2) w w' := by
  have c1 := h.c1
  have hlook := h.look hk
  obtain ⟨hx1, _⟩ := box_cell hb1
  obtain ⟨hx2, hf2⟩ := box_cell hb2
  obtain ⟨L, eL⟩ : ∃ L, t - i = L := ⟨_, rfl⟩
  have hz := row_zero
  obtain ⟨A, hA⟩ : ∃ A, A = rowArr (rowOf c k) := ⟨_, rfl⟩
  have hAs : A.size = 64 := by rw [hA]; exact rowArr_size _
  have hA1 : A.all (·.oneCell') = true := by rw [hA]; exact rowArr_one _
  obtain ⟨Z, hZ⟩ : ∃ Z, Z = rowArr zeroF := ⟨_, rfl⟩
  have hZs : Z.size = 64 := by rw [hZ]; exact rowArr_size _
  rw [← hA] at hlook
  rw [← hZ] at hz
  obtain ⟨V, hV⟩ : ∃ V, V = (A.toList.take i ++ Lib.byteCells (s.extract 0 L).data.toList ++ A.toList.drop (i + L)).toArray := ⟨_, rfl⟩
  have HV : Hid (V = rowArr (storeF c k i t s)) := by
    show _ = _
    rw [hV, hA]
    refine row_put (by rw [size_extract]; omega) (by omega) fun j hj => ?_
    unfold storeF
    by_cases h1 : i ≤ j ∧ j < t
    · rw [if_pos h1, if_pos (by omega), byteAt_extract, if_pos (by omega), Nat.zero_add]
    · rw [if_neg h1, if_neg (by omega)]
  have hVs : V.size = 64 := by rw [HV.out]; exact rowArr_size _
  have HA := Lib.hid hA
  have HV' := Lib.hid hV
  clear hA hZ hV
  go_enter Try.func28, Try.ntmps28
  go_upto_region 1 with (first
    | (refine wpList_store_var rfl 55 (.tmp 8) (.tmp 14) rfl _ rfl _ rfl _ (store_row_new w hZs hAs hA1) ?_))
  obtain ⟨q, hq⟩ : ∃ q, w.heap.size = q := ⟨_, rfl⟩
  have hne2 : q ≠ p2 := by have := heap_lt hb2; omega
  have hne1 : q ≠ p1 := by have := heap_lt hb1; omega
  have B1 : Below w.heap.size w (w.alloc (.cells A 55)) := (Below.refl _ _).alloc (Nat.le_refl _) _
  have hqA : (w.alloc (.cells A 55)).heap[q]? = some (.cells A 55 (0, 0)) := by rw [← hq]; exact heap_alloc_last w _
  have H1 := h.more B1
  have hb1' := (B1.block p1 (heap_lt hb1)).trans hb1
  have hb2' := (B1.block p2 (heap_lt hb2)).trans hb2
  have HB := Lib.hid (But.of_below (fun j => j = b ∨ j = p2) B1)
  have HQ := Lib.hid hq
  have HN : Hid (p2 ≠ b) := h.kind hb2
  rw [hq]
  clear hq hlook hx1 hx2 hf2 c1 hb1 hb2 h B1
  generalize w.alloc (.cells A 55) = W at *
  have hcp := fun ty => copy_text W.drew ty (q := q) (i := i) (L := L) (cap := 64 - i) (s := s) (A := A) hqA (by omega) (by omega)
  rw [← HV'.out] at hcp
  have hsl := fun X => slice_row X q hi ht
  rw [eL] at hsl
  have hrs := fun X => cut_rest X s (show L ≤ s.size by omega)
  have hs1 : W.drew.cell? ⟨p2, 0, none⟩ = some (.string s) := (box_cell hb2').1
  have hb2r : (W.drew.setRow q V).heap[p2]? = some (boxS s) := (setRow_other W.drew q p2 V (fun e => hne2 e.symm)).trans hb2'
  have hs2 : (W.drew.setRow q V).cell? ⟨p2, 0, none⟩ = some (.string s) := (box_cell hb2r).1
  have hf2 : (W.drew.setRow q V).frozen? ⟨p2, 0, none⟩ = false := (box_cell hb2r).2
  have hXq : ((W.drew.setRow q V).setCell ⟨p2, 0, none⟩ (.string (s.extract L s.size))).heap[q]? = some (.cells V 55 (0, 0)) :=
    (Below.heap_setCell _ _ _ _ hne2).trans (setRow_heap W.drew q A V _ _ hqA)
  have hX1 : ((W.drew.setRow q V).setCell ⟨p2, 0, none⟩ (.string (s.extract L s.size))).cell? ⟨p1, 0, none⟩ = some (.pointer (some ⟨g, 0, none⟩)) :=
    (box_cell (((Below.heap_setCell _ _ _ _ (ne_kind hb1' hb2' (by decide))).trans (setRow_other W.drew q p1 V (fun e => hne1 e.symm))).trans hb1')).1
  have hX2 : ((W.drew.setRow q V).setCell ⟨p2, 0, none⟩ (.string (s.extract L s.size))).heap[p2]? = some (boxS (s.extract L s.size)) := box_set hb2r
  have HX3 : ChunkAt ((W.drew.setRow q V).setCell ⟨p2, 0, none⟩ (.string (s.extract L s.size))) g b n c := by
    have h1 := H1.apart hqA (by decide)
    have h2 := H1.apart hb2' (by decide)
    refine H1.keep ?_ ?_
    · exact (Below.heap_setCell _ _ _ _ (fun e => h2.1 e.symm)).trans (setRow_other W.drew q g V (fun e => h1.1 e.symm))
    · exact (Below.heap_setCell _ _ _ _ (fun e => h2.2 e.symm)).trans (setRow_other W.drew q b V (fun e => h1.2 e.symm))
  have HX4 : Hid (But (fun j => j = b ∨ j = p2) w ((W.drew.setRow q V).setCell ⟨p2, 0, none⟩ (.string (s.extract L s.size)))) :=
    (HB.out.drew.setRow (.inl (Nat.le_of_eq HQ.out)) V).setCell (.inr (.inr rfl)) _
  go_region
  all_goals
    generalize (W.drew.setRow q V).setCell ⟨p2, 0, none⟩ (.string (s.extract L s.size)) = X at *
    obtain ⟨hl1, hl⟩ := load_row hXq hVs
    have HPut : Hid (Calls Try.prog 29 #[.pointer (some ⟨g, 0, none⟩), .int .i64 k, .agg V] X (PutIn X g b n (rowSet c k (storeF c k i t s)))) := by
      show Calls _ _ _ _ _
      rw [HV.out]
      refine put_at HX3 hk fun j hj hjn => ?_
      unfold storeF
      rw [if_neg (by omega)]
      exact HX3.out _ hjn
    clear hcp hsl hrs hs1 hs2 hf2 hb2r hXq HX3 H1 hb1' hb2' hqA
    go_wp2_with (refine wpList_load_var rfl 55 (.tmp 8) rfl ⟨q, 0, none⟩ rfl (.agg V) hl ?_)
    refine HPut.out.mono ?_
    rintro e w' ⟨rfl, hc', hg'⟩
    go_wp2
    go_end0
    refine ⟨rfl, hc', ?_, HX4.out.trans (But.of_grown hg' (.inl rfl))⟩
    rw [eL]
    exact (hg'.block p2 (heap_lt hX2) (by
      intro e
      injection e with e
      exact HN.out e)).trans hX2
end
end Go.Proofs.Ytcfnnchbnlcppaa
