/- Layer 10 (bytes): what is done with each row in Wipe, and Wipe: contracts. -/
import Derived.Test.YtcfnnchbnlcppaaBytesStore
namespace Go.Proofs.Ytcfnnchbnlcppaa
open Go.RowKit Go.Maps

section
variable {w : World} {g b n : Nat} {c : Nat → UInt8}
set_option maxRecDepth 100000 in
set_option maxHeartbeats 1000000 in
theorem wipe_one (h : ChunkAt w g b n c) {p1 : Nat} (hb1 : w.heap[p1]? = some (boxB g)) {k i t : Nat} (hk : k < 16384) (hi : i < t) (ht : t ≤ 64) (hn : 64 * k + t ≤ n) :
    Calls Try.prog 30 #[.int .i64 k, .int .i64 i, .int .i64 t, .pointer (some ⟨p1, 0, none⟩)] w fun e w' => e = .returned (.tuple #[]) ∧ ChunkAt w' g b n (rowSet c k (storeF c k i t (zeros (t - i)))) ∧ But (fun j => j = b) w w' := by
  have c1 := h.c1
  have hlook := h.look hk
  obtain ⟨hx1, _⟩ := box_cell hb1
  obtain ⟨L, eL⟩ : ∃ L, t - i = L := ⟨_, rfl⟩
  have hz := row_zero
  obtain ⟨A, hA⟩ : ∃ A, A = rowArr (rowOf c k) := ⟨_, rfl⟩
  have hAs : A.size = 64 := by rw [hA]; exact rowArr_size _
  have hA1 : A.all (·.oneCell') = true := by rw [hA]; exact rowArr_one _
  obtain ⟨Z, hZ⟩ : ∃ Z, Z = rowArr zeroF := ⟨_, rfl⟩
  have hZs : Z.size = 64 := by rw [hZ]; exact rowArr_size _
  rw [← hA] at hlook
  rw [← hZ] at hz
  obtain ⟨V, hV⟩ : ∃ V, V = (A.toList.take i ++ List.replicate L (byteV 0) ++ A.toList.drop (i + L)).toArray := ⟨_, rfl⟩
  have HV : Hid (V = rowArr (storeF c k i t (zeros (t - i)))) := by
    show _ = _
    rw [hV, hA, ← byteCells_zeros, eL]
    refine row_put (zeros_size L) (by omega) fun j hj => ?_
    unfold storeF
    by_cases h1 : i ≤ j ∧ j < t
    · rw [if_pos h1, if_pos (by omega)]
    · rw [if_neg h1, if_neg (by omega)]
  have hVs : V.size = 64 := by rw [HV.out]; exact rowArr_size _
  have HA := Lib.hid hA
  have HV' := Lib.hid hV
  clear hA hZ hV
  go_enter Try.func30, Try.ntmps30
  go_upto_region 1 with (first
    | (refine wpList_store_var rfl 55 (.tmp 7) (.tmp 13) rfl _ rfl _ rfl _ (store_row_new w hZs hAs hA1) ?_))
  obtain ⟨q, hq⟩ : ∃ q, w.heap.size = q := ⟨_, rfl⟩
  have hne1 : q ≠ p1 := by have := heap_lt hb1; omega
  have B1 : Below w.heap.size w (w.alloc (.cells A 55)) := (Below.refl _ _).alloc (Nat.le_refl _) _
  have hqA : (w.alloc (.cells A 55)).heap[q]? = some (.cells A 55 (0, 0)) := by rw [← hq]; exact heap_alloc_last w _
  have H1 := h.more B1
  have hb1' := (B1.block p1 (heap_lt hb1)).trans hb1
  have HB := Lib.hid (But.of_below (fun j => j = b) B1)
  have HQ := Lib.hid hq
  rw [hq]
  clear hq hlook hx1 c1 hb1 h B1
  generalize w.alloc (.cells A 55) = W at *
  have hcp := fun ty => clear_row W ty (q := q) (i := i) (L := L) (cap := 64 - i) (A := A) hqA (by omega) (by omega)
  rw [← HV'.out] at hcp
  have hsl := fun X => slice_row X q hi ht
  rw [eL] at hsl
  have hXq : (W.setRow q V).heap[q]? = some (.cells V 55 (0, 0)) := setRow_heap W q A V _ _ hqA
  have hX1 : (W.setRow q V).cell? ⟨p1, 0, none⟩ = some (.pointer (some ⟨g, 0, none⟩)) := (box_cell ((setRow_other W q p1 V (fun e => hne1 e.symm)).trans hb1')).1
  have HX3 : ChunkAt (W.setRow q V) g b n c := by
    have h1 := H1.apart hqA (by decide)
    exact H1.keep (setRow_other W q g V (fun e => h1.1 e.symm)) (setRow_other W q b V (fun e => h1.2 e.symm))
  have HX4 : Hid (But (fun j => j = b) w (W.setRow q V)) := HB.out.setRow (.inl (Nat.le_of_eq HQ.out)) V
  go_upto_region 2 with fail
  clear hcp hsl hb1' hqA H1
  generalize W.setRow q V = X at *
  obtain ⟨hl1, hl⟩ := load_row hXq hVs
  have HPut : Hid (Calls Try.prog 29 #[.pointer (some ⟨g, 0, none⟩), .int .i64 k, .agg V] X (PutIn X g b n (rowSet c k (storeF c k i t (zeros (t - i)))))) := by
    show Calls _ _ _ _ _
    rw [HV.out]
    refine put_at HX3 hk fun j hj hjn => ?_
    unfold storeF
    rw [if_neg (by omega)]
    exact HX3.out _ hjn
  clear hXq HX3
  go_wp2_with (refine wpList_load_var rfl 55 (.tmp 7) rfl ⟨q, 0, none⟩ rfl (.agg V) hl ?_)
  refine HPut.out.mono ?_
  rintro e w' ⟨rfl, hc', hg'⟩
  go_wp2
  go_end0
  exact ⟨rfl, hc', HX4.out.trans (But.of_grown hg' rfl)⟩
theorem wipeTo_step {a m p P : Nat} (hap : a ≤ p) (hpe : p < a + m) (hP : P = nextP (a + m) p) :
    rowSet (putTo c a (zeros m) p) (p / 64) (storeF (putTo c a (zeros m) p) (p / 64) (p % 64) (toP (a + m) p) (zeros (toP (a + m) p - p % 64))) = putTo c a (zeros m) P := by
  have h := putTo_step (c := c) (T := zeros m) (p := p) (P := P) hap (by rw [zeros_size]; exact hpe) (by rw [zeros_size]; exact hP)
  rw [zeros_size] at h
  rw [← h]
  congr 1
  funext j
  unfold storeF
  by_cases h1 : p % 64 ≤ j ∧ j < toP (a + m) p
  · rw [if_pos h1, if_pos h1, byteAt_zeros, byteAt_extract]
    split
    · rw [byteAt_zeros]
    · rfl
  · rw [if_neg h1, if_neg h1]
theorem wipe_bad (h : ChunkAt w g b n c) {a m : Int} (ha : InInt a) (hm : InInt m) (hr : rangeE n a m = 15) : Calls Try.prog 13 #[.pointer (some ⟨g, 0, none⟩), .int .i64 a, .int .i64 m] w (Done w g b n c 15) := by
  have h1 := h.alloc (boxB g)
  have HB : Hid (But (fun k => k = b) w (w.alloc (boxB g))) := (But.refl _ w).alloc _
  have k1 : (w.alloc (boxB g)).cell? ⟨w.heap.size, 0, none⟩ = some (.pointer (some ⟨g, 0, none⟩)) := (box_cell (heap_alloc_new w _)).1
  have H1 := Lib.hid h1
  have HW := Lib.hid (wrong_at h1 ha hm hr)
  unfold boxB at *
  clear h1 h hr ha hm
  go_enter Try.func13, Try.ntmps13
  go_wp2_with fail
  refine HW.out.mono ?_
  rintro e w' ⟨rfl, rfl⟩
  go_wp2
  go_ret
  exact ⟨rfl, H1.out, HB.out⟩
theorem wipe_at (h : ChunkAt w g b n c) {a m : Nat} (ham : a + m ≤ n) : Calls Try.prog 13 #[.pointer (some ⟨g, 0, none⟩), .int .i64 a, .int .i64 m] w (Done w g b n (putF c a (zeros m)) 0) := by
  have hs := h.small
  have h1 := h.alloc (boxB g)
  have B1 : But (fun k => k = b) w (w.alloc (boxB g)) := (But.refl _ w).alloc _
  have e1 : (w.alloc (boxB g)).heap[w.heap.size]? = some (boxB g) := heap_alloc_new w _
  have HW := Lib.hid (wrong_at h1 (show InInt (a : Int) from ⟨by omega, by omega⟩) (show InInt (m : Int) from ⟨by omega, by omega⟩) (rangeE_no ham))
  have k1 := (box_cell e1).1
  have HE := Lib.hid (each_row (cap := [.pointer (some ⟨w.heap.size, 0, none⟩)]) ⟨_, .inl rfl⟩ (enter_any Try.func30 (by kernel_rfl) rfl)
    (fun p X => ChunkAt X g b n (putTo c a (zeros m) p) ∧ X.heap[w.heap.size]? = some (boxB g) ∧ But (fun k => k = b) w X)
    (a := a) (m := m) (by omega) (fun p X hp1 hp2 hJ => by
      obtain ⟨j1, j2, j4⟩ := hJ
      have t1 := toP_is hp2
      have t2 := nextP_is hp2
      refine (wipe_one j1 j2 (k := p / 64) (i := p % 64) (t := toP (a + m) p) (by omega) t1.1 t1.2.1 (by omega)).mono ?_
      rintro e X' ⟨rfl, q1, q3⟩
      refine ⟨rfl, ?_, ?_, ?_⟩
      · rw [wipeTo_step hp1 hp2 rfl] at q1
        exact q1
      · exact (q3.block _ (heap_lt j2) (j1.kind j2)).trans j2
      · exact j4.trans q3) (w := w.alloc (boxB g)) (by
      refine ⟨?_, e1, B1⟩
      rw [putTo_start]
      exact h1))
  unfold boxB at k1 HW HE
  clear h1 B1 e1 h
  go_enter Try.func13, Try.ntmps13
  go_wp2_with fail
  refine HW.out.mono ?_
  rintro e w' ⟨rfl, rfl⟩
  go_wp2_with fail
  refine HE.out.mono ?_
  rintro e w' ⟨rfl, j1, _, j4⟩
  go_wp2
  go_ret
  refine ⟨rfl, ?_, j4⟩
  have := putTo_end c a (zeros m)
  rw [zeros_size] at this
  rw [this] at j1
  exact j1
end
end Go.Proofs.Ytcfnnchbnlcppaa
