/- Layer 10 (bytes): what is done with each row in Load, and Load, and Copy: contracts. -/
import Derived.Test.YtcfnnchbnlcppaaBytesBuild
namespace Go.Proofs.Ytcfnnchbnlcppaa
open Go.RowKit Go.Maps

def boxT (q : Nat) : Obj := .cells #[.pointer (some ⟨q, 0, none⟩)] 58
/-- The bytes c from a on, so many. -/
def bytesL (c : Nat → UInt8) (a m : Nat) : List UInt8 := (List.range m).map fun i => c (a + i)
theorem bytesL_length (c : Nat → UInt8) (a m : Nat) : (bytesL c a m).length = m := by unfold bytesL; simp
theorem bytesL_at {c : Nat → UInt8} {a m i : Nat} (h : i < m) : (bytesL c a m)[i]? = some (c (a + i)) := by unfold bytesL; simp [h]
theorem bytesL_append (c : Nat → UInt8) (a m k : Nat) : bytesL c a m ++ bytesL c (a + m) k = bytesL c a (m + k) := by
  apply List.ext_getElem?
  intro i
  rw [List.getElem?_append, bytesL_length]
  by_cases h1 : i < m
  · rw [if_pos h1, bytesL_at h1, bytesL_at (by omega)]
  · rw [if_neg h1]
    by_cases h2 : i < m + k
    · rw [bytesL_at (by omega), bytesL_at h2]
      congr 2
      omega
    · rw [List.getElem?_eq_none (by rw [bytesL_length]; omega), List.getElem?_eq_none (by rw [bytesL_length]; omega)]
section
variable {w : World} {g b n : Nat} {c : Nat → UInt8}
set_option maxRecDepth 100000 in
set_option maxHeartbeats 1000000 in
theorem load_one (h : ChunkAt w g b n c) {p1 q B : Nat} {l : List UInt8} (hb1 : w.heap[p1]? = some (boxB g)) (hq : Built B q l w) {k i t : Nat} (hk : k < 16384) (hi : i < t) (ht : t ≤ 64) (hlen : l.length + (t - i) ≤ 1048576) :
    Calls Try.prog 32 #[.int .i64 k, .int .i64 i, .int .i64 t, .pointer (some ⟨p1, 0, none⟩), .pointer (some ⟨q, 0, none⟩)] w fun e w' => e = .returned (.tuple #[]) ∧ Built B q (l ++ bytesL c (64 * k + i) (t - i)) w' ∧ Below B w w' := by
  have c1 := h.c1
  have hlook := h.look hk
  obtain ⟨hx1, _⟩ := box_cell hb1
  have hz := row_zero
  obtain ⟨A, hA⟩ : ∃ A, A = rowArr (rowOf c k) := ⟨_, rfl⟩
  have hAs : A.size = 64 := by rw [hA]; exact rowArr_size _
  have hA1 : A.all (·.oneCell') = true := by rw [hA]; exact rowArr_one _
  obtain ⟨Z, hZ⟩ : ∃ Z, Z = rowArr zeroF := ⟨_, rfl⟩
  have hZs : Z.size = 64 := by rw [hZ]; exact rowArr_size _
  rw [← hA] at hlook
  rw [← hZ] at hz
  have hBw : B ≤ w.heap.size := Nat.le_trans hq.1 (Nat.le_of_lt hq.lt)
  have HB1 : Hid (Below B w (w.alloc (.cells A 55))) := (Below.refl _ _).alloc hBw _
  have hqw : Built B q l (w.alloc (.cells A 55)) := hq.same fun k _ hk => Below.heap_alloc _ _ k hk
  have HW := Lib.hid (write_at hqw (⟨w.heap.size, i, none⟩ : Addr) (t - i) (64 - i) (bytesL c (64 * k + i) (t - i)) (bytesL_length _ _ _) (fun j u hj => by
    have hj' : j < t - i := by
      have := (List.getElem?_eq_some_iff.1 hj).1
      rw [Lib.byteCells_length, bytesL_length] at this
      exact this
    unfold Lib.byteCells at hj
    rw [List.getElem?_map, bytesL_at hj'] at hj
    have hadd : (⟨w.heap.size, i, none⟩ : Addr).add j = ⟨w.heap.size, i + j, none⟩ := by unfold Addr.add; split <;> simp_all
    rw [hadd, cell_of_row _ _ _ A _ _ (heap_alloc_last w _), hA, rowArr_at (by omega), ← hj]
    show some (byteV (c (64 * k + (i + j)))) = some (byteV (c (64 * k + i + j)))
    rw [Nat.add_assoc]) hlen)
  have HA := Lib.hid hA
  have hsl := fun X => slice_row X w.heap.size hi ht
  clear hA hZ h hb1 hq hqw
  go_enter Try.func32, Try.ntmps32
  go_wp2_with (first
    | (refine wpList_store_var rfl 55 (.tmp 8) (.tmp 14) rfl _ rfl _ rfl _ (store_row_new w hZs hAs hA1) ?_))
  refine HW.out.mono ?_
  rintro e w' ⟨rfl, h1, h2⟩
  go_wp2
  go_end0
  exact ⟨rfl, h1, HB1.out.trans h2⟩
theorem load_bad (h : ChunkAt w g b n c) {a m : Int} (ha : InInt a) (hm : InInt m) (hr : rangeE n a m = 15) : Calls Try.prog 15 #[.pointer (some ⟨g, 0, none⟩), .int .i64 a, .int .i64 m] w fun e w' => e = .returned (.tuple #[.string ⟨#[]⟩, .int .i64 15]) ∧ Below w.heap.size w w' := by
  have h1 := h.alloc (boxB g)
  have HB : Hid (Below w.heap.size w (w.alloc (boxB g))) := (Below.refl _ w).alloc (Nat.le_refl _) _
  have k1 : (w.alloc (boxB g)).cell? ⟨w.heap.size, 0, none⟩ = some (.pointer (some ⟨g, 0, none⟩)) := (box_cell (heap_alloc_new w _)).1
  have HW := Lib.hid (wrong_at h1 ha hm hr)
  unfold boxB at *
  clear h1 h hr ha hm
  go_enter Try.func15, Try.ntmps15
  go_wp2_with fail
  refine HW.out.mono ?_
  rintro e w' ⟨rfl, rfl⟩
  go_wp2
  go_ret2
  exact ⟨rfl, HB.out⟩
set_option maxHeartbeats 1000000 in
theorem load_at (h : ChunkAt w g b n c) {a m : Nat} (ham : a + m ≤ n) : Calls Try.prog 15 #[.pointer (some ⟨g, 0, none⟩), .int .i64 a, .int .i64 m] w fun e w' => e = .returned (.tuple #[.string ⟨(bytesL c a m).toArray⟩, .int .i64 0]) ∧ Below w.heap.size w w' := by
  have hs := h.small
  have hlt := h.lt
  have h1 := h.alloc (boxB g)
  have B1 : Below w.heap.size w (w.alloc (boxB g)) := (Below.refl _ w).alloc (Nat.le_refl _) _
  have e1 : (w.alloc (boxB g)).heap[w.heap.size]? = some (boxB g) := heap_alloc_new w _
  have HW := Lib.hid (wrong_at h1 (show InInt (a : Int) from ⟨by omega, by omega⟩) (show InInt (m : Int) from ⟨by omega, by omega⟩) (rangeE_no ham))
  have k1 := (box_cell e1).1
  have B2 : Below w.heap.size w ((w.alloc (boxB g)).alloc (.cells #[.pointer none, .slice none 0 0] 60)) := B1.alloc (by simp) _
  have s2 : w.heap.size + 1 ≤ ((w.alloc (boxB g)).alloc (.cells #[.pointer none, .slice none 0 0] 60)).heap.size := by simp
  have HG := Lib.hid (Try.Builder_Grow_fresh (w.heap.size + 1) (w.heap.size + 1) m ((w.alloc (boxB g)).alloc (.cells #[.pointer none, .slice none 0 0] 60)) (Nat.le_refl _) (heap_alloc2_new w _ _) s2 (by omega))
  have HJ : Hid (∀ W, Built (w.heap.size + 1) (w.heap.size + 1) [] W → Below (w.heap.size + 1) ((w.alloc (boxB g)).alloc (.cells #[.pointer none, .slice none 0 0] 60)) W →
      Calls Try.prog 27 #[.int .i64 a, .int .i64 m, .func (.func 32) #[] #[.pointer (some ⟨w.heap.size, 0, none⟩), .pointer (some ⟨w.heap.size + 1, 0, none⟩)]] W fun e w' => e = .returned (.tuple #[]) ∧ Built (w.heap.size + 1) (w.heap.size + 1) (bytesL c a m) w' ∧ Below w.heap.size w w') := fun W hb hbl => by
    have r := each_row (cap := [.pointer (some ⟨w.heap.size, 0, none⟩), .pointer (some ⟨w.heap.size + 1, 0, none⟩)]) ⟨_, .inr ⟨_, rfl⟩⟩ (enter_any Try.func32 (by kernel_rfl) rfl)
      (fun p X => Built (w.heap.size + 1) (w.heap.size + 1) (bytesL c a (p - a)) X ∧ Below (w.heap.size + 1) ((w.alloc (boxB g)).alloc (.cells #[.pointer none, .slice none 0 0] 60)) X)
      (a := a) (m := m) (by omega) (fun p X hp1 hp2 hJ => by
        obtain ⟨j1, j2⟩ := hJ
        have t1 := toP_is hp2
        have t2 := nextP_is hp2
        have hc : ChunkAt X g b n c := ((h1.alloc _).below j2 (by omega) (by omega))
        have hx : X.heap[w.heap.size]? = some (boxB g) := (j2.block _ (by omega)).trans (heap_alloc2_old w _ _)
        refine (load_one hc hx j1 (k := p / 64) (i := p % 64) (t := toP (a + m) p) (by omega) t1.1 t1.2.1 (by rw [bytesL_length]; omega)).mono ?_
        rintro e X' ⟨rfl, q1, q2⟩
        refine ⟨rfl, ?_, j2.trans q2⟩
        rw [show 64 * (p / 64) + p % 64 = a + (p - a) by omega, bytesL_append, show p - a + (toP (a + m) p - p % 64) = nextP (a + m) p - a by omega] at q1
        exact q1) (w := W) (by
        refine ⟨?_, hbl⟩
        rw [Nat.sub_self]
        exact hb)
    refine r.mono ?_
    rintro e w' ⟨rfl, q1, q2⟩
    rw [show a + m - a = m by omega] at q1
    exact ⟨rfl, q1, B2.trans (q2.mono (by omega))⟩
  have HS : Hid (∀ W, Built (w.heap.size + 1) (w.heap.size + 1) (bytesL c a m) W → Below w.heap.size w W → Calls Try.prog 34 #[.pointer (some ⟨w.heap.size + 1, 0, none⟩)] W fun e w' => e = .returned (.string ⟨(bytesL c a m).toArray⟩) ∧ Below w.heap.size w w') := fun W hb hbl => by
    refine (Try.Builder_String_any (w.heap.size + 1) (w.heap.size + 1) (bytesL c a m) W (.inr hb) (Nat.le_of_lt hb.lt)).mono ?_
    rintro e w' ⟨rfl, hq⟩
    exact ⟨rfl, hbl.trans (hq.mono (by omega))⟩
  generalize bytesL c a m = l at *
  unfold boxB at k1 HW HG HJ
  clear h1 B1 e1 h B2 s2
  go_enter Try.func15, Try.ntmps15
  go_wp2_with fail
  refine HW.out.mono ?_
  rintro e w' ⟨rfl, rfl⟩
  go_wp2_with fail
  refine HG.out.mono ?_
  rintro e w1 ⟨rfl, hb1, hl1⟩
  have HJ1 := Lib.hid (HJ.out w1 hb1 hl1)
  clear hb1 hl1
  go_wp2_with fail
  refine HJ1.out.mono ?_
  rintro e w2 ⟨rfl, hb2, hl2⟩
  have HS1 := Lib.hid (HS.out w2 hb2 hl2)
  clear hb2 hl2
  go_wp2_with fail
  refine HS1.out.mono ?_
  rintro e w3 ⟨rfl, hl3⟩
  go_wp2
  go_ret2
  exact ⟨rfl, hl3⟩
end
end Go.Proofs.Ytcfnnchbnlcppaa
