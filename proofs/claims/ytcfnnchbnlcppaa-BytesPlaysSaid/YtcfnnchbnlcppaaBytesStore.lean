/- Layer 10 (bytes): Store: a contract. -/
import Derived.Test.YtcfnnchbnlcppaaBytesStore1
namespace Go.Proofs.Ytcfnnchbnlcppaa
open Go.RowKit Go.Maps

/-- The rest of a text behind the bytes up to a place. -/
theorem rest_extract (T : ByteArray) {x L : Nat} (h : x + L ≤ T.size) : (T.extract x T.size).extract L (T.extract x T.size).size = T.extract (x + L) T.size := by
  apply bytes_ext
  · rw [size_extract, size_extract, size_extract]
    omega
  · intro j hj
    rw [size_extract, size_extract] at hj
    rw [byteAt_extract, byteAt_extract, byteAt_extract, size_extract, if_pos (by omega), if_pos (by omega), if_pos (by omega)]
    congr 1
    omega
/-- The bytes c with those of t from a on, ahead of p. -/
def putTo (c : Nat → UInt8) (a : Nat) (t : ByteArray) (p : Nat) : Nat → UInt8 := fun j => if a ≤ j ∧ j < p then byteAt t (j - a) else c j
theorem putTo_start (c : Nat → UInt8) (a : Nat) (t : ByteArray) : putTo c a t a = c := by
  funext j
  unfold putTo
  rw [if_neg (by omega)]
theorem putTo_end (c : Nat → UInt8) (a : Nat) (t : ByteArray) : putTo c a t (a + t.size) = putF c a t := rfl
theorem putTo_step {c : Nat → UInt8} {a p P : Nat} {T : ByteArray} (hap : a ≤ p) (hpe : p < a + T.size) (hP : P = nextP (a + T.size) p) :
    rowSet (putTo c a T p) (p / 64) (storeF (putTo c a T p) (p / 64) (p % 64) (toP (a + T.size) p) (T.extract (p - a) T.size)) = putTo c a T P := by
  subst hP
  have h1 := toP_is hpe
  have h2 := nextP_is hpe
  generalize nextP (a + T.size) p = P at *
  generalize toP (a + T.size) p = t at *
  funext j
  unfold rowSet
  by_cases hj : j / 64 = p / 64
  · rw [if_pos hj]
    unfold storeF
    by_cases hi : p % 64 ≤ j % 64 ∧ j % 64 < t
    · rw [if_pos hi, byteAt_extract, if_pos (by omega)]
      unfold putTo
      rw [if_pos (by omega)]
      congr 1
      omega
    · rw [if_neg hi]
      unfold rowOf
      rw [show 64 * (p / 64) + j % 64 = j by omega]
      unfold putTo
      by_cases hb : a ≤ j ∧ j < p
      · rw [if_pos hb, if_pos (by omega)]
      · rw [if_neg hb, if_neg (by omega)]
  · rw [if_neg hj]
    unfold putTo
    by_cases hb : a ≤ j ∧ j < p
    · rw [if_pos hb, if_pos (by omega)]
    · rw [if_neg hb, if_neg (by omega)]
section
variable {w : World} {g b n : Nat} {c : Nat → UInt8}
/-- What changed the bytes in blocks g and b alone has changed of what was there the map's block alone. -/
def Done (w : World) (g b n : Nat) (c : Nat → UInt8) (r : Int) (e : Ending) (w' : World) : Prop := e = .returned (.int .i64 r) ∧ ChunkAt w' g b n c ∧ But (fun k => k = b) w w'
theorem rangeE_no {n a m : Nat} (h : a + m ≤ n) : rangeE n a m = 0 := by
  unfold rangeE
  rw [if_neg (by omega)]
theorem store_bad (h : ChunkAt w g b n c) {a : Int} (ha : InInt a) {T : ByteArray} (hT : T.size ≤ 1048576) (hr : rangeE n a T.size = 15) : Calls Try.prog 11 #[.pointer (some ⟨g, 0, none⟩), .int .i64 a, .string T] w (Done w g b n c 15) := by
  have h1 := (h.alloc (boxB g)).alloc (boxS T)
  have HB : Hid (But (fun k => k = b) w ((w.alloc (boxB g)).alloc (boxS T))) := ((But.refl _ w).alloc _).alloc _
  have k1 : ((w.alloc (boxB g)).alloc (boxS T)).cell? ⟨w.heap.size, 0, none⟩ = some (.pointer (some ⟨g, 0, none⟩)) := (box_cell (heap_alloc2_old w _ _)).1
  have k2 : ((w.alloc (boxB g)).alloc (boxS T)).cell? ⟨w.heap.size + 1, 0, none⟩ = some (.string T) := (box_cell (heap_alloc2_new w _ _)).1
  have H1 := Lib.hid h1
  have HW := Lib.hid (wrong_at h1 ha (show InInt (T.size : Int) from ⟨by omega, by omega⟩) hr)
  unfold boxB boxS at *
  clear h1 h hr ha
  go_enter Try.func11, Try.ntmps11
  go_wp2_with fail
  refine HW.out.mono ?_
  rintro e w' ⟨rfl, rfl⟩
  go_wp2
  go_ret
  exact ⟨rfl, H1.out, HB.out⟩
theorem store_at (h : ChunkAt w g b n c) {a : Nat} {T : ByteArray} (ham : a + T.size ≤ n) : Calls Try.prog 11 #[.pointer (some ⟨g, 0, none⟩), .int .i64 a, .string T] w (Done w g b n (putF c a T) 0) := by
  have hs := h.small
  have h1 := (h.alloc (boxB g)).alloc (boxS T)
  have B1 : But (fun k => k = b) w ((w.alloc (boxB g)).alloc (boxS T)) := ((But.refl _ w).alloc _).alloc _
  have e1 : ((w.alloc (boxB g)).alloc (boxS T)).heap[w.heap.size]? = some (boxB g) := heap_alloc2_old w _ _
  have e2 : ((w.alloc (boxB g)).alloc (boxS T)).heap[w.heap.size + 1]? = some (boxS T) := heap_alloc2_new w _ _
  have HW := Lib.hid (wrong_at h1 (show InInt (a : Int) from ⟨by omega, by omega⟩) (show InInt (T.size : Int) from ⟨by omega, by omega⟩) (rangeE_no ham))
  have k1 := (box_cell e1).1
  have k2 := (box_cell e2).1
  have HE := Lib.hid (each_row (cap := [.pointer (some ⟨w.heap.size, 0, none⟩), .pointer (some ⟨w.heap.size + 1, 0, none⟩)]) ⟨_, .inr ⟨_, rfl⟩⟩ (enter_any Try.func28 (by kernel_rfl) rfl)
    (fun p X => ChunkAt X g b n (putTo c a T p) ∧ X.heap[w.heap.size]? = some (boxB g) ∧ X.heap[w.heap.size + 1]? = some (boxS (T.extract (p - a) T.size)) ∧ But (fun k => k = b) w X)
    (a := a) (m := T.size) (by omega) (fun p X hp1 hp2 hJ => by
      obtain ⟨j1, j2, j3, j4⟩ := hJ
      have t1 := toP_is hp2
      have t2 := nextP_is hp2
      have hgb := j1.apart j3 (by decide)
      refine (store_one j1 j2 j3 (k := p / 64) (i := p % 64) (t := toP (a + T.size) p) (by omega) t1.1 t1.2.1 (by omega) (by rw [size_extract]; omega)).mono ?_
      rintro e X' ⟨rfl, q1, q2, q3⟩
      refine ⟨rfl, ?_, ?_, ?_, ?_⟩
      · rw [putTo_step hp1 hp2 rfl] at q1
        exact q1
      · refine (q3.block _ (heap_lt j2) ?_).trans j2
        rintro (e | e)
        · exact j1.kind j2 e
        · omega
      · rw [rest_extract _ (by omega)] at q2
        rw [q2, show p - a + (toP (a + T.size) p - p % 64) = nextP (a + T.size) p - a by omega]
      · exact ⟨q3.os.trans j4.os, q3.tape.trans j4.tape, q3.output.trans j4.output, Nat.le_trans j4.size q3.size, fun k hk hkb => by
          have := j4.size
          refine (q3.block k (by omega) ?_).trans (j4.block k hk hkb)
          rintro (e | e)
          · exact hkb e
          · omega⟩) (w := (w.alloc (boxB g)).alloc (boxS T)) (by
      refine ⟨?_, e1, ?_, B1⟩
      · rw [putTo_start]
        exact h1
      · rw [e2, Nat.sub_self, ByteArray.extract_zero_size]))
  unfold boxB boxS at k1 k2 HW HE
  clear h1 B1 e1 e2 h
  go_enter Try.func11, Try.ntmps11
  go_wp2_with fail
  refine HW.out.mono ?_
  rintro e w' ⟨rfl, rfl⟩
  go_wp2_with fail
  refine HE.out.mono ?_
  rintro e w' ⟨rfl, j1, _, _, j4⟩
  go_wp2
  go_ret
  exact ⟨rfl, by rw [putTo_end] at j1; exact j1, j4⟩
end
end Go.Proofs.Ytcfnnchbnlcppaa
