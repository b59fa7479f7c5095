/- Layer 10 (bytes): the chapter's example (works), and words for the laws' walks. -/
import Derived.Test.YtcfnnchbnlcppaaBytesRuns
namespace Go.Proofs.Ytcfnnchbnlcppaa
open Go.RowKit Go.Maps

/-- A text whose bytes are c. -/
theorem text_is {s : ByteArray} {c : Nat → UInt8} {a m : Nat} (hs : s.size = m) (h : ∀ j, j < m → byteAt s j = c (a + j)) : ByteArray.mk (bytesL c a m).toArray = s := by
  apply bytes_ext
  · rw [size_mk, bytesL_length, hs]
  · intro j hj
    rw [size_mk, bytesL_length] at hj
    rw [byteAt_mk, bytesL_at hj, h j hj]
    rfl
theorem But.below {S : Nat → Prop} {w w' : World} {B : Nat} (h : But S w w') (hB : B ≤ w.heap.size) (hS : ∀ k, S k → B ≤ k) : Below B w w' :=
  ⟨h.os, h.tape, h.output, h.size, fun k hk => h.block k (by omega) fun hs => by have := hS k hs; omega⟩
def abcd : ByteArray := ⟨#[97, 98, 99, 100]⟩
def exF : Nat → UInt8 := putF zeroF 62 abcd
theorem ex_size : abcd.size = 4 := by kernel_rfl
theorem ex_cnt : cnt exF 128 = 4 := by kernel_rfl
theorem ex_load : (ByteArray.mk (bytesL exF 61 6).toArray).toList = [0, 97, 98, 99, 100, 0] := by
  rw [ByteArray.toList_eq]
  kernel_rfl
def Well (w : World) (e : Ending) (w' : World) : Prop := e = .returned (.bool true) ∧ Below w.heap.size w w'
/-- A Load that gives a text. -/
theorem load_text {w : World} {g b n : Nat} {c : Nat → UInt8} (h : ChunkAt w g b n c) {a m : Nat} (ham : a + m ≤ n) {s : ByteArray} (hs : ByteArray.mk (bytesL c a m).toArray = s) : Calls Try.prog 15 #[.pointer (some ⟨g, 0, none⟩), .int .i64 a, .int .i64 m] w fun e w' => e = .returned (.tuple #[.string s, .int .i64 0]) ∧ Below w.heap.size w w' := by
  rw [← hs]
  exact load_at h ham
set_option maxRecDepth 100000 in
set_option maxHeartbeats 2000000 in
theorem works_is (w : World) : Calls Try.prog 7 #[] w (Well w) := by
  have hload := ex_load
  have hnot := not_any
  obtain ⟨X, hX⟩ : ∃ X, ByteArray.mk (bytesL exF 61 6).toArray = X := ⟨_, rfl⟩
  rw [hX] at hload
  have HX := Lib.hid hX
  clear hX
  go_enter Try.func7, Try.ntmps7
  go_wp2_with fail
  refine (new_in w (n := 128) (by omega) (by omega)).mono ?_
  rintro e w1 ⟨g, b, rfl, h1, hg1, hb1, bel1⟩
  go_wp2_with fail
  refine (store_at h1 (a := 62) (T := abcd) (by rw [ex_size]; omega)).mono ?_
  rintro e w2 ⟨rfl, h2, but2⟩
  have bel2 : Below w.heap.size w w2 := bel1.trans (but2.below bel1.size fun k hk => by subst hk; exact hb1)
  have H2 : Hid (ChunkAt w2 g b 128 exF) := h2
  have HB2 := Lib.hid bel2
  have HBb := Lib.hid hb1
  clear h1 h2 hg1 hb1 bel1 but2 bel2
  go_wp2_with fail
  refine (load_text H2.out (a := 61) (m := 6) (by omega) HX.out).mono ?_
  rintro e w3 ⟨rfl, b3⟩
  have H3 := Lib.hid (H2.out.more b3)
  have HB3 := Lib.hid (step_below HB2.out b3)
  clear b3
  go_wp2_with fail
  refine (dirty_at H3.out ex_cnt).mono ?_
  rintro e w4 ⟨rfl, b4⟩
  have H4 := Lib.hid (H3.out.more b4)
  have HB4 := Lib.hid (step_below HB3.out b4)
  clear b4
  go_wp2_with fail
  refine (clean_at H4.out (r := false) (by rw [ex_cnt]; rfl)).mono ?_
  rintro e w5 ⟨rfl, rfl⟩
  go_wp2_with fail
  refine (store_bad H4.out (a := 125) (T := abcd) ⟨by omega, by omega⟩ (by rw [ex_size]; omega) (by rw [ex_size]; rfl)).mono ?_
  rintro e w6 ⟨rfl, h6, but6⟩
  have H6 := Lib.hid h6
  have HB6 : Hid (Below w.heap.size w w6) := HB4.out.trans (but6.below HB4.out.size fun k hk => by subst hk; exact HBb.out)
  clear h6 but6
  go_wp2_with fail
  refine (size_at H6.out).mono ?_
  rintro e w7 ⟨rfl, rfl⟩
  go_wp2
  go_ret
  exact ⟨rfl, HB6.out⟩
end Go.Proofs.Ytcfnnchbnlcppaa
