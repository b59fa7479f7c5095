/- Layer 10 (bytes): the walk of BytesHalves. -/
import Derived.Test.YtcfnnchbnlcppaaBytesWorks
import Derived.Test.YtcfnnchbnlcppaaBytesRefs
import Derived.Laws.DeepStrings4
namespace Go.Proofs.Ytcfnnchbnlcppaa
open Go.RowKit Go.Maps

theorem byte_in {a : Int} (h : (Lit.int .u8 a).wf = true) : ∃ k : Nat, a = k ∧ k ≤ 255 := by
  have hmin : IntKind.u8.min = 0 := rfl
  have hmax : IntKind.u8.max = 255 := rfl
  simp only [Lit.wf, Bool.and_eq_true, decide_eq_true_eq] at h
  exact ⟨a.toNat, by omega, by omega⟩
/-- What is stored in two parts. -/
theorem put_parts (c : Nat → UInt8) (a : Nat) (s : ByteArray) {n : Nat} (h : n ≤ s.size) : putF (putF c a (s.extract 0 n)) (a + n) (s.extract n s.size) = putF c a s := by
  funext j
  unfold putF
  rw [size_extract, size_extract, byteAt_extract, byteAt_extract]
  by_cases h1 : a ≤ j ∧ j < a + s.size
  · rw [if_pos h1]
    by_cases h2 : j < a + n
    · rw [if_neg (by omega), if_pos (by omega), if_pos (by omega)]
      congr 1
      omega
    · rw [if_pos (by omega), if_pos (by omega)]
      congr 1
      omega
  · rw [if_neg h1, if_neg (by omega), if_neg (by omega)]
theorem bytes_self (s : ByteArray) : (s == s) = true := by
  rw [beq_toListBytes]
  simp
set_option maxRecDepth 100000 in
set_option maxHeartbeats 4000000 in
theorem halves_any {a k : Int} {s : ByteArray} (ha : (Lit.int .u8 a).wf = true) (hk : (Lit.int .u8 k).wf = true) (w : World) : Calls Try.prog 5 #[.int .u8 a, .string s, .int .u8 k] w (Well w) := by
  obtain ⟨a, rfl, ha⟩ := byte_in ha
  obtain ⟨k, rfl, hk⟩ := byte_in hk
  by_cases h200 : 200 < s.size
  · have d1 : decide ((200 : Int) < (s.size : Int)) = true := decide_eq_true (by omega)
    have d1' : decide (200 < s.size) = true := decide_eq_true h200
    go_enter Try.func5, Try.ntmps5
    go_wp2_with fail
    refine (works_is _).mono ?_
    rintro e w1 ⟨rfl, b1⟩
    go_wp2
    go_ret
    exact ⟨rfl, b1⟩
  · have d1 : decide ((200 : Int) < (s.size : Int)) = false := decide_eq_false (by omega)
    have d1' : decide (200 < s.size) = false := decide_eq_false h200
    go_enter Try.func5, Try.ntmps5
    go_wp2_with fail
    refine (new_in w (n := 512) (by omega) (by omega)).mono ?_
    rintro e w1 ⟨g, b, rfl, h1, hg1, hb1, bel1⟩
    have H1 := Lib.hid h1
    have HG1 := Lib.hid hg1
    have HBb := Lib.hid hb1
    have HB1 := Lib.hid bel1
    clear h1 hg1 hb1 bel1
    go_wp2_with fail
    refine (new_in w1 (n := 512) (by omega) (by omega)).mono ?_
    rintro e w2 ⟨g2, b2, rfl, h2, hg2, hb2, bel2⟩
    have H1a := Lib.hid (H1.out.more bel2)
    have HNE : Hid (g2 ≠ b ∧ b2 ≠ b ∧ g ≠ b2 ∧ b ≠ b2) := by
      have h3 := H1.out.lt
      have : w1.heap.size ≤ b2 := hb2
      exact ⟨by omega, by omega, by omega, by omega⟩
    have H2 := Lib.hid h2
    have HB2 := Lib.hid (step_below HB1.out bel2)
    have HB2b : Hid (w.heap.size ≤ b2) := Nat.le_trans HB1.out.size hb2
    clear h2 hg2 hb2 bel2
    have hwa : IntKind.i64.wrap (a : Int) = a := by rw [IntKind.wrap_i64]; omega
    have hwk : IntKind.i64.wrap (k : Int) = k := by rw [IntKind.wrap_i64]; omega
    have hs2 : s.size ≤ 200 := by omega
    clear ha hk h200
    obtain ⟨n, hN⟩ : ∃ n, min k s.size = n := ⟨_, rfl⟩
    have hmin : (min (k : Int) (s.size : Int)) = (n : Int) := by omega
    have hn : n ≤ s.size := by omega
    clear hN
    obtain ⟨p, hp⟩ : ∃ p, a + n = p := ⟨_, rfl⟩
    have hwn : IntKind.i64.wrap ((a : Int) + (n : Int)) = (p : Int) := by rw [IntKind.wrap_i64]; omega
    have hi0 : (0 : Int) ≤ (n : Int) := by omega
    have hi1 : (n : Int) ≤ (s.size : Int) := by omega
    have hi2 : (0 : Int) ≤ (n : Int) ∧ (n : Int) ≤ (s.size : Int) := ⟨hi0, hi1⟩
    have HT1 : Hid (a + (s.extract 0 n).size ≤ 512) := by show _ ≤ _; rw [size_extract]; omega
    have HT2 : Hid (p + (s.extract n s.size).size ≤ 512) := by show _ ≤ _; rw [size_extract]; omega
    have hpp := put_parts zeroF a s (n := n) (by omega)
    rw [hp] at hpp
    have HPP := Lib.hid hpp
    clear hpp hp
    go_upto_region 5 with fail
    go_region_held3 (fun _ => True) (first | exact trivial)
      (first
        | (go_at_call 11
           with_reducible refine (store_at (w := w2.drew) (g := g) (b := b) (a := a) (T := s.extract 0 n) H1a.out.drew HT1.out).mono ?_
           rintro e w3 ⟨rfl, h3, but3⟩)
        | (go_at_call 11
           with_reducible refine (store_at (g := g) (b := b) (a := p) (T := s.extract n s.size) h3 HT2.out).mono ?_
           rintro e w4 ⟨rfl, h4, but4⟩))
    have HF : Hid (ChunkAt w4 g b 512 (putF zeroF a s)) := by
      show ChunkAt _ _ _ _ _
      rw [← HPP.out]
      exact h4
    have but4' : But (fun k => k = b) w2 w4 := ((But.refl _ w2).drew.trans but3).trans but4
    have H24 := Lib.hid (H2.out.but but4' HNE.out.1 HNE.out.2.1)
    have HB4 : Hid (Below w.heap.size w w4) := HB2.out.trans (but4'.below HB2.out.size fun k hk => by subst hk; exact HBb.out)
    clear h3 but3 h4 but4 but4' hi0 hi1 hi2
    go_wp2_with fail
    refine (store_at H24.out (a := a) (T := s) (by omega)).mono ?_
    rintro e w5 ⟨rfl, h5, but5⟩
    have H25 := Lib.hid h5
    have H15 := Lib.hid (HF.out.but but5 HNE.out.2.2.1 HNE.out.2.2.2)
    have HB5 : Hid (Below w.heap.size w w5) := HB4.out.trans (but5.below HB4.out.size fun k hk => by subst hk; exact HB2b.out)
    clear h5 but5
    generalize putF zeroF a s = F at *
    obtain ⟨X, hX⟩ : ∃ X, ByteArray.mk (bytesL F 0 512).toArray = X := ⟨_, rfl⟩
    have hXs : X.size = 512 := by rw [← hX, size_mk, bytesL_length]
    obtain ⟨r, hr⟩ : ∃ r, cnt F 512 = r := ⟨_, rfl⟩
    have HX := Lib.hid hX
    have HR := Lib.hid hr
    clear hX hr
    go_wp2_with fail
    refine (load_text H15.out (a := 0) (m := 512) (by omega) HX.out).mono ?_
    rintro e w6 ⟨rfl, b6⟩
    have H16 := Lib.hid (H15.out.more b6)
    have H26 := Lib.hid (H25.out.more b6)
    have HB6 := Lib.hid (step_below HB5.out b6)
    clear b6
    go_wp2_with fail
    refine (load_text H26.out (a := 0) (m := 512) (by omega) HX.out).mono ?_
    rintro e w7 ⟨rfl, b7⟩
    have H17 := Lib.hid (H16.out.more b7)
    have H27 := Lib.hid (H26.out.more b7)
    have HB7 := Lib.hid (step_below HB6.out b7)
    clear b7
    go_wp2_with fail
    refine (dirty_at H17.out HR.out).mono ?_
    rintro e w8 ⟨rfl, b8⟩
    have H28 := Lib.hid (H27.out.more b8)
    have HB8 := Lib.hid (step_below HB7.out b8)
    clear b8
    go_wp2_with fail
    refine (dirty_at H28.out HR.out).mono ?_
    rintro e w9 ⟨rfl, b9⟩
    have HB9 := Lib.hid (step_below HB8.out b9)
    clear b9
    go_wp2_with fail
    refine (works_is _).mono ?_
    rintro e w10 ⟨rfl, b10⟩
    go_wp2
    go_ret
    exact ⟨rfl, step_below HB9.out b10⟩
end Go.Proofs.Ytcfnnchbnlcppaa
