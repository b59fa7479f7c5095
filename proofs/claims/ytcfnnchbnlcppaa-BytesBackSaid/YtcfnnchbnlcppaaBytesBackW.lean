/- Layer 10 (bytes): the walk of BytesBack. -/
import Derived.Test.YtcfnnchbnlcppaaBytesWorks
namespace Go.Proofs.Ytcfnnchbnlcppaa
open Go.RowKit Go.Maps

theorem byte_in {a : Int} (h : (Lit.int .u8 a).wf = true) : ∃ k : Nat, a = k ∧ k ≤ 255 := by
  have hmin : IntKind.u8.min = 0 := rfl
  have hmax : IntKind.u8.max = 255 := rfl
  simp only [Lit.wf, Bool.and_eq_true, decide_eq_true_eq] at h
  exact ⟨a.toNat, by omega, by omega⟩
def oneX : ByteArray := ⟨#[120]⟩
theorem oneX_size : oneX.size = 1 := by kernel_rfl
def xsF (i : Nat) : Nat → UInt8 := fun j => if j < i then 120 else 0
theorem xs_start : xsF 0 = zeroF := by
  funext j
  unfold xsF zeroF
  rw [if_neg (by omega)]
theorem xs_next (i : Nat) : putF (xsF i) i oneX = xsF (i + 1) := by
  funext j
  unfold putF xsF
  rw [oneX_size]
  by_cases h : j = i
  · rw [if_pos (by omega), if_pos (by omega), h, Nat.sub_self]
    rfl
  · rw [if_neg (by omega)]
    by_cases h1 : j < i
    · rw [if_pos h1, if_pos (by omega)]
    · rw [if_neg h1, if_neg (by omega)]
theorem put_back {c : Nat → UInt8} {a : Nat} {s : ByteArray} : ByteArray.mk (bytesL (putF c a s) a s.size).toArray = s := by
  refine text_is rfl fun j hj => ?_
  unfold putF
  rw [if_pos (by omega), show a + j - a = j by omega]
theorem one_list (c : Nat → UInt8) (q : Nat) : (ByteArray.mk (bytesL c q 1).toArray).toList = [c q] := by
  rw [ByteArray.toList_eq]
  unfold bytesL
  rfl
theorem wiped (c : Nat → UInt8) (n : Nat) : (cnt (putF c 0 (zeros n)) n == 0) = true := by
  rw [beq_iff_eq, cnt_zero]
  intro j hj
  unfold putF
  rw [zeros_size, if_pos (by omega), byteAt_zeros]
theorem zero_gone (w : World) : Gone (w.alloc (.cells #[.int .i64 0, .map none] 41)) (.pointer (some ⟨w.heap.size, 0, none⟩)) :=
  .inr ⟨_, rfl, World.rowIs_alloc w #[.int .i64 0, .map none] 41 noneF (by
    intro i hi
    match i, hi with
    | 0, _ => rfl
    | 1, _ => rfl)⟩
set_option maxRecDepth 100000 in
set_option maxHeartbeats 4000000 in
theorem back_any {a o : Int} {s : ByteArray} (ha : (Lit.int .u8 a).wf = true) (ho : (Lit.int .u8 o).wf = true) (w : World) : Calls Try.prog 4 #[.int .u8 a, .string s, .int .u8 o] w (Well w) := by
  obtain ⟨a, rfl, ha'⟩ := byte_in ha
  obtain ⟨o, rfl, ho'⟩ := byte_in ho
  by_cases h255 : 255 < s.size
  · have d1 : decide ((255 : Int) < (s.size : Int)) = true := decide_eq_true (by omega)
    have d1' : decide (255 < s.size) = true := decide_eq_true h255
    go_enter Try.func4, Try.ntmps4
    go_wp2_with fail
    refine (works_is _).mono ?_
    rintro e w1 ⟨rfl, b1⟩
    go_wp2
    go_ret
    exact ⟨rfl, b1⟩
  · have d1 : decide ((255 : Int) < (s.size : Int)) = false := decide_eq_false (by omega)
    have d1' : decide (255 < s.size) = false := decide_eq_false h255
    have hs : s.size ≤ 255 := by omega
    have hwa : IntKind.i64.wrap (a : Int) = a := by rw [IntKind.wrap_i64]; omega
    have hwo : IntKind.i64.wrap (o : Int) = o := by rw [IntKind.wrap_i64]; omega
    obtain ⟨q, hq⟩ : ∃ q, 2 * o = q := ⟨_, rfl⟩
    have hq2 : IntKind.i64.wrap (2 * (o : Int)) = (q : Int) := by rw [IntKind.wrap_i64]; omega
    have hq3 : q ≤ 510 := by omega
    obtain ⟨k, hkk⟩ : ∃ k, (q : Int) - (a : Int) = k := ⟨_, rfl⟩
    have hk : IntKind.i64.wrap ((q : Int) - (a : Int)) = k := by rw [IntKind.wrap_i64]; omega
    have HKK := Lib.hid hkk
    clear h255 ha ho hq hkk
    go_enter Try.func4, Try.ntmps4
    go_wp2_with fail
    refine (new_in w (n := 512) (by omega) (by omega)).mono ?_
    rintro e w1 ⟨g, b, rfl, h1, hg1, hb1, bel1⟩
    have H1 := Lib.hid h1
    have HBb := Lib.hid hb1
    have HB1 := Lib.hid bel1
    clear h1 hg1 hb1 bel1
    go_wp2_with fail
    go_loopw [8] (fun iv wr => ∃ i : Nat, i ≤ 512 ∧ iv = .int .i64 i ∧ Hid (ChunkAt wr g b 512 (xsF i)) ∧ Hid (Below w.heap.size w wr)) (fun iv _ => 512 - (RowKit.intOf iv).toNat)
    case atStart => exact ⟨0, by omega, rfl, by show ChunkAt _ _ _ _ _; rw [xs_start]; exact H1.out, HB1⟩
    case round =>
      obtain ⟨i, hi, rfl, HC, HB⟩ := hrel
      by_cases hlt : i < 512
      · have e1 : decide ((i : Int) < 512) = true := decide_eq_true (by omega)
        have e1' : decide (i < 512) = true := decide_eq_true hlt
        go_wp2_with fail
        refine (store_at HC.out (a := i) (T := oneX) (by rw [oneX_size]; omega)).mono ?_
        rintro e w2 ⟨rfl, h2, but2⟩
        have H2 : Hid (ChunkAt w2 g b 512 (xsF (i + 1))) := by
          show ChunkAt _ _ _ _ _
          rw [← xs_next]
          exact h2
        have HB2 : Hid (Below w.heap.size w w2) := HB.out.trans (but2.below HB.out.size fun j hj => by subst hj; exact HBb.out)
        clear h2 but2
        go_wp2_with fail
        go_roundw
        case rel => exact ⟨i + 1, by omega, by simp, H2, HB2⟩
        case measure => simp [RowKit.intOf]; omega
      · obtain rfl : i = 512 := by omega
        have e1 : decide (((512 : Nat) : Int) < 512) = false := by decide
        have HX : Hid (xsF 512 q = 120) := by
          show _ = _
          unfold xsF
          rw [if_pos (by omega)]
        generalize xsF 512 = c0 at *
        go_wp2_with fail
        refine (store_at HC.out (a := a) (T := s) (by omega)).mono ?_
        rintro e w2 ⟨rfl, h2, but2⟩
        have H2 := Lib.hid h2
        have HB2 : Hid (Below w.heap.size w w2) := HB.out.trans (but2.below HB.out.size fun j hj => by subst hj; exact HBb.out)
        clear h2 but2
        go_wp2_with fail
        refine (load_text H2.out (a := a) (m := s.size) (by omega) put_back).mono ?_
        rintro e w3 ⟨rfl, b3⟩
        have H3 := Lib.hid (H2.out.more b3)
        have HB3 := Lib.hid (step_below HB2.out b3)
        clear b3
        have HV : Hid (putF c0 a s q = if 0 ≤ k ∧ k < s.size then byteAt s (q - a) else 120) := by
          show _ = _
          have := HKK.out
          unfold putF
          by_cases h : a ≤ q ∧ q < a + s.size
          · rw [if_pos h, if_pos (by omega)]
          · rw [if_neg h, if_neg (by omega)]
            exact HX.out
        obtain ⟨X, hX⟩ : ∃ X, ByteArray.mk (bytesL (putF c0 a s) q 1).toArray = X := ⟨_, rfl⟩
        have hXl : X.toList = [putF c0 a s q] := by rw [← hX]; exact one_list _ _
        have HXX := Lib.hid hX
        clear hX
        generalize putF c0 a s = c1 at *
        go_wp2_with fail
        refine (load_text H3.out (a := q) (m := 1) (by omega) HXX.out).mono ?_
        rintro e w4 ⟨rfl, b4⟩
        have H4 := Lib.hid (H3.out.more b4)
        have HB4 := Lib.hid (step_below HB3.out b4)
        clear b4
        have HWi := Lib.hid (wipe_at H4.out (a := 0) (m := 512) (by omega))
        have HWd := wiped c1 512
        generalize putF c1 0 (zeros 512) = c2 at *
        by_cases hk0 : k < 0
        · have f1 : decide (k < 0) = true := decide_eq_true hk0
          have hv : c1 q = 120 := by rw [HV.out, if_neg (by omega)]
          rw [hv] at hXl
          clear hv HV hk0
          go_wp2_with fail
          refine HWi.out.mono ?_
          rintro e w5 ⟨rfl, h5, but5⟩
          have H5 := Lib.hid h5
          have HB5 : Hid (Below w.heap.size w w5) := HB4.out.trans (but5.below HB4.out.size fun j hj => by subst hj; exact HBb.out)
          clear h5 but5
          obtain ⟨wz, hz⟩ : ∃ wz, w5.alloc (.cells #[.int .i64 0, .map none] 41) = wz := ⟨_, rfl⟩
          have HZ : Hid (Gone wz (.pointer (some ⟨w5.heap.size, 0, none⟩))) := by rw [← hz]; exact zero_gone w5
          have H6 : Hid (ChunkAt wz g b 512 c2) := by show ChunkAt _ _ _ _ _; rw [← hz]; exact H5.out.alloc _
          have HB6 : Hid (Below w.heap.size w wz) := by show Below _ _ _; rw [← hz]; exact HB5.out.alloc HB5.out.size _
          have HN : Hid (∀ W, Gone W (.pointer none)) := fun W => .inl rfl
          go_wp2_with fail
          refine (load_gone (w := wz) (HN.out _) (a := 0) (m := 0)).mono ?_

          clear hz
          rintro e w7 ⟨rfl, b7⟩
          have H7 := Lib.hid (H6.out.more b7)
          have HZ7 := Lib.hid (HZ.out.below b7)
          have HB7 := Lib.hid (step_below HB6.out b7)
          clear b7
          generalize w5.heap.size = z at *
          go_wp2_with fail
          refine (clean_at H7.out HWd).mono ?_
          rintro e w8 ⟨rfl, rfl⟩
          go_wp2_with fail
          refine (store_gone HZ7.out (a := 0) (T := ⟨#[]⟩)).mono ?_
          rintro e w8 ⟨rfl, b8⟩
          have HZ8 := Lib.hid (HZ7.out.below b8)
          have HB8 := Lib.hid (step_below HB7.out b8)
          clear b8
          go_wp2_with fail
          refine (wipe_gone HZ8.out (a := 0) (m := 0)).mono ?_
          rintro e w9 ⟨rfl, b9⟩
          have HZ9 := Lib.hid (HZ8.out.below b9)
          have HB9 := Lib.hid (step_below HB8.out b9)
          clear b9
          go_wp2_with fail
          refine (clean_gone (HN.out _)).mono ?_
          rintro e wa ⟨rfl, rfl⟩
          go_wp2_with fail
          refine (clean_gone HZ9.out).mono ?_
          rintro e wa ⟨rfl, rfl⟩
          go_wp2_with fail
          refine (dirty_gone (HN.out _)).mono ?_
          rintro e wa ⟨rfl, ba⟩
          have HZa := Lib.hid (HZ9.out.below ba)
          have HBa := Lib.hid (step_below HB9.out ba)
          clear ba
          go_wp2_with fail
          refine (dirty_gone HZa.out).mono ?_
          rintro e wb ⟨rfl, bb⟩
          have HZb := Lib.hid (HZa.out.below bb)
          have HBc := Lib.hid (step_below HBa.out bb)
          clear bb
          go_wp2_with fail
          refine (size_gone (HN.out _)).mono ?_
          rintro e wc ⟨rfl, rfl⟩
          go_wp2_with fail
          refine (size_gone HZb.out).mono ?_
          rintro e wc ⟨rfl, rfl⟩
          go_wp2_with fail
          refine (works_is _).mono ?_
          rintro e wd ⟨rfl, bd⟩
          go_wp2
          go_ret
          exact ⟨rfl, step_below HBc.out bd⟩
        by_cases hk1 : (s.size : Int) ≤ k
        · have f1 : decide (k < 0) = false := decide_eq_false hk0
          have f2 : decide ((s.size : Int) ≤ k) = true := decide_eq_true hk1
          have hv : c1 q = 120 := by rw [HV.out, if_neg (by omega)]
          rw [hv] at hXl
          clear hv HV hk0 hk1
          go_wp2_with fail
          refine HWi.out.mono ?_
          rintro e w5 ⟨rfl, h5, but5⟩
          have H5 := Lib.hid h5
          have HB5 : Hid (Below w.heap.size w w5) := HB4.out.trans (but5.below HB4.out.size fun j hj => by subst hj; exact HBb.out)
          clear h5 but5
          obtain ⟨wz, hz⟩ : ∃ wz, w5.alloc (.cells #[.int .i64 0, .map none] 41) = wz := ⟨_, rfl⟩
          have HZ : Hid (Gone wz (.pointer (some ⟨w5.heap.size, 0, none⟩))) := by rw [← hz]; exact zero_gone w5
          have H6 : Hid (ChunkAt wz g b 512 c2) := by show ChunkAt _ _ _ _ _; rw [← hz]; exact H5.out.alloc _
          have HB6 : Hid (Below w.heap.size w wz) := by show Below _ _ _; rw [← hz]; exact HB5.out.alloc HB5.out.size _
          have HN : Hid (∀ W, Gone W (.pointer none)) := fun W => .inl rfl
          go_wp2_with fail
          refine (load_gone (w := wz) (HN.out _) (a := 0) (m := 0)).mono ?_

          clear hz
          rintro e w7 ⟨rfl, b7⟩
          have H7 := Lib.hid (H6.out.more b7)
          have HZ7 := Lib.hid (HZ.out.below b7)
          have HB7 := Lib.hid (step_below HB6.out b7)
          clear b7
          generalize w5.heap.size = z at *
          go_wp2_with fail
          refine (clean_at H7.out HWd).mono ?_
          rintro e w8 ⟨rfl, rfl⟩
          go_wp2_with fail
          refine (store_gone HZ7.out (a := 0) (T := ⟨#[]⟩)).mono ?_
          rintro e w8 ⟨rfl, b8⟩
          have HZ8 := Lib.hid (HZ7.out.below b8)
          have HB8 := Lib.hid (step_below HB7.out b8)
          clear b8
          go_wp2_with fail
          refine (wipe_gone HZ8.out (a := 0) (m := 0)).mono ?_
          rintro e w9 ⟨rfl, b9⟩
          have HZ9 := Lib.hid (HZ8.out.below b9)
          have HB9 := Lib.hid (step_below HB8.out b9)
          clear b9
          go_wp2_with fail
          refine (clean_gone (HN.out _)).mono ?_
          rintro e wa ⟨rfl, rfl⟩
          go_wp2_with fail
          refine (clean_gone HZ9.out).mono ?_
          rintro e wa ⟨rfl, rfl⟩
          go_wp2_with fail
          refine (dirty_gone (HN.out _)).mono ?_
          rintro e wa ⟨rfl, ba⟩
          have HZa := Lib.hid (HZ9.out.below ba)
          have HBa := Lib.hid (step_below HB9.out ba)
          clear ba
          go_wp2_with fail
          refine (dirty_gone HZa.out).mono ?_
          rintro e wb ⟨rfl, bb⟩
          have HZb := Lib.hid (HZa.out.below bb)
          have HBc := Lib.hid (step_below HBa.out bb)
          clear bb
          go_wp2_with fail
          refine (size_gone (HN.out _)).mono ?_
          rintro e wc ⟨rfl, rfl⟩
          go_wp2_with fail
          refine (size_gone HZb.out).mono ?_
          rintro e wc ⟨rfl, rfl⟩
          go_wp2_with fail
          refine (works_is _).mono ?_
          rintro e wd ⟨rfl, bd⟩
          go_wp2
          go_ret
          exact ⟨rfl, step_below HBc.out bd⟩
        · have f1 : decide (k < 0) = false := decide_eq_false hk0
          have f2 : decide ((s.size : Int) ≤ k) = false := decide_eq_false hk1
          clear HV hk0 hk1 hXl
          go_wp2_with fail
          refine HWi.out.mono ?_
          rintro e w5 ⟨rfl, h5, but5⟩
          have H5 := Lib.hid h5
          have HB5 : Hid (Below w.heap.size w w5) := HB4.out.trans (but5.below HB4.out.size fun j hj => by subst hj; exact HBb.out)
          clear h5 but5
          obtain ⟨wz, hz⟩ : ∃ wz, w5.alloc (.cells #[.int .i64 0, .map none] 41) = wz := ⟨_, rfl⟩
          have HZ : Hid (Gone wz (.pointer (some ⟨w5.heap.size, 0, none⟩))) := by rw [← hz]; exact zero_gone w5
          have H6 : Hid (ChunkAt wz g b 512 c2) := by show ChunkAt _ _ _ _ _; rw [← hz]; exact H5.out.alloc _
          have HB6 : Hid (Below w.heap.size w wz) := by show Below _ _ _; rw [← hz]; exact HB5.out.alloc HB5.out.size _
          have HN : Hid (∀ W, Gone W (.pointer none)) := fun W => .inl rfl
          go_wp2_with fail
          refine (load_gone (w := wz) (HN.out _) (a := 0) (m := 0)).mono ?_

          clear hz
          rintro e w7 ⟨rfl, b7⟩
          have H7 := Lib.hid (H6.out.more b7)
          have HZ7 := Lib.hid (HZ.out.below b7)
          have HB7 := Lib.hid (step_below HB6.out b7)
          clear b7
          generalize w5.heap.size = z at *
          go_wp2_with fail
          refine (clean_at H7.out HWd).mono ?_
          rintro e w8 ⟨rfl, rfl⟩
          go_wp2_with fail
          refine (store_gone HZ7.out (a := 0) (T := ⟨#[]⟩)).mono ?_
          rintro e w8 ⟨rfl, b8⟩
          have HZ8 := Lib.hid (HZ7.out.below b8)
          have HB8 := Lib.hid (step_below HB7.out b8)
          clear b8
          go_wp2_with fail
          refine (wipe_gone HZ8.out (a := 0) (m := 0)).mono ?_
          rintro e w9 ⟨rfl, b9⟩
          have HZ9 := Lib.hid (HZ8.out.below b9)
          have HB9 := Lib.hid (step_below HB8.out b9)
          clear b9
          go_wp2_with fail
          refine (clean_gone (HN.out _)).mono ?_
          rintro e wa ⟨rfl, rfl⟩
          go_wp2_with fail
          refine (clean_gone HZ9.out).mono ?_
          rintro e wa ⟨rfl, rfl⟩
          go_wp2_with fail
          refine (dirty_gone (HN.out _)).mono ?_
          rintro e wa ⟨rfl, ba⟩
          have HZa := Lib.hid (HZ9.out.below ba)
          have HBa := Lib.hid (step_below HB9.out ba)
          clear ba
          go_wp2_with fail
          refine (dirty_gone HZa.out).mono ?_
          rintro e wb ⟨rfl, bb⟩
          have HZb := Lib.hid (HZa.out.below bb)
          have HBc := Lib.hid (step_below HBa.out bb)
          clear bb
          go_wp2_with fail
          refine (size_gone (HN.out _)).mono ?_
          rintro e wc ⟨rfl, rfl⟩
          go_wp2_with fail
          refine (size_gone HZb.out).mono ?_
          rintro e wc ⟨rfl, rfl⟩
          go_wp2_with fail
          refine (works_is _).mono ?_
          rintro e wd ⟨rfl, bd⟩
          go_wp2
          go_ret
          exact ⟨rfl, step_below HBc.out bd⟩
end Go.Proofs.Ytcfnnchbnlcppaa
