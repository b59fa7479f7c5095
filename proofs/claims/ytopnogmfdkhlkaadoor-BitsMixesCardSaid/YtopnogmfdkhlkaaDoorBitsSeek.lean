/- What seek, Next, First, Last, gap, Run of package bits return: contracts. -/
import Derived.Test.YtopnogmfdkhlkaaDoorBitsPut
import Derived.Test.YtopnogmfdkhlkaaDoorShelf
namespace Go.Proofs.YtopnogmfdkhlkaaDoor
open Go.RowKit

theorem tz_any {x : Nat} (hx : x < 18446744073709551616) (w : World) (hT : TabOk w) : Calls Tryd.prog 35 #[.int .u64 x] w fun e w' => e = .returned (.int .i64 (Lib.ctz 64 x)) ∧ w = w' :=
  (Any7.bits_TrailingZeros64 Tryd.lays7n29 x hx w fun _ => hT).mono fun _ _ ⟨he, hw⟩ => ⟨he, hw.symm⟩
theorem len_any {x : Nat} (hx : x < 18446744073709551616) (w : World) : Calls Tryd.prog 36 #[.int .u64 x] w fun e w' => e = .returned (.int .i64 (Lib.bitLen x)) ∧ w = w' :=
  (Tryd.bits_Len64 x w (by omega) (by omega)).mono fun _ _ ⟨he, hw⟩ => ⟨he, hw.symm⟩

/-- The k-th round's word: the first one is shifted. -/
theorem seek_any {w : World} {A : Option Addr} {n c p flip : Nat} {f h : Nat → Bool} (hw : WordsAt w A n f) (hT : TabOk w) (hfl : flip < 18446744073709551616) (hx : ∀ k, k < n → word f k ^^^ flip = word h k) (hn : n ≤ 16384) (hp : p ≤ 2097152) :
    Calls Tryd.prog 37 #[.slice A n c, .int .i64 p, .int .u64 flip] w fun e w' => e = .returned (.int .i64 (seekV h (64 * n) p)) ∧ w = w' := by
  have HX := Lib.hid hx
  have HW := Lib.hid hw
  have HT := Lib.hid hT
  clear hx hw hT
  go_enter Tryd.func37, Tryd.ntmps37
  go_wp2
  go_loop [7, 18] (fun s i => ∃ k z : Nat, (k : Int) ≤ max 0 ((n : Int) - (p : Int) / 64) ∧ i = .int .i64 k ∧ s = .int .i64 z ∧ z < 64 ∧ Hid (word h (p / 64 + k) / 2 ^ z * 2 ^ z = word (fromF h p) (p / 64 + k)) ∧ Hid (∀ j, p ≤ j → j < 64 * (p / 64 + k) → h j = false)) (fun _ i => n - (intOf i).toNat)
  case atStart => exact ⟨0, p % 64, by omega, rfl, by simp, by omega, word_skip h p, fun j h1 h2 => by omega⟩
  case round =>
    obtain ⟨k, z, hk, rfl, rfl, hz, hs, hh⟩ := hrel
    by_cases hlt : (k : Int) < (n : Int) - (p : Int) / 64
    · have hat : p / 64 + k < n := by omega
      obtain ⟨b, rfl, hb⟩ := HW.out.at_ hat
      have hc := hb.cell hat
      have hi : 0 ≤ (p : Int) / 64 + (k : Int) ∧ (p : Int) / 64 + (k : Int) < (n : Int) := by omega
      have hto : ((p : Int) / 64 + (k : Int)).toNat = p / 64 + k := by omega
      have hxx := (u64_xor_nat (word f (p / 64 + k)) flip (word_lt _ _) hfl).trans (by rw [HX.out _ hat])
      have hsh : IntKind.u64.wrap ((word h (p / 64 + k) : Int) / 2 ^ z * 2 ^ z) = ((word (fromF h p) (p / 64 + k) : Nat) : Int) := by
        have e1 : ((word h (p / 64 + k) : Int) / 2 ^ z * 2 ^ z) = ((word h (p / 64 + k) / 2 ^ z * 2 ^ z : Nat) : Int) := by simp
        have e2 := word_lt (fromF h p) (p / 64 + k)
        rw [e1, hs.out, IntKind.wrap_u64]
        omega
      clear hb hs
      by_cases hz0 : word (fromF h p) (p / 64 + k) = 0
      · have hbb : ((word (fromF h p) (p / 64 + k) : Int) != 0) = false := by simp [hz0]
        have HZ := Lib.hid hz0
        clear hz0
        go_wp2
        go_round
        case rel =>
          refine ⟨k + 1, 0, by omega, by go_num, rfl, by omega, ?_, fun j h1 h2 => ?_⟩
          · show _ = _
            rw [word_from h (by omega : p / 64 < p / 64 + (k + 1))]
            simp
          · by_cases hj : j < 64 * (p / 64 + k)
            · exact hh.out j h1 hj
            · have := word_zero_iff.1 HZ.out (j - 64 * (p / 64 + k)) (by omega)
              rw [show 64 * (p / 64 + k) + (j - 64 * (p / 64 + k)) = j by omega] at this
              unfold fromF at this
              simpa [h1] using this
        case measure => simp [intOf]; omega
      · have hbb : ((word (fromF h p) (p / 64 + k) : Int) != 0) = true := by simp [hz0]
        obtain ⟨l1, l2, l3⟩ := low_spec hz0
        have L1 := Lib.hid l1
        have L3 := Lib.hid l3
        clear hz0 l1 l3
        go_wp2_with (go_at_call 35; refine (tz_any (word_lt _ _) _ HT.out).mono ?_; rintro e w' ⟨rfl, rfl⟩)
        go_ret
        refine ⟨ret_int ?_, rfl⟩
        have l1 := L1.out
        unfold fromF at l1
        simp only [Bool.and_eq_true, decide_eq_true_eq] at l1
        rw [seekV_some (i := 64 * (p / 64 + k) + Lib.ctz 64 (word (fromF h p) (p / 64 + k))) (by omega) l1.2 l1.1 fun j h1 h2 => ?_]
        · omega
        · by_cases hj : j < 64 * (p / 64 + k)
          · exact hh.out j h1 hj
          · have := L3.out j (by omega) h2
            unfold fromF at this
            simpa [h1] using this
    · go_wp2
      go_ret
      refine ⟨ret_int (seekV_none fun j h1 h2 => hh.out j h1 (by omega)).symm, rfl⟩
theorem seek_none (w : World) : Calls Tryd.prog 37 #[.slice none 0 0, .int .i64 0, .int .u64 0] w fun e w' => e = .returned (.int .i64 (-1)) ∧ w = w' := by
  go_enter Tryd.func37, Tryd.ntmps37
  go_wp2
  refine wp_loop_rounds 1 ?_; rw [rounds_succ]
  go_wp2
  go_ret
  exact ⟨rfl, rfl⟩
theorem next_any {w : World} {g : Nat} {A : Option Addr} {size : Nat} {f : Nat → Bool} (h : SetAt w g A size f) (hT : TabOk w) (i : Int) (hi : -9223372036854775808 ≤ i) :
    Calls Tryd.prog 21 #[.pointer (some ⟨g, 0, none⟩), .int .i64 i] w fun e w' => e = .returned (.int .i64 (nextV f size i)) ∧ w = w' := by
  have hs := h.small
  by_cases hlt : (size : Int) ≤ i
  · have HN : Hid (nextV f size i = -1) := seekV_none fun j h1 h2 => by omega
    go_enter Tryd.func21, Tryd.ntmps21
    go_wp2_with (go_at_call 13; refine (size_any h).mono ?_; rintro e w' ⟨rfl, rfl⟩)
    go_ret
    exact ⟨ret_int HN.out.symm, rfl⟩
  · have HM : Hid (max (i + 1) 0 = ((i + 1).toNat : Int)) := by show _ = _; omega
    have HS : Hid (seekV f (64 * nw size) (i + 1).toNat = nextV f size i) := seekV_more h.out (nw_more _)
    go_enter Tryd.func21, Tryd.ntmps21
    go_wp2_with (first
      | (go_at_call 13; refine (size_any h).mono ?_; rintro e w' ⟨rfl, rfl⟩)
      | (go_at_call 34; refine (row_any h).mono ?_; rintro e w' ⟨rfl, rfl⟩)
      | (go_at_call 37; rw [HM.out]; refine (seek_any (flip := 0) h.body hT (by omega) (fun k _ => word_xor0 f k) (nw_le hs) (by omega)).mono ?_; rintro e w' ⟨rfl, rfl⟩))
    go_ret
    exact ⟨ret_int HS.out, rfl⟩
theorem next_nil (i : Int) (w : World) (hi : -9223372036854775808 ≤ i) : Calls Tryd.prog 21 #[.pointer none, .int .i64 i] w fun e w' => e = .returned (.int .i64 (-1)) ∧ w = w' := by
  by_cases hlt : 0 ≤ i
  · go_enter Tryd.func21, Tryd.ntmps21
    go_wp2_with (go_at_call 13; refine (size_nil _).mono ?_; rintro e w' ⟨rfl, rfl⟩)
    go_ret
    exact ⟨rfl, rfl⟩
  · have hmax : max (i + 1) 0 = 0 := by omega
    go_enter Tryd.func21, Tryd.ntmps21
    go_wp2_with (first
      | (go_at_call 13; refine (size_nil _).mono ?_; rintro e w' ⟨rfl, rfl⟩)
      | (go_at_call 34; refine (row_nil _).mono ?_; rintro e w' ⟨rfl, rfl⟩)
      | (go_at_call 37; refine (seek_none _).mono ?_; rintro e w' ⟨rfl, rfl⟩))
    go_ret
    exact ⟨rfl, rfl⟩
theorem first_any {w : World} {g : Nat} {A : Option Addr} {size : Nat} {f : Nat → Bool} (h : SetAt w g A size f) (hT : TabOk w) :
    Calls Tryd.prog 17 #[.pointer (some ⟨g, 0, none⟩)] w fun e w' => e = .returned (.int .i64 (nextV f size (-1))) ∧ w = w' := by
  go_enter Tryd.func17, Tryd.ntmps17
  go_wp2_with (go_at_call 21; refine (next_any h hT _ (by omega)).mono ?_; rintro e w' ⟨rfl, rfl⟩)
  go_ret
  exact ⟨rfl, rfl⟩
theorem first_nil (w : World) : Calls Tryd.prog 17 #[.pointer none] w fun e w' => e = .returned (.int .i64 (-1)) ∧ w = w' := by
  go_enter Tryd.func17, Tryd.ntmps17
  go_wp2_with (go_at_call 21; refine (next_nil _ _ (by omega)).mono ?_; rintro e w' ⟨rfl, rfl⟩)
  go_ret
  exact ⟨rfl, rfl⟩
theorem gap_any {w : World} {g : Nat} {A : Option Addr} {size p : Nat} {f : Nat → Bool} (h : SetAt w g A size f) (hT : TabOk w) (hp : p ≤ size) :
    Calls Tryd.prog 38 #[.pointer (some ⟨g, 0, none⟩), .int .i64 p] w fun e w' => e = .returned (.int .i64 (gapV f size p)) ∧ w = w' := by
  have hs := h.small
  obtain ⟨d, hd⟩ := h.head
  have h0 : w.cell? ⟨g, 0, none⟩ = some (.int .i64 size) := hd.cell (i := 0) (by omega)
  have h1 : w.cell? ⟨g, 1, none⟩ = some (.slice A (nw size) (nw size)) := hd.cell (i := 1) (by omega)
  clear hd
  have HE := Lib.hid (gapV_eq h.out hp (nw_more size))
  have hr := seekV_range (notF f) (64 * nw size) p
  have hn := nw_le hs
  by_cases hlt : seekV (notF f) (64 * nw size) p < 0
  · have HE' : Hid (gapV f size p = size) := by have := HE.out; rw [if_pos hlt] at this; show _ = _; omega
    go_enter Tryd.func38, Tryd.ntmps38
    go_wp2_with (go_at_call 37; refine (seek_any (h := notF f) (flip := 18446744073709551615) h.body hT (by omega) (fun k _ => word_not f k) hn (by omega)).mono ?_; rintro e w' ⟨rfl, rfl⟩)
    go_ret
    exact ⟨ret_int (by rw [HE'.out]), rfl⟩
  · have HE' : Hid (seekV (notF f) (64 * nw size) p = gapV f size p) := by have := HE.out; rw [if_neg hlt] at this; exact this
    go_enter Tryd.func38, Tryd.ntmps38
    go_wp2_with (go_at_call 37; refine (seek_any (h := notF f) (flip := 18446744073709551615) h.body hT (by omega) (fun k _ => word_not f k) hn (by omega)).mono ?_; rintro e w' ⟨rfl, rfl⟩)
    go_ret
    exact ⟨ret_int HE'.out, rfl⟩

/-! ### Run -/
def runM (size : Nat) (v : Value) : Nat := if intOf v < 0 then 0 else size + 1 - (intOf v).toNat
theorem runM_neg (size : Nat) {v : Int} (h : v < 0) : runM size (.int .i64 v) = 0 := if_pos h
theorem runM_nat (size i : Nat) : runM size (.int .i64 i) = size + 1 - i := if_neg (show ¬ ((i : Int) < 0) by omega)
theorem run_any {w : World} {g : Nat} {A : Option Addr} {size : Nat} {f : Nat → Bool} (h : SetAt w g A size f) (hT : TabOk w) (n : Int) (hn : n ≤ 9223372036854775807) :
    Calls Tryd.prog 22 #[.pointer (some ⟨g, 0, none⟩), .int .i64 n] w fun e w' => e = .returned (.int .i64 (runV f size n)) ∧ w = w' := by
  have hs := h.small
  by_cases h1 : n < 1
  · have HE : Hid (runV f size n = -1) := if_pos h1
    go_enter Tryd.func22, Tryd.ntmps22
    go_wp2
    go_ret
    exact ⟨ret_int HE.out.symm, rfl⟩
  · have HE : Hid (runV f size n = seekV (fun i => allF f i n.toNat) size 0) := if_neg h1
    have HO := Lib.hid h.out
    have HT := Lib.hid hT
    clear hT
    go_enter Tryd.func22, Tryd.ntmps22
    go_wp2_with (go_at_call 17; refine (first_any h HT.out).mono ?_; rintro e w' ⟨rfl, rfl⟩)
    go_loop [5] (fun i => ∃ p : Nat, p ≤ size + 1 ∧ i = .int .i64 (seekV f size p) ∧ Hid (∀ j, j < p → allF f j n.toNat = false)) (fun i => runM size i)
    case atStart => exact ⟨0, by omega, rfl, fun j hj => by omega⟩
    case round =>
      obtain ⟨p, hp, rfl, hh⟩ := hrel
      rcases seekV_cases f size p with ⟨i, e, a1, a2, a3, a4⟩ | ⟨e, a1⟩
      · obtain ⟨g1, g2, g3, g4⟩ := gapV_spec h.out (Nat.le_of_lt a1)
        have A3 := Lib.hid a3
        have A4 := Lib.hid a4
        have G3 := Lib.hid g3
        have G4 := Lib.hid g4
        rw [e]
        clear a3 a4 g3 g4 e
        by_cases hge : n ≤ (gapV f size i : Int) - (i : Int)
        · go_wp2_with (go_at_call 38; refine (gap_any h HT.out (Nat.le_of_lt a1)).mono ?_; rintro e w' ⟨rfl, rfl⟩)
          go_ret
          refine ⟨ret_int ?_, rfl⟩
          rw [HE.out]
          refine (seekV_some (f := fun i => allF f i n.toNat) a1 (by omega) (allF_iff.2 fun j j1 j2 => G4.out j j1 (by omega)) fun j _ j2 => ?_).symm
          by_cases hj : j < p
          · exact hh.out j hj
          · exact allF_no (j := j) (by omega) (by omega) (A4.out j (by omega) j2)
        · go_wp2_with (first
            | (go_at_call 38; refine (gap_any h HT.out (Nat.le_of_lt a1)).mono ?_; rintro e w' ⟨rfl, rfl⟩)
            | (go_at_call 21; refine (next_any h HT.out _ (by omega)).mono ?_; rintro e w' ⟨rfl, rfl⟩))
          go_round
          case rel =>
            refine ⟨gapV f size i + 1, by omega, by unfold nextV; congr 2, fun j hj => ?_⟩
            by_cases hj1 : j < p
            · exact hh.out j hj1
            · by_cases hj2 : j < i
              · exact allF_no (j := j) (by omega) (by omega) (A4.out j (by omega) hj2)
              · exact allF_no (j := gapV f size i) (by omega) (by omega) G3.out
          case measure =>
            rcases seekV_cases f size ((gapV f size i : Int) + 1).toNat with ⟨i', e', b1, b2, _⟩ | ⟨e', _⟩
            · rw [show nextV f size (gapV f size i) = (i' : Int) from e']
              show runM size (.int .i64 _) < runM size (.int .i64 _)
              rw [runM_nat, runM_nat]
              omega
            · rw [show nextV f size (gapV f size i) = -1 from e']
              show runM size (.int .i64 _) < runM size (.int .i64 _)
              rw [runM_neg size (by omega), runM_nat]
              omega
      · have A1 := Lib.hid a1
        rw [e]
        clear a1 e
        go_wp2
        go_ret
        refine ⟨ret_int ?_, rfl⟩
        rw [HE.out]
        refine (seekV_none (f := fun i => allF f i n.toNat) fun j _ j2 => ?_).symm
        by_cases hj : j < p
        · exact hh.out j hj
        · exact allF_no (j := j) (by omega) (by omega) (A1.out j (by omega) j2)
theorem run_nil (n : Int) (w : World) : Calls Tryd.prog 22 #[.pointer none, .int .i64 n] w fun e w' => e = .returned (.int .i64 (-1)) ∧ w = w' := by
  by_cases h1 : n < 1
  · go_enter Tryd.func22, Tryd.ntmps22
    go_wp2
    go_ret
    exact ⟨rfl, rfl⟩
  · go_enter Tryd.func22, Tryd.ntmps22
    go_wp2_with (go_at_call 17; refine (first_nil _).mono ?_; rintro e w' ⟨rfl, rfl⟩)
    refine wp_loop_rounds 1 ?_; rw [rounds_succ]
    go_wp2
    go_ret
    exact ⟨rfl, rfl⟩

/-! ### Last -/
theorem last_any {w : World} {g : Nat} {A : Option Addr} {size : Nat} {f : Nat → Bool} (h : SetAt w g A size f) :
    Calls Tryd.prog 19 #[.pointer (some ⟨g, 0, none⟩)] w fun e w' => e = .returned (.int .i64 (lastV f size)) ∧ w = w' := by
  have hs := h.small
  have hn := nw_le hs
  have HW := Lib.hid h.body
  have HE : Hid (lastV f (64 * nw size) = lastV f size) := lastV_more h.out (nw_more size)
  have HO : Hid (∀ j, 64 * nw size ≤ j → f j = false) := fun j hj => h.out j (Nat.le_trans (nw_more size) hj)
  go_enter Tryd.func19, Tryd.ntmps19
  go_wp2_with (go_at_call 34; refine (row_any h).mono ?_; rintro e w' ⟨rfl, rfl⟩)
  clear h
  generalize nw size = n at hn HW HE HO ⊢
  go_loop [10] (fun i => ∃ k : Nat, k ≤ n ∧ i = .int .i64 k ∧ Hid (∀ j, 64 * (n - k) ≤ j → f j = false)) (fun i => n - (intOf i).toNat)
  case atStart => exact ⟨0, by omega, rfl, fun j h1 => HO.out j (by omega)⟩
  case round =>
    obtain ⟨k, hk, rfl, hh⟩ := hrel
    by_cases hlt : k < n
    · have hat : n - 1 - k < n := by omega
      obtain ⟨b, rfl, hb⟩ := HW.out.at_ hat
      have hc := hb.cell hat
      have hi : 0 ≤ (n : Int) - 1 - (k : Int) ∧ (n : Int) - 1 - (k : Int) < (n : Int) := by omega
      have hto : ((n : Int) - 1 - (k : Int)).toNat = n - 1 - k := by omega
      clear hb
      by_cases hz0 : word f (n - 1 - k) = 0
      · have hbb : ((word f (n - 1 - k) : Int) != 0) = false := by simp [hz0]
        have HZ := Lib.hid hz0
        clear hz0
        go_wp2
        go_round
        case rel =>
          refine ⟨k + 1, by omega, by go_num, fun j h1 => ?_⟩
          by_cases hj : 64 * (n - k) ≤ j
          · exact hh.out j hj
          · have := word_zero_iff.1 HZ.out (j - 64 * (n - 1 - k)) (by omega)
            rwa [show 64 * (n - 1 - k) + (j - 64 * (n - 1 - k)) = j by omega] at this
        case measure => simp [intOf]; omega
      · have hbb : ((word f (n - 1 - k) : Int) != 0) = true := by simp [hz0]
        obtain ⟨l0, l1, l2, l3⟩ := high_spec hz0
        have L2 := Lib.hid l2
        have L3 := Lib.hid l3
        clear hz0 l2 l3
        go_wp2_with (go_at_call 36; refine (len_any (word_lt _ _) _).mono ?_; rintro e w' ⟨rfl, rfl⟩)
        go_ret
        refine ⟨ret_int ?_, rfl⟩
        rw [← HE.out, lastV_some (i := 64 * (n - 1 - k) + Lib.bitLen (word f (n - 1 - k)) - 1) (by omega) L2.out fun j h1 h2 => ?_]
        · omega
        · by_cases hj : 64 * (n - k) ≤ j
          · exact hh.out j hj
          · exact L3.out j (by omega) (by omega)
    · go_wp2
      go_ret
      exact ⟨ret_int (by rw [← HE.out]; exact (lastV_none fun j h1 => hh.out j (by omega)).symm), rfl⟩
theorem last_nil (w : World) : Calls Tryd.prog 19 #[.pointer none] w fun e w' => e = .returned (.int .i64 (-1)) ∧ w = w' := by
  go_enter Tryd.func19, Tryd.ntmps19
  go_wp2_with (go_at_call 34; refine (row_nil _).mono ?_; rintro e w' ⟨rfl, rfl⟩)
  refine wp_loop_rounds 1 ?_; rw [rounds_succ]
  go_wp2
  go_ret
  exact ⟨rfl, rfl⟩
end Go.Proofs.YtopnogmfdkhlkaaDoor
