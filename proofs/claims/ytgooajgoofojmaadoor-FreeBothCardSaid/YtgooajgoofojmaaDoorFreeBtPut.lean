/- What New, Size, Has, Put, Drop and the small functions of package bits return, and how a set lies in memory behind them: contracts. -/
import Derived.Test.YtgooajgoofojmaaDoorFreeBtMem
import Derived.StillTailTactics
namespace Go.Proofs.YtgooajgoofojmaaDoor
open Go.RowKit
theorem bnew_no (n : Int) (w : World) (h : n < 0 ∨ 1048576 < n) : Calls Tryd.prog 23 #[.int .i64 n] w fun e w' => e = .returned (.pointer none) ∧ w = w' := by
  rcases h with h | h
  · go_enter Tryd.func23, Tryd.ntmps23
    go_wp2
    go_ret
    exact ⟨rfl, rfl⟩
  · have h0 : ¬ n < 0 := by omega
    go_enter Tryd.func23, Tryd.ntmps23
    go_wp2
    go_ret
    exact ⟨rfl, rfl⟩

theorem size_any {w : World} {g : Nat} {A : Option Addr} {size : Nat} {f : Nat → Bool} (h : SetAt w g A size f) : Calls Tryd.prog 43 #[.pointer (some ⟨g, 0, none⟩)] w fun e w' => e = .returned (.int .i64 size) ∧ w = w' := by
  obtain ⟨d, hd⟩ := h.head
  have h0 : w.cell? ⟨g, 0, none⟩ = some (.int .i64 size) := hd.cell (i := 0) (by omega)
  clear hd h
  go_enter Tryd.func43, Tryd.ntmps43
  go_wp2
  go_ret
  exact ⟨rfl, rfl⟩
theorem size_nil (w : World) : Calls Tryd.prog 43 #[.pointer none] w fun e w' => e = .returned (.int .i64 0) ∧ w = w' := by
  go_enter Tryd.func43, Tryd.ntmps43
  go_wp2
  go_ret
  exact ⟨rfl, rfl⟩
theorem pow_lt64 (i : Nat) : 2 ^ (i % 64) < 18446744073709551616 := Nat.pow_lt_pow_right (m := i % 64) (n := 64) (by omega) (Nat.mod_lt _ (by omega))
def bitN (i : Nat) : Nat := 2 ^ (i % 64)
theorem bitN_lt (i : Nat) : bitN i < 18446744073709551616 := pow_lt64 i
theorem bit_any (i : Nat) (w : World) (h1 : i ≤ 1048576) : Calls Tryd.prog 37 #[.int .i64 i] w fun e w' => e = .returned (.int .u64 (bitN i)) ∧ w = w' := by
  have h0 : 0 ≤ (i : Int) := by omega
  go_enter Tryd.func37, Tryd.ntmps37
  go_wp2
  go_ret
  refine ⟨ret_int ?_, rfl⟩
  have hp := pow_lt64 i
  have e : ((2 : Int) ^ (i % 64)) = ((2 ^ (i % 64) : Nat) : Int) := by simp
  rw [e, IntKind.wrap_u64]
  show _ = ((2 ^ (i % 64) : Nat) : Int)
  generalize 2 ^ (i % 64) = p at hp ⊢
  omega
theorem may_yes {w : World} {g : Nat} {A : Option Addr} {size : Nat} {f : Nat → Bool} (h : SetAt w g A size f) {i : Int} (h0 : 0 ≤ i) (h1 : i < size) : Calls Tryd.prog 36 #[.pointer (some ⟨g, 0, none⟩), .int .i64 i] w fun e w' => e = .returned (.bool true) ∧ w = w' := by
  go_enter Tryd.func36, Tryd.ntmps36
  go_wp2_with (go_at_call 43; refine (size_any h).mono ?_; rintro e w' ⟨rfl, rfl⟩)
  go_ret
  exact ⟨rfl, rfl⟩
theorem may_no {w : World} {g : Nat} {A : Option Addr} {size : Nat} {f : Nat → Bool} (h : SetAt w g A size f) {i : Int} (h1 : ¬ (0 ≤ i ∧ i < size)) : Calls Tryd.prog 36 #[.pointer (some ⟨g, 0, none⟩), .int .i64 i] w fun e w' => e = .returned (.bool false) ∧ w = w' := by
  by_cases h0 : 0 ≤ i
  · have h2 : ¬ i < size := by omega
    clear h1
    go_enter Tryd.func36, Tryd.ntmps36
    go_wp2_with (go_at_call 43; refine (size_any h).mono ?_; rintro e w' ⟨rfl, rfl⟩)
    go_ret
    exact ⟨ret_bool (by simpa using h2), rfl⟩
  · clear h1
    go_enter Tryd.func36, Tryd.ntmps36
    go_wp2
    go_ret
    exact ⟨rfl, rfl⟩
theorem bmay_nil (i : Int) (w : World) : Calls Tryd.prog 36 #[.pointer none, .int .i64 i] w fun e w' => e = .returned (.bool false) ∧ w = w' := by
  by_cases h0 : 0 ≤ i
  · go_enter Tryd.func36, Tryd.ntmps36
    go_wp2_with (go_at_call 43; refine (size_nil _).mono ?_; rintro e w' ⟨rfl, rfl⟩)
    go_ret
    exact ⟨ret_bool (by simp; omega), rfl⟩
  · go_enter Tryd.func36, Tryd.ntmps36
    go_wp2
    go_ret
    exact ⟨rfl, rfl⟩

/-! ### Has -/
theorem has_in {w : World} {g : Nat} {A : Option Addr} {size : Nat} {f : Nat → Bool} (h : SetAt w g A size f) {i : Nat} (h1 : i < size) : Calls Tryd.prog 24 #[.pointer (some ⟨g, 0, none⟩), .int .i64 i] w fun e w' => e = .returned (.bool (f i)) ∧ ∃ n, w' = w.drewN n := by
  obtain ⟨d, hd⟩ := h.head
  have hs := h.small
  have hlt := div_lt_nw h1
  obtain ⟨b, rfl, hb⟩ := h.body.at_ hlt
  have hw0 : w.cell? ⟨g, 1, none⟩ = some (.slice (some ⟨b, 0, none⟩) (nw size) (nw size)) := hd.cell (i := 1) (by omega)
  have hw1 : w.cell? ⟨b, i / 64, none⟩ = some (.int .u64 (word f (i / 64))) := hb.cell hlt
  have hi0 : 0 ≤ (i : Int) / 64 ∧ (i : Int) / 64 < (nw size : Int) := by omega
  clear hd hb
  go_enter Tryd.func24, Tryd.ntmps24
  go_wp2
  go_quiet (first
    | (go_at_call 36; exact quiet_eq (may_yes (h.drewN _) (by omega) (by omega)))
    | (go_at_call 37; exact quiet_eq (bit_any _ _ (by omega))))
  go_wp2
  go_ret
  refine ⟨ret_bool ?_, nq, rfl⟩
  rw [u64_and_nat _ _ (word_lt _ _) (bitN_lt _), Bool.eq_iff_iff, ← word_has f i]
  simp [bitN]
theorem has_out {w : World} {g : Nat} {A : Option Addr} {size : Nat} {f : Nat → Bool} (h : SetAt w g A size f) {i : Int} (h1 : ¬ (0 ≤ i ∧ i < size)) : Calls Tryd.prog 24 #[.pointer (some ⟨g, 0, none⟩), .int .i64 i] w fun e w' => e = .returned (.bool false) ∧ ∃ n, w' = w.drewN n := by
  have H := Lib.hid h1
  clear h1
  go_enter Tryd.func24, Tryd.ntmps24
  go_wp2
  go_quiet ((go_at_call 36; exact quiet_eq (may_no (h.drewN _) H.out)))
  go_wp2
  go_ret
  exact ⟨rfl, nq, rfl⟩
theorem has_nil (i : Int) (w : World) : Calls Tryd.prog 24 #[.pointer none, .int .i64 i] w fun e w' => e = .returned (.bool false) ∧ ∃ n, w' = w.drewN n := by
  go_enter Tryd.func24, Tryd.ntmps24
  go_wp2
  go_quiet ((go_at_call 36; exact quiet_eq (bmay_nil _ _)))
  go_wp2
  go_ret
  exact ⟨rfl, nq, rfl⟩

/-! ### Put, Drop -/
theorem put_yes {w : World} {g : Nat} {A : Option Addr} {size : Nat} {f : Nat → Bool} (h : SetAt w g A size f) {i : Nat} (h1 : i < size) (h2 : f i = false) : Calls Tryd.prog 31 #[.pointer (some ⟨g, 0, none⟩), .int .i64 i] w fun e w' => e = .returned (.bool true) ∧ SetAt w' g A size (upd f i true) ∧ w.grownBy w' (rowOf A) := by
  obtain ⟨d, hd⟩ := h.head
  have hs := h.small
  have hlt := div_lt_nw h1
  obtain ⟨b, rfl, hb⟩ := h.body.at_ hlt
  have hgb : g ≠ b := row_type hd hb (by decide)
  have hw0 : w.cell? ⟨g, 1, none⟩ = some (.slice (some ⟨b, 0, none⟩) (nw size) (nw size)) := hd.cell (i := 1) (by omega)
  have hw1 : w.cell? ⟨b, i / 64, none⟩ = some (.int .u64 (word f (i / 64))) := hb.cell hlt
  have hf1 : w.frozen? ⟨b, i / 64, none⟩ = false := hb.frozen _
  have hi0 : 0 ≤ (i : Int) / 64 ∧ (i : Int) / 64 < (nw size : Int) := by omega
  have hor := u64_or_nat (word f (i / 64)) (bitN i) (word_lt _ _) (bitN_lt _)
  have H2 := Lib.hid h2
  clear h2
  have HD := Lib.hid hd
  have HB := Lib.hid hb
  clear hd hb
  go_enter Tryd.func31, Tryd.ntmps31
  go_wp2_with (first
    | (go_at_call 36; refine (may_yes h (by omega) (by omega)).mono ?_; rintro e w' ⟨rfl, rfl⟩)
    | (go_at_call 24; refine (has_in h h1).mono ?_; rintro e w' ⟨rfl, nq, rfl⟩; rw [H2.out]))
  have hwr : IntKind.i64.wrap ((i : Int) / 64) = (i : Int) / 64 := IntWalk.i64_in _ (by omega)
  have hto : ((i : Int) / 64).toNat = i / 64 := by omega
  refine wp_region_still_tail 12 (by kernel_rfl) (by kernel_rfl) ?_
  simp only [List.take_succ_cons, List.take_zero, List.drop_succ_cons, List.drop_zero]
  change wpStill _ _ (w.drewN (nq + 1)) _ _ _
  repeat still_step
  still_call (still_of (bit_any i _ (by omega)))
  repeat still_step
  refine wpStill_nil ?_
  change wpList _ _ _ _ _ (w.drewN (nq + 1))
  go_wp2
  go_ret
  exact ⟨rfl, (h.drewN (nq + 1)).set h1 hgb true (word_put f i), grown_set_drewN _ _ _ _ _⟩
theorem put_no {w : World} {g : Nat} {A : Option Addr} {size : Nat} {f : Nat → Bool} (h : SetAt w g A size f) {i : Int} (h1 : ¬ (0 ≤ i ∧ i < size ∧ f i.toNat = false)) : Calls Tryd.prog 31 #[.pointer (some ⟨g, 0, none⟩), .int .i64 i] w fun e w' => e = .returned (.bool false) ∧ ∃ n, w' = w.drewN n := by
  by_cases h2 : 0 ≤ i ∧ i < size
  · obtain ⟨h3, h4⟩ := h2
    obtain ⟨k, rfl⟩ := Int.eq_ofNat_of_zero_le h3
    have hk : k < size := by omega
    have H2 : Hid (f k = true) := by
      show f k = true
      cases e : f k with
      | true => rfl
      | false => exact absurd ⟨h3, h4, by simpa using e⟩ h1
    clear h1
    go_enter Tryd.func31, Tryd.ntmps31
    go_wp2_with (first
      | (go_at_call 36; refine (may_yes h h3 h4).mono ?_; rintro e w' ⟨rfl, rfl⟩)
      | (go_at_call 24; refine (has_in h hk).mono ?_; rintro e w' ⟨rfl, nq, rfl⟩; rw [H2.out]))
    go_ret
    exact ⟨rfl, nq, rfl⟩
  · have H2 := Lib.hid h2
    clear h1 h2
    go_enter Tryd.func31, Tryd.ntmps31
    go_wp2_with (go_at_call 36; refine (may_no h H2.out).mono ?_; rintro e w' ⟨rfl, rfl⟩)
    go_ret
    exact ⟨rfl, 0, rfl⟩
theorem put_nil (i : Int) (w : World) : Calls Tryd.prog 31 #[.pointer none, .int .i64 i] w fun e w' => e = .returned (.bool false) ∧ w = w' := by
  go_enter Tryd.func31, Tryd.ntmps31
  go_wp2_with (go_at_call 36; refine (bmay_nil _ _).mono ?_; rintro e w' ⟨rfl, rfl⟩)
  go_ret
  exact ⟨rfl, rfl⟩
theorem bdrop_yes {w : World} {g : Nat} {A : Option Addr} {size : Nat} {f : Nat → Bool} (h : SetAt w g A size f) {i : Nat} (h1 : i < size) (h2 : f i = true) : Calls Tryd.prog 28 #[.pointer (some ⟨g, 0, none⟩), .int .i64 i] w fun e w' => e = .returned (.bool true) ∧ SetAt w' g A size (upd f i false) ∧ w.grownBy w' (rowOf A) := by
  obtain ⟨d, hd⟩ := h.head
  have hs := h.small
  have hlt := div_lt_nw h1
  obtain ⟨b, rfl, hb⟩ := h.body.at_ hlt
  have hgb : g ≠ b := row_type hd hb (by decide)
  have hw0 : w.cell? ⟨g, 1, none⟩ = some (.slice (some ⟨b, 0, none⟩) (nw size) (nw size)) := hd.cell (i := 1) (by omega)
  have hw1 : w.cell? ⟨b, i / 64, none⟩ = some (.int .u64 (word f (i / 64))) := hb.cell hlt
  have hf1 : w.frozen? ⟨b, i / 64, none⟩ = false := hb.frozen _
  have hi0 : 0 ≤ (i : Int) / 64 ∧ (i : Int) / 64 < (nw size : Int) := by omega
  have hor := u64_andNot_nat (word f (i / 64)) (bitN i) (word_lt _ _) (bitN_lt _)
  have H2 := Lib.hid h2
  clear h2
  have HD := Lib.hid hd
  have HB := Lib.hid hb
  clear hd hb
  go_enter Tryd.func28, Tryd.ntmps28
  go_wp2_with (go_at_call 24; refine (has_in h h1).mono ?_; rintro e w' ⟨rfl, nq, rfl⟩; rw [H2.out])
  have hwr : IntKind.i64.wrap ((i : Int) / 64) = (i : Int) / 64 := IntWalk.i64_in _ (by omega)
  have hto : ((i : Int) / 64).toNat = i / 64 := by omega
  refine wp_region_still_tail 12 (by kernel_rfl) (by kernel_rfl) ?_
  simp only [List.take_succ_cons, List.take_zero, List.drop_succ_cons, List.drop_zero]
  change wpStill _ _ (w.drewN (nq + 1)) _ _ _
  repeat still_step
  still_call (still_of (bit_any i _ (by omega)))
  repeat still_step
  refine wpStill_nil ?_
  change wpList _ _ _ _ _ (w.drewN (nq + 1))
  go_wp2
  go_ret
  exact ⟨rfl, (h.drewN (nq + 1)).set h1 hgb false (word_drop f i), grown_set_drewN _ _ _ _ _⟩
theorem bdrop_no {w : World} {g : Nat} {A : Option Addr} {size : Nat} {f : Nat → Bool} (h : SetAt w g A size f) {i : Int} (h1 : ¬ (0 ≤ i ∧ i < size ∧ f i.toNat = true)) : Calls Tryd.prog 28 #[.pointer (some ⟨g, 0, none⟩), .int .i64 i] w fun e w' => e = .returned (.bool false) ∧ ∃ n, w' = w.drewN n := by
  by_cases h2 : 0 ≤ i ∧ i < size
  · obtain ⟨h3, h4⟩ := h2
    obtain ⟨k, rfl⟩ := Int.eq_ofNat_of_zero_le h3
    have hk : k < size := by omega
    have H2 : Hid (f k = false) := by
      show f k = false
      cases e : f k with
      | false => rfl
      | true => exact absurd ⟨h3, h4, by simpa using e⟩ h1
    clear h1
    go_enter Tryd.func28, Tryd.ntmps28
    go_wp2_with (go_at_call 24; refine (has_in h hk).mono ?_; rintro e w' ⟨rfl, nq, rfl⟩; rw [H2.out])
    go_ret
    exact ⟨rfl, nq, rfl⟩
  · have H2 := Lib.hid h2
    clear h1 h2
    go_enter Tryd.func28, Tryd.ntmps28
    go_wp2_with (go_at_call 24; refine (has_out h H2.out).mono ?_; rintro e w' ⟨rfl, nq, rfl⟩)
    go_ret
    exact ⟨rfl, nq, rfl⟩
theorem bdrop_nil (i : Int) (w : World) : Calls Tryd.prog 28 #[.pointer none, .int .i64 i] w fun e w' => e = .returned (.bool false) ∧ ∃ n, w' = w.drewN n := by
  go_enter Tryd.func28, Tryd.ntmps28
  go_wp2_with (go_at_call 24; refine (has_nil _ _).mono ?_; rintro e w' ⟨rfl, nq, rfl⟩)
  go_ret
  exact ⟨rfl, nq, rfl⟩
end Go.Proofs.YtgooajgoofojmaaDoor
