/- Layer 14 (count): what Sum and Top of a book return, and those of a book that New did not give; slices.Max and slices.Index of ints: contracts. -/
import Derived.Test.YtmgfbofaihbfnaaCountDo
namespace Go.Proofs.Ytmgfbofaihbfnaa
open Go.RowKit

/-! ### Sum -/
set_option maxHeartbeats 1600000 in
theorem sum_is {w : World} {S : Nat → Prop} {q : Nat} {L : List Nat} (h : BookAt w S q L) {s : Nat} {r : Bool} (hs : sumV L = s) (hr : sumB L = r) :
    Calls Try.prog 11 #[.pointer (some ⟨q, 0, none⟩)] w fun e w' => ∃ S', e = .returned (.tuple #[.int .i64 s, .bool r]) ∧ BookAt w' S' q L ∧ Moved S w S' w' := by
  have HR := Lib.hid (all_is h)
  have h64 := h.len.2.1
  have HLow := Lib.hid h.len.2.2
  obtain ⟨n, hn⟩ : ∃ n, L.length = n := ⟨_, rfl⟩
  rw [hn] at h64
  have HN := Lib.hid hn
  have HS := Lib.hid hs
  have HB := Lib.hid hr
  clear h hn hs hr
  go_enter Try.func11, Try.ntmps11
  go_wp2_with fail
  refine HR.out.mono ?_
  rintro e w1 ⟨S1, A, c, rfl, hi, hb, hm⟩
  rw [HN.out]
  have HI := Lib.hid hi
  have HQ : Hid (BookAt w1 S1 q L ∧ Moved S w S1 w1) := ⟨hb, hm⟩
  clear hi hb hm HR
  go_wp2_with fail
  go_loopw [10, 4] (fun i v wr => ∃ k t : Nat, k ≤ n ∧ t ≤ 9223372036854775807 ∧ i = .int .i64 k ∧ v = .int .i64 t ∧ Hid ((L.take k).sum = t) ∧ w1 = wr) (fun i _ _ => n - (RowKit.intOf i).toNat)
  case atStart => exact ⟨0, 0, by omega, by omega, rfl, rfl, rfl, rfl⟩
  case round =>
    obtain ⟨k, t, hk, ht, rfl, rfl, HT, rfl⟩ := hrel
    by_cases hlt : k < n
    · have hkl : k < L.length := by rw [HN.out]; exact hlt
      obtain ⟨b, off, rfl, hc⟩ := ints_cell HI.out hkl
      obtain ⟨x, hx⟩ : ∃ x, L.getD k 0 = x := ⟨_, rfl⟩
      have hxl := HLow.out k
      rw [hx] at hc hxl
      have HX := Lib.hid hx
      have HKL := Lib.hid hkl
      have hi : 0 ≤ (k : Int) ∧ (k : Int) < (n : Int) := by omega
      obtain ⟨d, hd⟩ : ∃ d : Nat, 9223372036854775807 - t = d := ⟨_, rfl⟩
      have w1e : IntKind.i64.wrap (9223372036854775807 - (t : Int)) = (d : Int) := by rw [IntKind.wrap_i64]; omega
      by_cases hf : x ≤ d
      · have d1 : ¬ (d : Int) < (x : Int) := by omega
        obtain ⟨u, hu⟩ : ∃ u, t + x = u := ⟨_, rfl⟩
        have w2e : IntKind.i64.wrap ((t : Int) + (x : Int)) = (u : Int) := by rw [IntKind.wrap_i64]; omega
        have hu2 : u ≤ 9223372036854775807 := by omega
        have HU : Hid ((L.take (k + 1)).sum = u) := by
          show _ = _
          rw [sum_take HKL.out, HT.out, HX.out, hu]
        clear hx hd hkl hu HT
        go_wp2
        go_roundw
        case rel => exact ⟨k + 1, u, by omega, hu2, by go_num, rfl, HU, trivial⟩
        case measure => simp [RowKit.intOf]; omega
      · have d1 : (d : Int) < (x : Int) := by omega
        have hov := sum_not (sum_over HKL.out (m := 9223372036854775807) (by rw [HT.out, HX.out]; omega))
        have e1 := hov.1.symm.trans HS.out
        have e2 := hov.2.symm.trans HB.out
        subst e1 e2
        clear hx hd hkl hov
        go_wp2
        go_ret2
        exact ⟨S1, rfl, HQ.out.1, HQ.out.2⟩
    · obtain rfl : k = n := by omega
      have hall := HT.out
      rw [sum_all (by rw [HN.out]; exact Nat.le_refl _)] at hall
      have hft := sum_fits hall ht
      have e1 := hft.1.symm.trans HS.out
      have e2 := hft.2.symm.trans HB.out
      subst e1 e2
      clear hall hft
      go_wp2
      go_ret2
      exact ⟨S1, rfl, HQ.out.1, HQ.out.2⟩
theorem sum_no {w : World} {v : Value} (h : NoBook w v) : Calls Try.prog 11 #[v] w fun e w' => e = .returned (.tuple #[.int .i64 0, .bool true]) ∧ Below w.heap.size w w' := by
  have HR := Lib.hid (all_no h)
  clear h
  go_enter Try.func11, Try.ntmps11
  go_wp2_with fail
  refine HR.out.mono ?_
  rintro e w1 ⟨A, c, rfl, hb⟩
  have HB := Lib.hid hb
  clear hb HR
  go_wp2_with fail
  go_loopw [10, 4] (fun i v wr => i = .int .i64 0 ∧ v = .int .i64 0 ∧ w1 = wr) (fun _ _ _ => 0)
  case atStart => exact ⟨rfl, rfl, rfl⟩
  case round =>
    obtain ⟨rfl, rfl, rfl⟩ := hrel
    go_wp2
    go_ret2
    exact ⟨rfl, HB.out⟩

/-! ### slices.Max, slices.Index -/
theorem max_is (w : World) {A : Option Addr} {L : List Nat} {n c : Nat} (hI : IntsAt w A (ints L)) (hn : L.length = n) (h1 : 1 ≤ n) (h2 : n ≤ 64) :
    Calls Try.prog 23 #[.slice A n c] w fun e w' => ∃ m : Nat, e = .returned (.int .i64 m) ∧ MaxTo L n m ∧ w = w' := by
  have d0 : ¬ (n : Int) < 1 := by omega
  have hi0 : 0 ≤ (0 : Int) ∧ (0 : Int) < (n : Int) := by omega
  obtain ⟨b, off, rfl, hc⟩ := ints_cell hI (k := 0) (by omega)
  have HI := Lib.hid hI
  have HN := Lib.hid hn
  obtain ⟨x, hx⟩ : ∃ x, L.getD 0 0 = x := ⟨_, rfl⟩
  rw [hx, Nat.add_zero] at hc
  have HX := Lib.hid hx
  clear hI hn hx
  go_enter Try.func23, Try.ntmps23
  go_wp2
  clear hc
  go_loopw [4, 3] (fun i v wr => ∃ k m : Nat, 1 ≤ k ∧ k ≤ n ∧ i = .int .i64 k ∧ v = .int .i64 m ∧ Hid (MaxTo L k m) ∧ w = wr) (fun i _ _ => n - (RowKit.intOf i).toNat)
  case atStart => exact ⟨1, x, by omega, h1, rfl, rfl, by have h := MaxTo.first L; rw [HX.out] at h; exact h, rfl⟩
  case round =>
    obtain ⟨k, m, hk1, hk, rfl, rfl, HM, rfl⟩ := hrel
    by_cases hlt : k < n
    · have hkl : k < L.length := by rw [HN.out]; exact hlt
      obtain ⟨b', off', e, hc⟩ := ints_cell HI.out hkl
      injection e with e
      injection e with e1 e2
      subst e1 e2
      obtain ⟨y, hy⟩ : ∃ y, L.getD k 0 = y := ⟨_, rfl⟩
      rw [hy] at hc
      have hi : 0 ≤ (k : Int) ∧ (k : Int) < (n : Int) := by omega
      obtain ⟨u, hu⟩ : ∃ u, max m y = u := ⟨_, rfl⟩
      have hmx : max (m : Int) (y : Int) = (u : Int) := by omega
      have HU : Hid (MaxTo L (k + 1) u) := by
        have h := HM.out.more
        rw [hy, hu] at h
        exact h
      have HMX := Lib.hid hu
      clear hkl hy hu HM hmx
      go_wp2
      go_roundw
      case rel =>
        refine ⟨k + 1, u, by omega, by omega, by go_num, ?_, HU, trivial⟩
        have hu := HMX.out
        congr 1
        split <;> omega
      case measure => simp [RowKit.intOf]; omega
    · obtain rfl : k = n := by omega
      go_wp2
      go_ret
      exact ⟨m, rfl, HM.out, rfl⟩
theorem index_is (w : World) {A : Option Addr} {L : List Nat} {n c m : Nat} (hI : IntsAt w A (ints L)) (hn : L.length = n) (h2 : n ≤ 64) (hm : MaxTo L n m) :
    Calls Try.prog 22 #[.slice A n c, .int .i64 m] w fun e w' => ∃ t : Nat, e = .returned (.int .i64 t) ∧ IsTop L t ∧ w = w' := by
  have HI := Lib.hid hI
  have HN := Lib.hid hn
  have HM := Lib.hid hm
  clear hI hn hm
  go_enter Try.func22, Try.ntmps22
  go_wp2
  go_loopw [8] (fun i wr => ∃ k : Nat, k ≤ n ∧ i = .int .i64 k ∧ Hid (∀ j, j < k → L.getD j 0 ≠ m) ∧ w = wr) (fun i _ => n - (RowKit.intOf i).toNat)
  case atStart => exact ⟨0, by omega, rfl, fun j hj => by omega, rfl⟩
  case round =>
    obtain ⟨k, hk, rfl, HA, rfl⟩ := hrel
    by_cases hlt : k < n
    · have hkl : k < L.length := by rw [HN.out]; exact hlt
      obtain ⟨b, off, rfl, hc⟩ := ints_cell HI.out hkl
      obtain ⟨y, hy⟩ : ∃ y, L.getD k 0 = y := ⟨_, rfl⟩
      rw [hy] at hc
      have HY := Lib.hid hy
      have HKL := Lib.hid hkl
      have hi : 0 ≤ (k : Int) ∧ (k : Int) < (n : Int) := by omega
      by_cases he : m = y
      · subst he
        have hbb : ((m : Int) == (m : Int)) = true := by simp
        have HT : Hid (IsTop L k) := by
          have h := HM.out
          rw [← HN.out] at h
          exact h.top HKL.out HY.out HA.out
        clear hkl hy
        go_wp2
        go_ret
        exact ⟨k, rfl, HT.out, rfl⟩
      · have hbb : ((m : Int) == (y : Int)) = false := by simp; omega
        have HA1 : Hid (∀ j, j < k + 1 → L.getD j 0 ≠ m) := fun j hj => by
          by_cases e : j = k
          · rw [e, HY.out]; exact fun e => he e.symm
          · exact HA.out j (by omega)
        clear hkl hy he HA
        go_wp2
        go_roundw
        case rel => exact ⟨k + 1, by omega, by go_num, HA1, trivial⟩
        case measure => simp [RowKit.intOf]; omega
    · obtain rfl : k = n := by omega
      exfalso
      obtain ⟨_, j, hj, e⟩ := HM.out
      exact HA.out j hj e

/-! ### Top -/
theorem top_is {w : World} {S : Nat → Prop} {q : Nat} {L : List Nat} (h : BookAt w S q L) :
    Calls Try.prog 15 #[.pointer (some ⟨q, 0, none⟩)] w fun e w' => ∃ (S' : Nat → Prop) (t : Nat), e = .returned (.int .i64 t) ∧ IsTop L t ∧ BookAt w' S' q L ∧ Moved S w S' w' := by
  have HR := Lib.hid (all_is h)
  have h64 := h.len.2.1
  have h1 := h.len.1
  obtain ⟨n, hn⟩ : ∃ n, L.length = n := ⟨_, rfl⟩
  rw [hn] at h64 h1
  have hz : ((n : Int) == 0) = false := by simp; omega
  have HN := Lib.hid hn
  clear h hn
  go_enter Try.func15, Try.ntmps15
  go_wp2_with fail
  refine HR.out.mono ?_
  rintro e w1 ⟨S1, A, c, rfl, hi, hb, hm⟩
  rw [HN.out]
  have HI := Lib.hid hi
  have HQ : Hid (BookAt w1 S1 q L ∧ Moved S w S1 w1) := ⟨hb, hm⟩
  clear hi hb hm HR
  go_wp2_with fail
  refine (max_is w1 (c := c) HI.out HN.out h1 h64).mono ?_
  rintro e w2 ⟨m, rfl, hM, rfl⟩
  have HM := Lib.hid hM
  clear hM
  go_wp2_with fail
  refine (index_is w1 (c := c) HI.out HN.out h64 HM.out).mono ?_
  rintro e w2 ⟨t, rfl, hT, rfl⟩
  have HT := Lib.hid hT
  clear hT
  go_wp2
  go_ret
  exact ⟨S1, t, rfl, HT.out, HQ.out.1, HQ.out.2⟩
theorem top_no {w : World} {v : Value} (h : NoBook w v) : Calls Try.prog 15 #[v] w fun e w' => e = .returned (.int .i64 (-1)) ∧ Below w.heap.size w w' := by
  have HR := Lib.hid (all_no h)
  clear h
  go_enter Try.func15, Try.ntmps15
  go_wp2_with fail
  refine HR.out.mono ?_
  rintro e w1 ⟨A, c, rfl, hb⟩
  have HB := Lib.hid hb
  clear hb HR
  go_wp2
  go_ret
  exact ⟨rfl, HB.out⟩
end Go.Proofs.Ytmgfbofaihbfnaa
