/- Layer 13 (mark): what step, told, behind and both Of return: contracts. -/
import Derived.Test.YtfclnahpgbpjbaaMarkMath
import Derived.Test.YtfclnahpgbpjbaaBaseZs
namespace Go.Proofs.Ytfclnahpgbpjbaa
open Go.RowKit

theorem wrap_u64_in (n : Nat) (h : n < 18446744073709551616) : IntKind.u64.wrap (n : Int) = (n : Int) := by
  rw [u64_wrap]
  unfold u64M
  omega
theorem step_is (w : World) {h b r : Nat} (hh : h < 18446744073709551616) (hb : b < 18446744073709551616) (hr : stepM h b = r) :
    Calls Try.prog 15 #[.int .u64 h, .int .u64 b] w fun e w' => e = .returned (.int .u64 r) ∧ w = w' := by
  have e1 := u64_or_nat h b hh hb
  have e2 := u64_and_nat h b hh hb
  have e3 := xor_of h b hh hb
  have e4 := step_wrap h b
  rw [e1, e2] at e3
  rw [hr] at e4
  clear hr hh hb
  generalize h ||| b = o at *
  generalize h &&& b = a at *
  generalize h ^^^ b = x at *
  go_enter Try.func15, Try.ntmps15
  go_wp2
  go_ret
  exact ⟨rfl, rfl⟩
theorem told_is (w : World) {h r : Nat} (hr : toldM h = r) :
    Calls Try.prog 13 #[.int .u64 h] w fun e w' => e = .returned (.int .i64 r) ∧ w = w' := by
  have e1 : (h : Int) % 9223372036854775808 = (r : Int) := by rw [← hr]; unfold toldM; omega
  have hlt := told_lt h
  rw [hr] at hlt
  have e2 : IntKind.u64.wrap (r : Int) = (r : Int) := wrap_u64_in r (by omega)
  have e3 : IntKind.i64.wrap (r : Int) = (r : Int) := IntWalk.i64_in _ (by omega)
  clear hr
  go_enter Try.func13, Try.ntmps13
  go_wp2
  go_ret
  exact ⟨rfl, rfl⟩

/-- A round of the bytes. -/
theorem round_nums {m q b x m' q' : Nat} (hm : m < 18446744073709551616) (hq : q < 18446744073709551616) (h1 : q % 256 = b) (h2 : m ^^^ b = x) (h3 : stepM m b = m') (h4 : q / 256 = q') :
    (q : Int) % 256 = (b : Int) ∧ IntKind.u64.wrap (b : Int) = (b : Int) ∧ bits .xor .u64 (m : Int) (b : Int) = (x : Int) ∧ IntKind.u64.wrap ((x : Int) * 1099511628211) = (m' : Int) ∧ (q : Int) / 256 = (q' : Int) ∧ IntKind.u64.wrap (q' : Int) = (q' : Int) ∧ b < 18446744073709551616 ∧ m' < 18446744073709551616 ∧ q' < 18446744073709551616 := by
  have hb : b < 18446744073709551616 := by omega
  refine ⟨by omega, wrap_u64_in _ hb, ?_, ?_, by omega, wrap_u64_in _ (by omega), hb, by rw [← h3]; exact step_lt _ _, by omega⟩
  · rw [u64_xor_nat m b hm hb, h2]
  · rw [← h2, ← h3]; exact step_wrap m b
set_option maxHeartbeats 800000 in
theorem behind_is (w : World) {A : Option Addr} {n c h : Nat} {l : List Int} (hl : IntsAt w A l) (hn : l.length = n) (hs : n ≤ 9223372036854775807) (hh : h < 18446744073709551616) {r : Nat} (hr : marksM h l = r) :
    Calls Try.prog 14 #[.int .u64 h, .slice A n c] w fun e w' => e = .returned (.int .u64 r) ∧ w = w' := by
  have HL := Lib.hid hl
  have HN := Lib.hid hn
  have HR := Lib.hid hr
  clear hl hn hr
  go_enter Try.func14, Try.ntmps14
  go_wp2
  go_loopw [0, 10] (fun vm vi wr => ∃ (i m : Nat), vm = .int .u64 m ∧ vi = .int .i64 i ∧ i ≤ n ∧ m < 18446744073709551616 ∧ Hid (marksM m (l.drop i) = r) ∧ w = wr) (fun _ vi _ => n - (RowKit.intOf vi).toNat)
  case atStart => exact ⟨0, h, rfl, rfl, by omega, hh, HR.out, rfl⟩
  case round =>
    obtain ⟨i, m, rfl, rfl, hi, hm, HM, rfl⟩ := hrel
    by_cases hin : i < n
    · have hil : i < l.length := by have := HN.out; omega
      obtain ⟨b, off, rfl, hc⟩ := HL.out.at_ hil
      obtain ⟨x, hx⟩ : ∃ x, l[i]'hil = x := ⟨_, rfl⟩
      rw [hx] at hc
      obtain ⟨m2, hm2⟩ : ∃ m2, numM m x = m2 := ⟨_, rfl⟩
      have HM2 : Hid (marksM m2 (l.drop (i + 1)) = r) := by
        have e := HM.out
        rw [List.drop_eq_getElem_cons hil, hx] at e
        rw [← hm2]
        exact e
      have hw := u64_wrap x
      have hu := u64_lt x
      obtain ⟨u, hue⟩ : ∃ u, u64M x = u := ⟨_, rfl⟩
      rw [hue] at hw hu
      have HU : Hid (bytesM 8 m u = m2) := by rw [← hue]; exact hm2
      have hi1 : 0 ≤ (i : Int) ∧ (i : Int) < (n : Int) := by omega
      clear hx hm2 hue
      go_wp2
      clear hc hw hi1
      go_loopw [0, 7, 16] (fun vm vq vk wv => ∃ (k m q : Nat), vm = .int .u64 m ∧ vq = .int .u64 q ∧ vk = .int .i64 k ∧ k ≤ 8 ∧ m < 18446744073709551616 ∧ q < 18446744073709551616 ∧ Hid (bytesM (8 - k) m q = m2) ∧ w = wv) (fun _ _ vk _ => 8 - (RowKit.intOf vk).toNat)
      case atStart => exact ⟨0, m, u, rfl, rfl, rfl, by omega, hm, hu, HU.out, rfl⟩
      case round =>
        clear hm hu HU HM
        obtain ⟨k, m, q, rfl, rfl, rfl, hk, hm, hq, HB, rfl⟩ := hrel
        by_cases hk8 : k < 8
        · obtain ⟨b, h1⟩ : ∃ b, q % 256 = b := ⟨_, rfl⟩
          obtain ⟨x, h2⟩ : ∃ x, m ^^^ b = x := ⟨_, rfl⟩
          obtain ⟨m', h3⟩ : ∃ m', stepM m b = m' := ⟨_, rfl⟩
          obtain ⟨q', h4⟩ : ∃ q', q / 256 = q' := ⟨_, rfl⟩
          obtain ⟨e1, e2, e3, e4, e5, e6, _, hm', hq'⟩ := round_nums hm hq h1 h2 h3 h4
          have HB2 : Hid (bytesM (8 - (k + 1)) m' q' = m2) := by
            have e := HB.out
            rw [show 8 - k = (8 - (k + 1)) + 1 by omega] at e
            rw [← h3, ← h4, ← h1]
            exact e
          clear h1 h2 h3 h4
          go_wp2
          go_roundw
          case rel => exact ⟨k + 1, m', q', rfl, rfl, by go_num, by omega, hm', hq', HB2.out, trivial⟩
          case measure => simp [RowKit.intOf]; omega
        · obtain rfl : k = 8 := by omega
          have hmm : m = m2 := HB.out
          subst hmm
          go_wp2
          go_roundw
          case rel => exact ⟨i + 1, m, rfl, by go_num, by omega, hm, HM2.out, trivial⟩
          case measure => simp [RowKit.intOf]; omega
    · obtain rfl : i = n := by omega
      have e := HM.out
      rw [List.drop_eq_nil_of_le (Nat.le_of_eq HN.out)] at e
      have e' : m = r := e
      subst e'
      clear e
      go_wp2
      go_ret
      exact ⟨rfl, rfl⟩

/-- What Of tells. -/
theorem of_is (w : World) {A : Option Addr} {n c : Nat} {l : List Int} (hl : IntsAt w A l) (hn : l.length = n) (hs : n ≤ 9223372036854775807) {r : Nat} (hr : toldM (marksM firstM l) = r) :
    Calls Try.prog 6 #[.slice A n c] w fun e w' => e = .returned (.int .i64 r) ∧ w = w' := by
  have HB := Lib.hid (behind_is w (c := c) hl hn hs (h := firstM) (by decide) rfl)
  have HT := Lib.hid fun W => told_is W hr
  generalize marksM firstM l = m at *
  clear hl hn hs hr
  go_enter Try.func6, Try.ntmps6
  go_wp2_with fail
  refine HB.out.mono ?_
  rintro e w2 ⟨rfl, rfl⟩
  go_wp2_with fail
  refine (HT.out _).mono ?_
  rintro e w2 ⟨rfl, rfl⟩
  go_wp2
  go_ret
  exact ⟨rfl, rfl⟩
set_option maxHeartbeats 800000 in
/-- What the document's Of tells. -/
theorem rof_is (w : World) {A : Option Addr} {n c : Nat} {l : List Int} (hl : IntsAt w A l) (hn : l.length = n) (hs : n ≤ 9223372036854775807) {r : Nat} (hr : toldM (marksM firstM l) = r) :
    Calls Try.prog 7 #[.slice A n c] w fun e w' => e = .returned (.int .i64 r) ∧ w = w' := by
  have HL := Lib.hid hl
  have HN := Lib.hid hn
  have HR := Lib.hid hr
  clear hl hn hr
  go_enter Try.func7, Try.ntmps7
  go_wp2
  go_loopw [3, 4] (fun vm vi wr => ∃ (i m : Nat), vm = .int .u64 m ∧ vi = .int .i64 i ∧ i ≤ n ∧ m < 18446744073709551616 ∧ Hid (toldM (marksM m (l.drop i)) = r) ∧ w = wr) (fun _ vi _ => n - (RowKit.intOf vi).toNat)
  case atStart => exact ⟨0, firstM, rfl, rfl, by omega, by decide, HR.out, rfl⟩
  case round =>
    obtain ⟨i, m, rfl, rfl, hi, hm, HM, rfl⟩ := hrel
    by_cases hin : i < n
    · have hil : i < l.length := by have := HN.out; omega
      obtain ⟨b, off, rfl, hc⟩ := HL.out.at_ hil
      obtain ⟨x, hx⟩ : ∃ x, l[i]'hil = x := ⟨_, rfl⟩
      rw [hx] at hc
      obtain ⟨m2, hm2⟩ : ∃ m2, numM m x = m2 := ⟨_, rfl⟩
      have HM2 : Hid (toldM (marksM m2 (l.drop (i + 1))) = r) := by
        have e := HM.out
        rw [List.drop_eq_getElem_cons hil, hx] at e
        rw [← hm2]
        exact e
      have hw := u64_wrap x
      have hu := u64_lt x
      obtain ⟨u, hue⟩ : ∃ u, u64M x = u := ⟨_, rfl⟩
      rw [hue] at hw hu
      have HU : Hid (bytesM 8 m u = m2) := by rw [← hue]; exact hm2
      have hi1 : 0 ≤ (i : Int) ∧ (i : Int) < (n : Int) := by omega
      clear hx hm2 hue
      go_wp2
      clear hc hw hi1
      go_loopw [3, 5, 6] (fun vm vq vk wv => ∃ (k m q : Nat), vm = .int .u64 m ∧ vq = .int .u64 q ∧ vk = .int .i64 k ∧ k ≤ 8 ∧ m < 18446744073709551616 ∧ q < 18446744073709551616 ∧ Hid (bytesM (8 - k) m q = m2) ∧ w = wv) (fun _ _ vk _ => 8 - (RowKit.intOf vk).toNat)
      case atStart => exact ⟨0, m, u, rfl, rfl, rfl, by omega, hm, hu, HU.out, rfl⟩
      case round =>
        clear hm hu HU HM
        obtain ⟨k, m, q, rfl, rfl, rfl, hk, hm, hq, HB, rfl⟩ := hrel
        by_cases hk8 : k < 8
        · obtain ⟨b, h1⟩ : ∃ b, q % 256 = b := ⟨_, rfl⟩
          obtain ⟨m', h3⟩ : ∃ m', stepM m b = m' := ⟨_, rfl⟩
          obtain ⟨q', h4⟩ : ∃ q', q / 256 = q' := ⟨_, rfl⟩
          obtain ⟨e1, e2, _, _, e5, e6, hb, hm', hq'⟩ := round_nums hm hq h1 rfl h3 h4
          have HB2 : Hid (bytesM (8 - (k + 1)) m' q' = m2) := by
            have e := HB.out
            rw [show 8 - k = (8 - (k + 1)) + 1 by omega] at e
            rw [← h3, ← h4, ← h1]
            exact e
          have HS := Lib.hid fun W => step_is W hm hb h3
          clear h1 h3 h4
          go_wp2_with fail
          refine (HS.out _).mono ?_
          rintro e w2 ⟨rfl, rfl⟩
          go_wp2
          go_roundw
          case rel => exact ⟨k + 1, m', q', rfl, rfl, by go_num, by omega, hm', hq', HB2.out, trivial⟩
          case measure => simp [RowKit.intOf]; omega
        · obtain rfl : k = 8 := by omega
          have hmm : m = m2 := HB.out
          subst hmm
          go_wp2
          go_roundw
          case rel => exact ⟨i + 1, m, rfl, by go_num, by omega, hm, HM2.out, trivial⟩
          case measure => simp [RowKit.intOf]; omega
    · obtain rfl : i = n := by omega
      have e := HM.out
      rw [List.drop_eq_nil_of_le (Nat.le_of_eq HN.out)] at e
      have e' : toldM m = r := e
      have e1 : (m : Int) % 9223372036854775808 = (r : Int) := by rw [← e']; unfold toldM; omega
      have hlt := told_lt m
      rw [e'] at hlt
      have e2 : IntKind.u64.wrap (r : Int) = (r : Int) := wrap_u64_in r (by omega)
      have e3 : IntKind.i64.wrap (r : Int) = (r : Int) := IntWalk.i64_in _ (by omega)
      clear e e'
      go_wp2
      go_ret
      exact ⟨rfl, rfl⟩
end Go.Proofs.Ytfclnahpgbpjbaa
