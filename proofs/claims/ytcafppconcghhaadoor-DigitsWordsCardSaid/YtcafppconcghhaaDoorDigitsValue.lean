/- Layer 11 (digits): what value returns: the number of a text's digits to a base: a contract. -/
import Derived.Test.YtcafppconcghhaaDoorDigitsTell
namespace Go.Proofs.YtcafppconcghhaaDoor
open Go.RowKit

set_option maxHeartbeats 1000000 in
theorem value_is (w : World) (s : ByteArray) {base most : Nat} (hb : 10 ≤ base ∧ base ≤ 16) (hm : 16 ≤ most ∧ most ≤ 9223372036854775808) {r : Nat} {k : Bool} (hr : valE base most (txt s) = (r, k)) :
    Calls Tryd.prog 27 #[.string s, .int .u64 base, .int .u64 most] w fun e w' => e = .returned (.tuple #[.int .u64 r, .bool k]) ∧ Below w.heap.size w w' := by
  have HR := Lib.hid hr
  clear hr
  have B0 := (Below.refl w.heap.size w).alloc (Nat.le_refl _) (.stringIter s 0)
  go_enter Tryd.func27, Tryd.ntmps27
  go_wp2
  go_loopw [8] (fun v wr => ∃ pos n : Nat, wr.heap[w.heap.size]? = some (.stringIter s pos) ∧ v = .int .u64 n ∧ n ≤ most ∧ Hid (valL base most n (left s pos) = valL base most 0 (txt s)) ∧ Below w.heap.size w wr) (fun _ wr => s.size - wr.iterPos w.heap.size)
  case atStart => exact ⟨0, 0, World.iter_heap w s 0, rfl, Nat.zero_le _, rfl, B0⟩
  case round =>
    obtain ⟨pos, n, hit, rfl, hn, HV, hbw⟩ := hrel
    have hpos0 := iterPos_of hit
    by_cases hp : pos < s.size
    · obtain ⟨R, q, hR, hq, hlow, hhigh, W1, hnx, hit1, _, hsz, hbel⟩ := next_step hit hp
      have hb1 := hbel _ _ hbw (Nat.le_refl _)
      have hv := HV.out
      rw [left_lt hp] at hv
      clear HV hbel hsz hbw
      have HNE : Hid (s ≠ ⟨#[]⟩) := fun e => by rw [e] at hp; exact absurd hp (Nat.not_lt_zero _)
      generalize hbe : byteAt s pos = b at hv hlow hhigh
      cases hd : dig b with
      | none =>
        have hdr : digR R = (0, false) := by
          by_cases h : b.toNat < 128
          · rw [(hlow h).1, digR_byte, hd]
          · exact digR_high (hhigh (by omega))
        rw [valL_none hd] at hv
        have hr0 : (0, false) = (r, k) := by rw [← HR.out]; unfold valE; rw [← hv]
        have HD := Lib.hid fun W : World => digit_is W hR hdr
        clear hlow hhigh hv hd hdr hR HR
        injection hr0 with e1 e2
        subst e1 e2
        go_wp2_with fail
        refine (HD.out _).mono ?_
        rintro e w2 ⟨rfl, rfl⟩
        go_wp2
        go_ret2
        exact ⟨rfl, hb1⟩
      | some d =>
        have hdl := dig_lt hd
        have h128 : b.toNat < 128 := by
          rcases Nat.lt_or_ge b.toNat 128 with h | h
          · exact h
          · rw [dig_high h] at hd; cases hd
        obtain ⟨rfl, rfl⟩ := hlow h128
        have hdr : digR b.toNat = (d, true) := by rw [digR_byte, hd]
        have HD := Lib.hid fun W : World => digit_is W hR hdr
        have e1 : IntKind.u64.wrap ((most : Int) - (d : Int)) = ((most - d : Nat) : Int) := by rw [IntKind.wrap_u64]; omega
        have e2 : ((most - d : Nat) : Int).tdiv (base : Int) = (((most - d) / base : Nat) : Int) := by
          rw [Int.tdiv_eq_ediv_of_nonneg (by omega)]
          exact (Int.natCast_ediv _ _).symm
        have e3 : IntKind.u64.wrap (((most - d) / base : Nat) : Int) = (((most - d) / base : Nat) : Int) := by
          have h := Nat.div_le_self (most - d) base
          generalize (most - d) / base = qq at h ⊢
          rw [IntKind.wrap_u64]
          omega
        by_cases hok : d < base ∧ n * base + d ≤ most
        · have hq2 : ¬ ((((most - d) / base : Nat) : Int) < (n : Int)) := by
            have : n ≤ (most - d) / base := (Nat.le_div_iff_mul_le (by omega)).2 (by omega)
            omega
          have e4 : IntKind.u64.wrap ((n : Int) * (base : Int)) = ((n * base : Nat) : Int) := by
            rw [show (n : Int) * (base : Int) = ((n * base : Nat) : Int) from (Int.natCast_mul _ _).symm, IntKind.wrap_u64]; omega
          have e5 : IntKind.u64.wrap (((n * base : Nat) : Int) + (d : Int)) = ((n * base + d : Nat) : Int) := by rw [IntKind.wrap_u64]; omega
          rw [valL_cons hd hok.1 hok.2] at hv
          have HV := Lib.hid hv
          have hg1 : ¬ ((base : Int) ≤ (d : Int)) := by omega
          have hbz : ¬ ((base : Int) = 0) := by omega
          have hle := hok.2
          generalize n * base + d = n2 at *
          generalize n * base = m2 at *
          generalize (most - d) / base = qq at *
          generalize most - d = md at *
          clear hok hlow hhigh hv hd hdr hR HNE
          go_wp2_with fail
          refine (HD.out _).mono ?_
          rintro e w2 ⟨rfl, rfl⟩
          go_wp2
          go_roundw
          case rel => exact ⟨pos + 1, n2, hit1, by first | rfl | (rw [e4, e5]) , hle, HV, hb1⟩
          case measure =>
            rw [iterPos_of hit1, hpos0]
            omega
        · rw [valL_over hd hok] at hv
          have hr0 : (0, false) = (r, k) := by rw [← HR.out]; unfold valE; rw [← hv]
          injection hr0 with f1 f2
          subst f1 f2
          have hbz : ¬ ((base : Int) = 0) := by omega
          by_cases hg : d < base
          · have hg1 : ¬ ((base : Int) ≤ (d : Int)) := by omega
            have hq2 : (((most - d) / base : Nat) : Int) < (n : Int) := by
              have : ¬ n ≤ (most - d) / base := fun h => hok ⟨hg, by have := (Nat.le_div_iff_mul_le (show 0 < base by omega)).1 h; omega⟩
              omega
            generalize (most - d) / base = qq at *
            generalize most - d = md at *
            clear hok hlow hhigh hv hd hdr hR HNE HR
            go_wp2_with fail
            refine (HD.out _).mono ?_
            rintro e w2 ⟨rfl, rfl⟩
            go_wp2
            go_ret2
            exact ⟨rfl, hb1⟩
          · have hg1 : (base : Int) ≤ (d : Int) := by omega
            generalize (most - d) / base = qq at *
            generalize most - d = md at *
            clear hok hlow hhigh hv hd hdr hR HNE HR
            go_wp2_with fail
            refine (HD.out _).mono ?_
            rintro e w2 ⟨rfl, rfl⟩
            go_wp2
            go_ret2
            exact ⟨rfl, hb1⟩
    · have hnx := next_end hit hp
      have hv := HV.out
      rw [left_end (by omega)] at hv
      have hr0 : (n, decide (txt s ≠ [])) = (r, k) := by
        rw [← HR.out]
        unfold valE
        rw [← hv]
        rfl
      injection hr0 with f1 f2
      subst f1
      have HB : Hid ((!s.toList.isEmpty) = k) := by
        rw [← f2]
        show (!s.toList.isEmpty) = decide (s.data.toList ≠ [])
        rw [ByteArray.toList_eq]
        cases s.data.toList <;> rfl
      clear hv HV HR f2
      go_wp2
      go_ret2
      refine ⟨?_, hbw⟩
      rw [← HB.out]
      rfl
end Go.Proofs.YtcafppconcghhaaDoor
