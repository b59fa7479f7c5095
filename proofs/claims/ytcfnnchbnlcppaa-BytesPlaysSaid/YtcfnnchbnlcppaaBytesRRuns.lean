/- Layer 10 (bytes): what the document's Runs returns: a contract. -/
import Derived.Test.YtcfnnchbnlcppaaBytesRDirty
namespace Go.Proofs.Ytcfnnchbnlcppaa
open Go.RowKit Go.Maps

/-- Spans of the call's own, that read as l. -/
def MadeL (w : World) (l : List Sp) (e : Ending) (w' : World) : Prop := ∃ v, e = .returned v ∧ Own w' w.heap.size v l ∧ Below w.heap.size w w'
theorem own_val {w : World} {base : Nat} {v : Value} {l : List Sp} (h : Own w base v l) : ∃ A c, v = .slice A l.length c := by
  obtain ⟨A, c, e, _⟩ := own_slice h
  exact ⟨A, c, e⟩
set_option maxHeartbeats 4000000 in
theorem rruns_is (w : World) (s : ByteArray) (hs : s.size ≤ 1048576) : Calls Try.prog 22 #[.string s] w (MadeL w (runsTo (byteAt s) s.size)) := by
  have HX : Hid (∀ j, j < s.size → ∀ W, (Instr.index 9 (.string s) (.int .i64 (j : Int))).run Try.prog W = .ok (.int .u8 ((byteAt s j).toNat : Int)) W) := fun j hj W => str_index W s hj
  have HO : Hid (∀ j, s.size ≤ j → byteAt s j = 0) := fun j hj => byteAt_ge hj
  obtain ⟨c, hc⟩ : ∃ c, byteAt s = c := ⟨_, rfl⟩
  obtain ⟨n, hn⟩ : ∃ n, s.size = n := ⟨_, rfl⟩
  rw [hn] at hs
  have HX2 : Hid (∀ j : Nat, j < n → ∀ W, (Instr.index 9 (.string s) (.int .i64 (j : Int))).run Try.prog W = .ok (.int .u8 ((c j).toNat : Int)) W) := by
    show ∀ j, _
    rw [← hn, ← hc]
    exact HX.out
  have HO2 : Hid (∀ j, n ≤ j → c j = 0) := by
    show ∀ j, _
    rw [← hn, ← hc]
    exact HO.out
  rw [hn, hc]
  clear HX HO hc
  go_enter Try.func22, Try.ntmps22
  go_wp2
  go_loopw [3, 4] (fun v iv wr => ∃ i : Nat, i ≤ n + 1 ∧ iv = .int .i64 i ∧ Own wr w.heap.size v (runsTo c i) ∧ Below w.heap.size w wr ∧ Hid (i = 0 ∨ c (i - 1) = 0)) (fun _ iv _ => n + 1 - (RowKit.intOf iv).toNat)
  case atStart => exact ⟨0, by omega, rfl, Own.nil _ _, Below.refl _ _, .inl rfl⟩
  case round =>
    obtain ⟨i, hi, rfl, hown, hb, HE⟩ := hrel
    obtain ⟨A, cc, rfl⟩ := own_val hown
    have hlen := runs_length c i
    have HW := Lib.hid hown
    clear hown
    by_cases hlt : i < n
    · have d1 : decide ((i : Int) < (n : Int)) = true := decide_eq_true (by omega)
      have d1' : decide (i < n) = true := decide_eq_true hlt
      obtain ⟨L, hL⟩ : ∃ L, runsTo c i = L := ⟨_, rfl⟩
      rw [hL] at HW hlen ⊢
      have HL := Lib.hid hL
      clear hL
      go_wp2_with fail
      go_loopw [5] (fun kv wr' => ∃ k : Nat, i ≤ k ∧ k ≤ n ∧ kv = .int .i64 k ∧ wr' = wr ∧ Hid (∀ j, i ≤ j → j < k → c j ≠ 0)) (fun kv _ => n - (RowKit.intOf kv).toNat)
      case atStart => exact ⟨i, Nat.le_refl _, by omega, rfl, rfl, fun j h1 h2 => by omega⟩
      case round =>
        obtain ⟨k, hik, hkn, rfl, rfl, HK⟩ := hrel
        by_cases hgo : k < n ∧ c k ≠ 0
        · obtain ⟨hk, h0⟩ := hgo
          have k1 : decide ((k : Int) < (n : Int)) = true := decide_eq_true (by omega)
          have k1' : decide (k < n) = true := decide_eq_true hk
          have hix := HX2.out k hk wr
          have e0 := byte_yes h0
          have e1 : (((c k).toNat : Int) == 0) = false := by simpa using e0
          have HN : Hid (∀ j, i ≤ j → j < k + 1 → c j ≠ 0) := fun j h1 h2 => by
            rcases Nat.lt_or_ge j k with h3 | h3
            · exact HK.out j h1 h3
            · obtain rfl : j = k := by omega
              exact h0
          obtain ⟨y, hy⟩ : ∃ y, (c k).toNat = y := ⟨_, rfl⟩
          rw [hy] at hix e0 e1
          clear h0 hy HK
          go_wp2_with fail
          go_roundw
          case rel => exact ⟨k + 1, by omega, by omega, by simp, trivial, HN⟩
          case measure => simp [RowKit.intOf]; omega
        · have HZ : Hid (c k = 0) := by
            show _ = _
            rcases Nat.lt_or_ge k n with h | h
            · exact Classical.not_not.1 fun e => hgo ⟨h, e⟩
            · exact HO2.out k h
          have HR1 : Hid (runsTo c (k + 1) = runsTo c k) := by
            show (if c k = 0 then _ else _) = _
            rw [if_pos HZ.out]
          have hd : IntKind.i64.wrap ((k : Int) - (i : Int)) = ((k - i : Nat) : Int) := by rw [IntKind.wrap_i64]; omega
          have hsp : ((k : Int) - (i : Int)) = ((k - i : Nat) : Int) := by omega
          rcases Nat.lt_or_ge k n with hkn2 | hkn2
          · have k1 : decide ((k : Int) < (n : Int)) = true := decide_eq_true (by omega)
            have k1' : decide (k < n) = true := decide_eq_true hkn2
            have hix := HX2.out k hkn2 wr
            rw [HZ.out] at hix
            have e0 : (((0 : UInt8).toNat : Nat) : Int) = 0 := rfl
            rw [e0] at hix
            clear e0 hgo
            by_cases hki : i < k
            · have k2 : decide ((i : Int) < (k : Int)) = true := decide_eq_true (by omega)
              have k2' : decide (i < k) = true := decide_eq_true hki
              have HG : Hid (runsTo c (k + 1) = L ++ [((i : Int), ((k - i : Nat) : Int))]) := by
                show _ = _
                have := runs_grow (c := c) HE.out (d := k - i - 1) fun j h1 h2 => HK.out j h1 (by omega)
                rw [show i + (k - i - 1) + 1 = k by omega, HL.out, show k - i - 1 + 1 = k - i by omega] at this
                rw [HR1.out, this]
              clear hik HR1 HK
              go_wp2_with (at_builtin; refine wpList_one (by rfl) (.tmp 26) (.tmp 32) (by rfl) (base := w.heap.size) (v := _) (xs := L) (by rfl) (HW.out.below (new_below wr _)) (by have := hb.size; simp; omega) ⟨wr.heap.size, 0, none⟩ 1 (z := ((i : Int), ((k - i : Nat) : Int))) (by rfl) (one_pairs wr _ _) (by omega) ?_; intro v2 w2 own2 hb2 hg2)
              go_roundw
              case rel =>
                refine ⟨k + 1, by omega, by simp, ?_, ?_, .inr ?_⟩
                · rw [HG.out]
                  exact own2
                · exact (hb.alloc hb.size _).trans hb2
                · exact HZ.out
              case measure => simp [RowKit.intOf]; omega
            · have k2 : decide ((i : Int) < (k : Int)) = false := decide_eq_false (by omega)
              have k2' : decide (i < k) = false := decide_eq_false hki
              have hki2 : k = i := by omega
              have HG : Hid (runsTo c (k + 1) = L) := by
                show _ = _
                rw [HR1.out, hki2, HL.out]
              have HX3 : Hid (k < n + 1) := by show _ < _; omega
              clear hik HR1 HK hki2
              go_wp2_with fail
              go_roundw
              case rel => exact ⟨k + 1, HX3.out, by simp, by rw [HG.out]; exact HW.out, hb, .inr HZ.out⟩
              case measure => simp [RowKit.intOf]; omega
          · have k1 : decide ((k : Int) < (n : Int)) = false := decide_eq_false (by omega)
            have k1' : decide (k < n) = false := decide_eq_false (by omega)
            clear hgo
            by_cases hki : i < k
            · have k2 : decide ((i : Int) < (k : Int)) = true := decide_eq_true (by omega)
              have k2' : decide (i < k) = true := decide_eq_true hki
              have HG : Hid (runsTo c (k + 1) = L ++ [((i : Int), ((k - i : Nat) : Int))]) := by
                show _ = _
                have := runs_grow (c := c) HE.out (d := k - i - 1) fun j h1 h2 => HK.out j h1 (by omega)
                rw [show i + (k - i - 1) + 1 = k by omega, HL.out, show k - i - 1 + 1 = k - i by omega] at this
                rw [HR1.out, this]
              clear hik HR1 HK
              go_wp2_with (at_builtin; refine wpList_one (by rfl) (.tmp 26) (.tmp 32) (by rfl) (base := w.heap.size) (v := _) (xs := L) (by rfl) (HW.out.below (new_below wr _)) (by have := hb.size; simp; omega) ⟨wr.heap.size, 0, none⟩ 1 (z := ((i : Int), ((k - i : Nat) : Int))) (by rfl) (one_pairs wr _ _) (by omega) ?_; intro v2 w2 own2 hb2 hg2)
              go_roundw
              case rel =>
                refine ⟨k + 1, by omega, by simp, ?_, ?_, .inr ?_⟩
                · rw [HG.out]
                  exact own2
                · exact (hb.alloc hb.size _).trans hb2
                · exact HZ.out
              case measure => simp [RowKit.intOf]; omega
            · have k2 : decide ((i : Int) < (k : Int)) = false := decide_eq_false (by omega)
              have k2' : decide (i < k) = false := decide_eq_false hki
              have hki2 : k = i := by omega
              have HG : Hid (runsTo c (k + 1) = L) := by
                show _ = _
                rw [HR1.out, hki2, HL.out]
              have HX3 : Hid (k < n + 1) := by show _ < _; omega
              clear hik HR1 HK hki2
              go_wp2_with fail
              go_roundw
              case rel => exact ⟨k + 1, HX3.out, by simp, by rw [HG.out]; exact HW.out, hb, .inr HZ.out⟩
              case measure => simp [RowKit.intOf]; omega
    · have d1 : decide ((i : Int) < (n : Int)) = false := decide_eq_false (by omega)
      have d1' : decide (i < n) = false := decide_eq_false hlt
      have HF : Hid (runsTo c i = runsTo c n) := runs_more (by omega) HO2.out
      go_wp2_with fail
      go_ret
      refine ⟨_, rfl, ?_, hb⟩
      rw [← HF.out]
      exact HW.out
end Go.Proofs.Ytcfnnchbnlcppaa
