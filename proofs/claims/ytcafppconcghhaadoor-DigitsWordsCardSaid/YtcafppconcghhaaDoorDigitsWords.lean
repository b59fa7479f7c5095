/- Layer 11 (digits): what Word and Words return: contracts. -/
import Derived.Test.YtcafppconcghhaaDoorDigitsHex
import Derived.Test.YtcafppconcghhaaDoorBaseTexts
namespace Go.Proofs.YtcafppconcghhaaDoor
open Go.RowKit

theorem inWord_is (w : World) {r : Nat} {k : Bool} (h : decide (33 ≤ r ∧ r ≤ 126) = k) : Calls Tryd.prog 29 #[.int .i32 r] w fun e w' => e = .returned (.bool k) ∧ w = w' := by
  go_enter Tryd.func29, Tryd.ntmps29
  by_cases h1 : 32 < r
  · by_cases h2 : r ≤ 126
    · rw [decide_eq_true (by omega)] at h
      subst h
      have g1 : 32 < (r : Int) := by omega
      have g2 : (r : Int) ≤ 126 := by omega
      go_wp2
      go_ret
      exact ⟨rfl, rfl⟩
    · rw [decide_eq_false (by omega)] at h
      subst h
      have g1 : 32 < (r : Int) := by omega
      have g2 : ¬ (r : Int) ≤ 126 := by omega
      go_wp2
      go_ret
      exact ⟨rfl, rfl⟩
  · rw [decide_eq_false (by omega)] at h
    subst h
    have g1 : ¬ 32 < (r : Int) := by omega
    go_wp2
    go_ret
    exact ⟨rfl, rfl⟩
theorem rune_in {b : UInt8} {R : Nat} (h1 : b.toNat < 128 → R = b.toNat) (h2 : 128 ≤ b.toNat → 128 ≤ R) : decide (33 ≤ R ∧ R ≤ 126) = inW b := by
  unfold inW
  rcases Nat.lt_or_ge b.toNat 128 with h | h
  · rw [h1 h]
  · have := h2 h
    rw [decide_eq_false (by omega), decide_eq_false (by omega)]
theorem word_is (w : World) (s : ByteArray) {k : Bool} (hr : wordV (txt s) = k) : Calls Tryd.prog 16 #[.string s] w fun e w' => e = .returned (.bool k) ∧ Below w.heap.size w w' := by
  have HR := Lib.hid hr
  clear hr
  have B0 := (Below.refl w.heap.size w).alloc (Nat.le_refl _) (.stringIter s 0)
  go_enter Tryd.func16, Tryd.ntmps16
  go_wp2
  go_loopw [] (fun wr => ∃ pos : Nat, wr.heap[w.heap.size]? = some (.stringIter s pos) ∧ Hid ((left s pos).all inW = (txt s).all inW) ∧ Below w.heap.size w wr) (fun wr => s.size - wr.iterPos w.heap.size)
  case atStart => exact ⟨0, World.iter_heap w s 0, rfl, B0⟩
  case round =>
    obtain ⟨pos, hit, HV, hbw⟩ := hrel
    have hpos0 := iterPos_of hit
    by_cases hp : pos < s.size
    · obtain ⟨R, q, hR, hq, hlow, hhigh, W1, hnx, hit1, _, hsz, hbel⟩ := next_step hit hp
      have hb1 := hbel _ _ hbw (Nat.le_refl _)
      have hv := HV.out
      rw [left_all hp] at hv
      have hin := rune_in (fun h => (hlow h).1) hhigh
      clear HV hbel hsz hbw hhigh
      cases hi : inW (byteAt s pos) with
      | true =>
        rw [hi] at hin
        rw [hi, Bool.true_and] at hv
        have hq1 : q = pos + 1 := (hlow (by
          unfold inW at hi
          have := of_decide_eq_true hi
          omega)).2
        subst hq1
        have HI := Lib.hid fun W : World => inWord_is W hin
        have HV := Lib.hid hv
        clear hlow hin hi hv
        go_wp2_with fail
        refine (HI.out _).mono ?_
        rintro e w2 ⟨rfl, rfl⟩
        go_wp2
        go_roundw
        case rel => exact ⟨pos + 1, hit1, HV, hb1⟩
        case measure =>
          rw [iterPos_of hit1, hpos0]
          omega
      | false =>
        rw [hi] at hin
        rw [hi, Bool.false_and] at hv
        have HI := Lib.hid fun W : World => inWord_is W hin
        have hk : false = k := by
          rw [← HR.out]
          unfold wordV
          rw [← hv, Bool.and_false]
        subst hk
        clear hlow hin hi hv HR
        go_wp2_with fail
        refine (HI.out _).mono ?_
        rintro e w2 ⟨rfl, rfl⟩
        go_wp2
        go_ret
        exact ⟨rfl, hb1⟩
    · have hnx := next_end hit hp
      have hv := HV.out
      rw [left_end (by omega)] at hv
      have HB : Hid ((!s.toList.isEmpty) = k) := by
        show _ = _
        rw [← HR.out, ByteArray.toList_eq]
        unfold wordV
        rw [← hv]
        show (!s.data.toList.isEmpty) = (decide (s.data.toList ≠ []) && true)
        cases s.data.toList <;> rfl
      clear hv HV HR
      go_wp2
      go_ret
      exact ⟨by rw [← HB.out]; rfl, hbw⟩
theorem clone_is (w : World) (s : ByteArray) (hs : s.size ≤ 1048576) : Calls Tryd.prog 30 #[.string s] w fun e w' => e = .returned (.string s) ∧ Below w.heap.size w w' := by
  have HC := Lib.hid (Tryd.stringslite_Clone s w (by omega))
  clear hs
  go_enter Tryd.func30, Tryd.ntmps30
  go_wp2_with fail
  refine HC.out.mono ?_
  rintro e w1 ⟨rfl, hb⟩
  go_wp2
  go_ret
  exact ⟨rfl, hb⟩
end Go.Proofs.YtcafppconcghhaaDoor
