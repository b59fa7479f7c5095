/- Layer 11 (digits): what Read, Within and ReadHex return: contracts. -/
import Derived.Test.YtcafppconcghhaaDoorDigitsValue
namespace Go.Proofs.YtcafppconcghhaaDoor
open Go.RowKit
open Go.Lib (itoa)

theorem valE_le {base most : Nat} (l : List UInt8) : (valE base most l).1 ≤ most := by
  unfold valE
  split
  · rename_i n h
    exact valL_le (Nat.zero_le _) h
  · exact Nat.zero_le _
theorem readV_minus (d : List UInt8) : readV (45 :: d) = if d.head? = some 48 then (0, false) else (-((valE 10 9223372036854775808 d).1 : Int), (valE 10 9223372036854775808 d).2) := by
  show (if _ then _ else _) = _
  split
  · rfl
  · unfold valE
    cases valL 10 9223372036854775808 0 d <;> rfl
theorem readV_plain {d : List UInt8} (h : ∀ r, d ≠ 45 :: r) : readV d = if d.head? = some 48 ∧ d ≠ [48] then (0, false) else (((valE 10 9223372036854775807 d).1 : Int), (valE 10 9223372036854775807 d).2) := by
  rw [readV_pos h]
  split
  · rfl
  · unfold valE
    cases valL 10 9223372036854775807 0 d <;> rfl

theorem cut_yes {s : ByteArray} {d : List UInt8} (h : txt s = 45 :: d) (w : World) : Calls Tryd.prog 25 #[.string s, .string ⟨#[45]⟩] w fun e w' => e = .returned (.tuple #[.string (mkT d), .bool true]) ∧ w = w' := by
  refine (Tryd.strings_CutPrefix s ⟨#[45]⟩ w).mono ?_
  rintro e w' ⟨h1, h2⟩
  have h' : s.data.toList = 45 :: d := h
  rw [h'] at h1
  have e1 : Lib.hasPrefix (45 :: d) (ByteArray.mk #[45]).data.toList = true := by simp [Lib.hasPrefix]
  refine ⟨?_, h2.symm⟩
  rw [h1]
  unfold Lib.trimPrefix
  rw [e1]
  rfl
theorem cut_no {s : ByteArray} (h : ∀ r, txt s ≠ 45 :: r) (w : World) : Calls Tryd.prog 25 #[.string s, .string ⟨#[45]⟩] w fun e w' => e = .returned (.tuple #[.string s, .bool false]) ∧ w = w' := by
  refine (Tryd.strings_CutPrefix s ⟨#[45]⟩ w).mono ?_
  rintro e w' ⟨h1, h2⟩
  have e1 : Lib.hasPrefix s.data.toList (ByteArray.mk #[45]).data.toList = false := by
    have h' : ∀ r, s.data.toList ≠ 45 :: r := h
    revert h'
    cases s.data.toList with
    | nil => intro _; rfl
    | cons b r =>
      intro h'
      have hb : (45 : UInt8) ≠ b := fun e => h' r (by rw [e])
      show ((45 == b) && ([] : List UInt8).isPrefixOf r) = false
      rw [beq_eq_false_iff_ne.2 hb]
      rfl
  refine ⟨?_, h2.symm⟩
  rw [h1]
  unfold Lib.trimPrefix
  rw [e1]
  rfl
theorem head_is (s : ByteArray) {k : Bool} (h : decide ((txt s).head? = some 48) = k) (w : World) : Calls Tryd.prog 26 #[.string s, .string ⟨#[48]⟩] w fun e w' => e = .returned (.bool k) ∧ w = w' := by
  refine (Tryd.strings_HasPrefix s ⟨#[48]⟩ w).mono ?_
  rintro e w' ⟨h1, h2⟩
  refine ⟨?_, h2.symm⟩
  rw [h1, ← h]
  refine ret_bool ?_
  show Lib.hasPrefix s.data.toList (ByteArray.mk #[48]).data.toList = decide (s.data.toList.head? = some 48)
  cases s.data.toList with
  | nil => rfl
  | cons b r =>
    by_cases hb : b = 48
    · subst hb
      simp [Lib.hasPrefix]
    · have hb' : (48 : UInt8) ≠ b := fun e => hb e.symm
      have e1 : decide ((b :: r).head? = some 48) = false := by simp [hb]
      rw [e1]
      show ((48 == b) && ([] : List UInt8).isPrefixOf r) = false
      rw [beq_eq_false_iff_ne.2 hb']
      rfl

set_option maxHeartbeats 1000000 in
theorem read_is (w : World) (s : ByteArray) {n : Int} {k : Bool} (hr : readV (txt s) = (n, k)) : Calls Tryd.prog 8 #[.string s] w fun e w' => e = .returned (.tuple #[.int .i64 n, .bool k]) ∧ Below w.heap.size w w' := by
  by_cases hm : ∃ d, txt s = 45 :: d
  · obtain ⟨d, hd⟩ := hm
    rw [hd, readV_minus] at hr
    have HC := Lib.hid (cut_yes hd w)
    have hs : s.toList = 45 :: d := by rw [ByteArray.toList_eq]; exact hd
    have hne : (s.toList == [48]) = false := by
      rw [hs]
      rfl
    clear hs hd
    by_cases h0 : d.head? = some 48
    · rw [if_pos h0] at hr
      injection hr with e1 e2
      subst e1 e2
      have HH := Lib.hid (head_is (mkT d) (k := true) (decide_eq_true h0) w)
      clear h0
      generalize mkT d = D at *
      go_enter Tryd.func8, Tryd.ntmps8
      go_wp2_with fail
      refine HC.out.mono ?_
      rintro e w1 ⟨rfl, rfl⟩
      go_wp2_with fail
      refine HH.out.mono ?_
      rintro e w1 ⟨rfl, rfl⟩
      go_wp2
      go_ret2
      exact ⟨rfl, Below.refl _ _⟩
    · rw [if_neg h0] at hr
      have HH := Lib.hid (head_is (mkT d) (k := false) (decide_eq_false h0) w)
      have hle := valE_le (base := 10) (most := 9223372036854775808) d
      have HV := Lib.hid (value_is w (mkT d) (base := 10) (most := 9223372036854775808) (by omega) (by omega) (r := (valE 10 9223372036854775808 d).1) (k := (valE 10 9223372036854775808 d).2) rfl)
      generalize (valE 10 9223372036854775808 d).1 = v at *
      generalize (valE 10 9223372036854775808 d).2 = kv at *
      injection hr with e1 e2
      subst e1 e2
      clear h0
      generalize mkT d = D at *
      go_enter Tryd.func8, Tryd.ntmps8
      go_wp2_with fail
      refine HC.out.mono ?_
      rintro e w1 ⟨rfl, rfl⟩
      go_wp2_with fail
      refine HH.out.mono ?_
      rintro e w1 ⟨rfl, rfl⟩
      go_wp2_with fail
      refine HV.out.mono ?_
      rintro e w2 ⟨rfl, hb⟩
      go_wp2
      go_ret2
      refine ⟨?_, hb⟩
      refine congrArg Ending.returned (congrArg Value.tuple ?_)
      show #[Value.int .i64 _, Value.bool kv] = _
      congr 3
      rw [IntKind.wrap_u64]
      unfold wrap64
      omega
  · have hm' : ∀ r, txt s ≠ 45 :: r := fun r h => hm ⟨r, h⟩
    rw [readV_plain hm'] at hr
    have HC := Lib.hid (cut_no hm' w)
    clear hm hm'
    by_cases h0 : (txt s).head? = some 48 ∧ txt s ≠ [48]
    · rw [if_pos h0] at hr
      injection hr with e1 e2
      subst e1 e2
      have HH := Lib.hid (head_is s (k := true) (decide_eq_true h0.1) w)
      have hne : (s.toList == [48]) = false := by
        rw [ByteArray.toList_eq, beq_eq_false_iff_ne]
        exact h0.2
      clear h0
      go_enter Tryd.func8, Tryd.ntmps8
      go_wp2_with fail
      refine HC.out.mono ?_
      rintro e w1 ⟨rfl, rfl⟩
      go_wp2_with fail
      refine HH.out.mono ?_
      rintro e w1 ⟨rfl, rfl⟩
      go_wp2
      go_ret2
      exact ⟨rfl, Below.refl _ _⟩
    · rw [if_neg h0] at hr
      have hle := valE_le (base := 10) (most := 9223372036854775807) (txt s)
      have HV := Lib.hid (value_is w s (base := 10) (most := 9223372036854775807) (by omega) (by omega) (r := (valE 10 9223372036854775807 (txt s)).1) (k := (valE 10 9223372036854775807 (txt s)).2) rfl)
      have HE : Hid ((decide ((txt s).head? = some 48) = false) ∨ (decide ((txt s).head? = some 48) = true ∧ (s.toList == [48]) = true)) := by
        by_cases h1 : (txt s).head? = some 48
        · refine .inr ⟨decide_eq_true h1, ?_⟩
          rw [ByteArray.toList_eq, beq_iff_eq]
          exact Classical.not_not.1 fun h2 => h0 ⟨h1, h2⟩
        · exact .inl (decide_eq_false h1)
      generalize (valE 10 9223372036854775807 (txt s)).1 = v at *
      generalize (valE 10 9223372036854775807 (txt s)).2 = kv at *
      injection hr with e1 e2
      subst e1 e2
      clear h0
      rcases HE.out with h1 | ⟨h1, hne⟩
      · have HH := Lib.hid (head_is s h1 w)
        clear h1 HE
        go_enter Tryd.func8, Tryd.ntmps8
        go_wp2_with fail
        refine HC.out.mono ?_
        rintro e w1 ⟨rfl, rfl⟩
        go_wp2_with fail
        refine HH.out.mono ?_
        rintro e w1 ⟨rfl, rfl⟩
        go_wp2_with fail
        refine HV.out.mono ?_
        rintro e w2 ⟨rfl, hb⟩
        go_wp2
        go_ret2
        refine ⟨?_, hb⟩
        first
          | rfl
          | (refine congrArg Ending.returned (congrArg Value.tuple ?_)
             show #[Value.int .i64 _, Value.bool kv] = _
             congr 3
             rw [IntKind.wrap_i64]
             omega)
      · have HH := Lib.hid (head_is s h1 w)
        clear h1 HE
        go_enter Tryd.func8, Tryd.ntmps8
        go_wp2_with fail
        refine HC.out.mono ?_
        rintro e w1 ⟨rfl, rfl⟩
        go_wp2_with fail
        refine HH.out.mono ?_
        rintro e w1 ⟨rfl, rfl⟩
        go_wp2_with fail
        refine HV.out.mono ?_
        rintro e w2 ⟨rfl, hb⟩
        go_wp2
        go_ret2
        refine ⟨?_, hb⟩
        first
          | rfl
          | (refine congrArg Ending.returned (congrArg Value.tuple ?_)
             show #[Value.int .i64 _, Value.bool kv] = _
             congr 3
             rw [IntKind.wrap_i64]
             omega)

/-- The number, if it lies between them. -/
def withinV (r : Int × Bool) (low high : Int) : Int × Bool := if r.2 = true ∧ low ≤ r.1 ∧ r.1 ≤ high then (r.1, true) else (0, false)
theorem within_is (w : World) (s : ByteArray) (low high : Int) {n : Int} {k : Bool} (hr : withinV (readV (txt s)) low high = (n, k)) : Calls Tryd.prog 10 #[.string s, .int .i64 low, .int .i64 high] w fun e w' => e = .returned (.tuple #[.int .i64 n, .bool k]) ∧ Below w.heap.size w w' := by
  obtain ⟨m, km, hm⟩ : ∃ m km, readV (txt s) = (m, km) := ⟨_, _, rfl⟩
  have HC := Lib.hid (read_is w s hm)
  rw [hm] at hr
  clear hm
  unfold withinV at hr
  go_enter Tryd.func10, Tryd.ntmps10
  go_wp2_with fail
  refine HC.out.mono ?_
  rintro e w1 ⟨rfl, hb⟩
  have HR := Lib.hid hr
  clear hr HC
  cases km with
  | false =>
    have hr := HR.out
    rw [if_neg (by simp)] at hr
    injection hr with e1 e2
    subst e1 e2
    go_wp2
    go_ret2
    exact ⟨rfl, hb⟩
  | true =>
    go_wp2
    all_goals first
      | (have hr := HR.out
         rw [if_pos ⟨by trivial, by omega, by omega⟩] at hr
         injection hr with e1 e2
         subst e1 e2
         go_ret2
         exact ⟨rfl, hb⟩)
      | (have hr := HR.out
         rw [if_neg (by rintro ⟨_, h1, h2⟩; omega)] at hr
         injection hr with e1 e2
         subst e1 e2
         go_ret2
         exact ⟨rfl, hb⟩)
theorem readHexV_of {l : List UInt8} (h : l.length ≤ 16) : readHexV l = (((valE 16 9223372036854775807 l).1 : Int), (valE 16 9223372036854775807 l).2) := by
  unfold readHexV valE
  cases l with
  | nil => rfl
  | cons b r =>
    rw [if_pos ⟨by simp, h⟩]
    cases valL 16 9223372036854775807 0 (b :: r) <;> rfl
theorem readHex_is (w : World) (s : ByteArray) {n : Int} {k : Bool} (hr : readHexV (txt s) = (n, k)) : Calls Tryd.prog 21 #[.string s] w fun e w' => e = .returned (.tuple #[.int .i64 n, .bool k]) ∧ Below w.heap.size w w' := by
  by_cases h : s.size ≤ 16
  · rw [readHexV_of h] at hr
    have hle := valE_le (base := 16) (most := 9223372036854775807) (txt s)
    have HV := Lib.hid (value_is w s (base := 16) (most := 9223372036854775807) (by omega) (by omega) (r := (valE 16 9223372036854775807 (txt s)).1) (k := (valE 16 9223372036854775807 (txt s)).2) rfl)
    generalize (valE 16 9223372036854775807 (txt s)).1 = v at *
    generalize (valE 16 9223372036854775807 (txt s)).2 = kv at *
    injection hr with e1 e2
    subst e1 e2
    have hg : ¬ (16 : Int) < (s.size : Int) := by omega
    have hg' : ¬ 16 < s.size := by omega
    go_enter Tryd.func21, Tryd.ntmps21
    go_wp2_with fail
    refine HV.out.mono ?_
    rintro e w2 ⟨rfl, hb⟩
    go_wp2
    go_ret2
    refine ⟨?_, hb⟩
    first
      | rfl
      | (refine congrArg Ending.returned (congrArg Value.tuple ?_)
         show #[Value.int .i64 _, Value.bool kv] = _
         congr 3
         rw [IntKind.wrap_i64]
         omega)
  · have e0 : readHexV (txt s) = (0, false) := by
      unfold readHexV
      rw [if_neg fun h2 => h h2.2]
    rw [e0] at hr
    injection hr with e1 e2
    subst e1 e2
    have hg : (16 : Int) < (s.size : Int) := by omega
    have hg' : 16 < s.size := by omega
    go_enter Tryd.func21, Tryd.ntmps21
    go_wp2
    go_ret2
    exact ⟨rfl, Below.refl _ _⟩
end Go.Proofs.YtcafppconcghhaaDoor
