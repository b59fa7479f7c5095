/- The walks of DigitsBack and DigitsHex. -/
import Derived.Test.YtcafppconcghhaaDoorDigitsWorks
namespace Go.Proofs.YtcafppconcghhaaDoor
open Go.RowKit
open Go.Lib (itoa)

theorem join_least : ∀ L : List (List UInt8), L.length ≤ (joinL L).length + 1 ∧ ∀ x, x ∈ L → x.length ≤ (joinL L).length
  | [] => ⟨Nat.zero_le _, fun x h => by cases h⟩
  | [a] => ⟨by simp, fun x h => by rw [List.mem_singleton.1 h]; exact Nat.le_refl _⟩
  | a :: b :: r => by
    obtain ⟨h1, h2⟩ := join_least (b :: r)
    have e : (joinL (a :: b :: r)).length = a.length + (joinL (b :: r)).length + 1 := by
      rw [joinL_cons (List.cons_ne_nil _ _), List.length_append, List.length_cons]
      omega
    rw [e]
    refine ⟨by rw [List.length_cons]; omega, fun x hx => ?_⟩
    rcases List.mem_cons.1 hx with h | h
    · rw [h]; omega
    · have := h2 x h
      omega
set_option maxHeartbeats 2000000 in
theorem back_any {w : World} {n : Int} {s : ByteArray} (hn : -9223372036854775808 ≤ n ∧ n ≤ 9223372036854775807) (hT : Tabs w.heap.size w) : Calls Tryd.prog 5 #[.int .i64 n, .string s] w fun e w' => e = .returned (.bool true) ∧ Below w.heap.size w w' := by
  have HT := Lib.hid hT
  by_cases hsz : s.size ≤ 300
  · have hg : ¬ 300 < (s.size : Int) := by omega
    obtain ⟨b, q, hr⟩ : ∃ b q, readV (txt s) = (b, q) := ⟨_, _, rfl⟩
    obtain ⟨L, k, hw⟩ : ∃ L k, wordsE (txt s) = (L, k) := ⟨_, _, rfl⟩
    have HM1 : Hid (∀ W, Tabs w.heap.size W → Calls Tryd.prog 12 #[.int .i64 n] W fun e w' => e = .returned (.string (mkT (itoa n))) ∧ Below W.heap.size W w') := fun W hT => num_is W hn hT
    have HR1 : Hid (∀ W, Calls Tryd.prog 8 #[.string (mkT (itoa n))] W fun e w' => e = .returned (.tuple #[.int .i64 n, .bool true]) ∧ Below W.heap.size W w') := fun W => read_is W _ (by rw [txt_mk, readV_itoa hn.1 hn.2])
    have HR2 : Hid (∀ W, Calls Tryd.prog 8 #[.string s] W fun e w' => e = .returned (.tuple #[.int .i64 b, .bool q]) ∧ Below W.heap.size W w') := fun W => read_is W s hr
    have HW : Hid (∀ W, Calls Tryd.prog 14 #[.string s] W fun e w' => ∃ v, e = .returned (.tuple #[v, .bool k]) ∧ TextsAt w' v L ∧ Below W.heap.size W w') := fun W => words_is W s hsz hw
    have HM2 : Hid (q = true → ∀ W, Tabs w.heap.size W → Calls Tryd.prog 12 #[.int .i64 b] W fun e w' => e = .returned (.string s) ∧ Below W.heap.size W w') := fun hq W hT => by
      rcases readV_told (txt s) with ⟨_, h1, h2, h3⟩ | h
      · rw [hr] at h1 h2 h3
        have h := num_is W ⟨h1, h2⟩ hT
        have h3' : mkT (itoa b) = s := by rw [show itoa b = txt s from h3]
        rw [h3'] at h
        exact h
      · rw [hr, hq] at h
        injection h with _ h
        cases h
    have HJ : Hid (k = true → ∀ W v, TextsAt W v L → Calls Tryd.prog 19 #[v] W fun e w' => e = .returned (.string s) ∧ Below W.heap.size W w') := fun hk W v hv => by
      have hj : joinL L = txt s := by
        unfold wordsE at hw
        cases ho : wordsO (txt s) with
        | none =>
          rw [ho, hk] at hw
          injection hw with _ h
          cases h
        | some M =>
          rw [ho] at hw
          injection hw with h _
          rw [← h]
          exact words_back ho
      obtain ⟨h1, h2⟩ := join_least L
      rw [hj, txt_len] at h1 h2
      exact join_is W hv (by omega) (fun x hx => Nat.le_trans (h2 x hx) hsz) (by rw [hj])
    have z1 : (n == n) = true := by simp
    have z2 : (s.toList == s.toList) = true := by simp
    clear hr hw hn hT hsz
    generalize mkT (itoa n) = S at *
    go_enter Tryd.func5, Tryd.ntmps5
    go_wp2_with fail
    refine (HM1.out _ HT.out).mono ?_
    rintro e w1 ⟨rfl, b1⟩
    go_wp2_with fail
    refine (HR1.out _).mono ?_
    rintro e w2 ⟨rfl, b2⟩
    have B2 : Hid (Below w.heap.size w w2) := below_next b1.size b1 b2
    clear b1 b2
    go_wp2_with fail
    refine (HR2.out _).mono ?_
    rintro e w3 ⟨rfl, b3⟩
    have B3 : Hid (Below w.heap.size w w3) := below_next B2.out.size B2.out b3
    clear b3
    go_wp2_with fail
    refine (HW.out _).mono ?_
    rintro e w4 ⟨v, rfl, T4, b4⟩
    have B4 : Hid (Below w.heap.size w w4) := below_next B3.out.size B3.out b4
    have T4 := Lib.hid T4
    clear b4
    cases q with
    | false =>
      cases k with
      | false =>
        go_wp2_with fail
        refine (works_is _ (HT.out.on B4.out) B4.out.size).mono ?_
        rintro e w9 ⟨rfl, b9⟩
        have B9 := below_next B4.out.size B4.out b9
        go_wp2
        go_ret
        exact ⟨rfl, B9⟩
      | true =>
        go_wp2_with fail
        refine (HJ.out (by trivial) _ _ T4.out).mono ?_
        rintro e w6 ⟨rfl, b6⟩
        have B6 : Hid (Below w.heap.size w w6) := below_next B4.out.size B4.out b6
        clear b6
        go_wp2_with fail
        refine (works_is _ (HT.out.on B6.out) B6.out.size).mono ?_
        rintro e w9 ⟨rfl, b9⟩
        have B9 := below_next B6.out.size B6.out b9
        go_wp2
        go_ret
        exact ⟨rfl, B9⟩
    | true =>
      go_wp2_with fail
      refine (HM2.out (by trivial) _ (HT.out.on B4.out)).mono ?_
      rintro e w5 ⟨rfl, b5⟩
      have B5 : Hid (Below w.heap.size w w5) := below_next B4.out.size B4.out b5
      have T5 := Lib.hid (T4.out.below b5)
      clear b5
      cases k with
      | false =>
        go_wp2_with fail
        refine (works_is _ (HT.out.on B5.out) B5.out.size).mono ?_
        rintro e w9 ⟨rfl, b9⟩
        have B9 := below_next B5.out.size B5.out b9
        go_wp2
        go_ret
        exact ⟨rfl, B9⟩
      | true =>
        go_wp2_with fail
        refine (HJ.out (by trivial) _ _ T5.out).mono ?_
        rintro e w6 ⟨rfl, b6⟩
        have B6 : Hid (Below w.heap.size w w6) := below_next B5.out.size B5.out b6
        clear b6
        go_wp2_with fail
        refine (works_is _ (HT.out.on B6.out) B6.out.size).mono ?_
        rintro e w9 ⟨rfl, b9⟩
        have B9 := below_next B6.out.size B6.out b9
        go_wp2
        go_ret
        exact ⟨rfl, B9⟩
  · have hg : 300 < (s.size : Int) := by omega
    clear hsz hn hT
    go_enter Tryd.func5, Tryd.ntmps5
    go_wp2_with fail
    refine (works_is _ HT.out (Nat.le_refl _)).mono ?_
    rintro e w9 ⟨rfl, b9⟩
    go_wp2
    go_ret
    exact ⟨rfl, b9⟩

set_option maxHeartbeats 2000000 in
theorem hex_any {w : World} {n wide : Int} {s : ByteArray} (hn : -9223372036854775808 ≤ n ∧ n ≤ 9223372036854775807) (hT : Tabs w.heap.size w) : Calls Tryd.prog 6 #[.int .i64 n, .int .i64 wide, .string s] w fun e w' => e = .returned (.bool true) ∧ Below w.heap.size w w' := by
  have HT := Lib.hid hT
  obtain ⟨a, p, hr⟩ : ∃ a p, readHexV (txt s) = (a, p) := ⟨_, _, rfl⟩
  obtain ⟨c, r, hc⟩ : ∃ c r, readHexV (hexE n wide) = (c, r) := ⟨_, _, rfl⟩
  obtain ⟨S, hS⟩ : ∃ S, mkT (hexE n wide) = S := ⟨_, rfl⟩
  have HR1 : Hid (∀ W, Calls Tryd.prog 21 #[.string s] W fun e w' => e = .returned (.tuple #[.int .i64 a, .bool p]) ∧ Below W.heap.size W w') := fun W => readHex_is W s hr
  have HR2 : Hid (∀ W, Calls Tryd.prog 22 #[.string s] W fun e w' => e = .returned (.tuple #[.int .i64 a, .bool p]) ∧ W = w') := fun W => refReadHex_is W s hr
  have HH1 : Hid (∀ W, Tabs w.heap.size W → w.heap.size ≤ W.heap.size → Calls Tryd.prog 23 #[.int .i64 n, .int .i64 wide] W fun e w' => e = .returned (.string S) ∧ Below W.heap.size W w') := fun W hT hB => hex_is W hn hT hB hS
  have HH2 : Hid (∀ W, Calls Tryd.prog 24 #[.int .i64 n, .int .i64 wide] W fun e w' => e = .returned (.string S) ∧ W = w') := fun W => refHex_is W hn hS
  have HR3 : Hid (∀ W, Calls Tryd.prog 21 #[.string S] W fun e w' => e = .returned (.tuple #[.int .i64 c, .bool r]) ∧ Below W.heap.size W w') := fun W => readHex_is W S (by rw [← hS]; exact hc)
  have HE : Hid (S.toList.isEmpty = true ∨ (S.toList.isEmpty = false ∧ r = true ∧ c = n)) := by
    show _ ∨ _
    rw [← hS, mk_empty]
    by_cases he : hexE n wide = []
    · exact .inl (decide_eq_true he)
    · refine .inr ⟨decide_eq_false he, ?_⟩
      have h := hex_back hn.2 he
      rw [hc] at h
      injection h with h1 h2
      exact ⟨h2, h1⟩
  have z1 : (S.toList == S.toList) = true := by simp
  have z2 : (a == a) = true := by simp
  have z3 : (p == p) = true := by simp
  have z4 : (n == n) = true := by simp
  clear hr hc hS hn hT
  go_enter Tryd.func6, Tryd.ntmps6
  by_cases hsz : 100 < (s.size : Int)
  · go_wp2_with fail
    refine (works_is _ HT.out (Nat.le_refl _)).mono ?_
    rintro e w9 ⟨rfl, b9⟩
    go_wp2
    go_ret
    exact ⟨rfl, b9⟩
  · go_wp2_with fail
    refine (HR1.out _).mono ?_
    rintro e w1 ⟨rfl, b1⟩
    go_wp2_with fail
    refine (HR2.out _).mono ?_
    rintro e w2 ⟨rfl, rfl⟩
    go_wp2_with fail
    refine (HH1.out _ (HT.out.on b1) b1.size).mono ?_
    rintro e w3 ⟨rfl, b3⟩
    have B3 : Hid (Below w.heap.size w w3) := below_next b1.size b1 b3
    clear b1 b3
    go_wp2_with fail
    refine (HR3.out _).mono ?_
    rintro e w4 ⟨rfl, b4⟩
    have B4 : Hid (Below w.heap.size w w4) := below_next B3.out.size B3.out b4
    clear b4
    go_wp2_with fail
    refine (HH2.out _).mono ?_
    rintro e w5 ⟨rfl, rfl⟩
    rcases HE.out with he | ⟨he, hrt, hcn⟩
    · go_wp2_with fail
      refine (works_is _ (HT.out.on B4.out) B4.out.size).mono ?_
      rintro e w9 ⟨rfl, b9⟩
      have B9 := below_next B4.out.size B4.out b9
      go_wp2
      go_ret
      exact ⟨rfl, B9⟩
    · subst hrt hcn
      go_wp2_with fail
      refine (works_is _ (HT.out.on B4.out) B4.out.size).mono ?_
      rintro e w9 ⟨rfl, b9⟩
      have B9 := below_next B4.out.size B4.out b9
      go_wp2
      go_ret
      exact ⟨rfl, B9⟩
end Go.Proofs.YtcafppconcghhaaDoor
