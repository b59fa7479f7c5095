/- Layer 15 (phase): what Find and Run return, the package's and the document's; the document's Away: contracts. -/
import Derived.Test.YtifabfggjddfpaaDoorPhaseNum
import Derived.Test.YtifabfggjddfpaaDoorBaseFrom
namespace Go.Proofs.YtifabfggjddfpaaDoor
open Go.RowKit

theorem name_index (W : World) {i : Nat} (h : i < 4) : (Instr.index 37 (.agg #[.string (nameT 0), .string (nameT 1), .string (nameT 2), .string (nameT 3)]) (.int .i64 (i : Int))).run Tryd.prog W = .ok (.string (nameT i)) W := by
  obtain rfl | rfl | rfl | rfl : i = 0 ∨ i = 1 ∨ i = 2 ∨ i = 3 := by omega
  all_goals kernel_rfl
set_option maxHeartbeats 800000 in
theorem find_is (w : World) (hT : TabOk w) (s : ByteArray) {r : Int} (hr : findFrom s 4 0 = r) : Calls Tryd.prog 7 #[.string s] w fun x w' => x = .returned (.int .i64 r) ∧ w = w' := by
  have c0 := hT.name 0 (by omega)
  have c1 := hT.name 1 (by omega)
  have c2 := hT.name 2 (by omega)
  have c3 := hT.name 3 (by omega)
  have HI : Hid (∀ (W : World) (i : Nat), i < 4 → (Instr.index 37 (.agg #[.string (nameT 0), .string (nameT 1), .string (nameT 2), .string (nameT 3)]) (.int .i64 (i : Int))).run Tryd.prog W = .ok (.string (nameT i)) W) := fun W i h => name_index W h
  have HR := Lib.hid hr
  clear hr hT
  go_enter Tryd.func7, Tryd.ntmps7
  go_wp2_with fail
  clear c0 c1 c2 c3
  generalize Value.agg #[.string (nameT 0), .string (nameT 1), .string (nameT 2), .string (nameT 3)] = G at *
  go_loopw [6] (fun vi wr => ∃ (i : Nat), vi = .int .i64 i ∧ i ≤ 4 ∧ Hid (findFrom s (4 - i) i = r) ∧ w = wr) (fun vi _ => 4 - (RowKit.intOf vi).toNat)
  case atStart => exact ⟨0, rfl, by omega, HR.out, rfl⟩
  case round =>
    obtain ⟨i, rfl, hi, HF, rfl⟩ := hrel
    by_cases hin : i < 4
    · have hix := fun W => HI.out W i hin
      obtain ⟨x, hx⟩ : ∃ x, nameT i = x := ⟨_, rfl⟩
      rw [hx] at hix
      have HX := Lib.hid hx
      by_cases he : x = s
      · have z : (x.toList == s.toList) = true := text_eq (decide_eq_true he)
        have hr : r = (i : Int) := by
          have e := HF.out
          rw [show 4 - i = (4 - (i + 1)) + 1 by omega, findFrom_yes (by rw [HX.out, he])] at e
          exact e.symm
        subst hr
        clear he HF hx
        go_wp2
        go_ret
        exact ⟨rfl, rfl⟩
      · have z : (x.toList == s.toList) = false := text_eq (decide_eq_false he)
        have HF2 : Hid (findFrom s (4 - (i + 1)) (i + 1) = r) := by
          have e := HF.out
          rw [show 4 - i = (4 - (i + 1)) + 1 by omega, findFrom_no (by rw [HX.out]; exact he)] at e
          exact e
        clear he HF hx
        go_wp2
        go_roundw
        case rel => exact ⟨i + 1, by go_num, by omega, HF2.out, trivial⟩
        case measure => simp [RowKit.intOf]; omega
    · obtain rfl : i = 4 := by omega
      have hr : r = -1 := HF.out.symm
      subst hr
      go_wp2
      go_ret
      exact ⟨rfl, rfl⟩
set_option maxHeartbeats 800000 in
theorem rfind_is (w : World) (s : ByteArray) {r : Int} (hr : findFrom s 4 0 = r) : Calls Tryd.prog 8 #[.string s] w fun x w' => x = .returned (.int .i64 r) ∧ Below w.heap.size w w' := by
  have HN : Hid (∀ (W : World) (i : Nat), i < 4 → Calls Tryd.prog 13 #[.int .i64 (i : Int)] W fun x w' => x = .returned (.string (nameT i)) ∧ Below W.heap.size W w') := fun W i h => rname_is W (nameP_in h)
  have HR := Lib.hid hr
  clear hr
  go_enter Tryd.func8, Tryd.ntmps8
  go_wp2
  go_loopw [3] (fun vi wr => ∃ (i : Nat), vi = .int .i64 i ∧ i ≤ 4 ∧ Hid (findFrom s (4 - i) i = r) ∧ Hid (Below w.heap.size w wr)) (fun vi _ => 4 - (RowKit.intOf vi).toNat)
  case atStart => exact ⟨0, rfl, by omega, HR.out, Below.refl _ _⟩
  case round =>
    obtain ⟨i, rfl, hi, HF, HB⟩ := hrel
    by_cases hin : i < 4
    · have HN1 := Lib.hid fun W => HN.out W i hin
      obtain ⟨x, hx⟩ : ∃ x, nameT i = x := ⟨_, rfl⟩
      rw [hx] at HN1
      have HX := Lib.hid hx
      by_cases he : x = s
      · have z : (x.toList == s.toList) = true := text_eq (decide_eq_true he)
        have hr : r = (i : Int) := by
          have e := HF.out
          rw [show 4 - i = (4 - (i + 1)) + 1 by omega, findFrom_yes (by rw [HX.out, he])] at e
          exact e.symm
        subst hr
        clear he HF hx
        go_wp2_with fail
        refine (HN1.out _).mono ?_
        rintro e w1 ⟨rfl, b1⟩
        have B1 : Hid (Below w.heap.size w w1) := step_below HB.out b1
        clear b1
        go_wp2
        go_ret
        exact ⟨rfl, B1.out⟩
      · have z : (x.toList == s.toList) = false := text_eq (decide_eq_false he)
        have HF2 : Hid (findFrom s (4 - (i + 1)) (i + 1) = r) := by
          have e := HF.out
          rw [show 4 - i = (4 - (i + 1)) + 1 by omega, findFrom_no (by rw [HX.out]; exact he)] at e
          exact e
        clear he HF hx
        go_wp2_with fail
        refine (HN1.out _).mono ?_
        rintro e w1 ⟨rfl, b1⟩
        have B1 : Hid (Below w.heap.size w w1) := step_below HB.out b1
        clear b1
        go_wp2
        go_roundw
        case rel => exact ⟨i + 1, by go_num, by omega, HF2.out, B1.out⟩
        case measure => simp [RowKit.intOf]; omega
    · obtain rfl : i = 4 := by omega
      have hr : r = -1 := HF.out.symm
      subst hr
      go_wp2
      go_ret
      exact ⟨rfl, HB.out⟩
set_option maxHeartbeats 800000 in
theorem raway_is (w : World) {a b r : Int} (h : awayP a b = r) : Calls Tryd.prog 15 #[.int .i64 a, .int .i64 b] w fun x w' => x = .returned (.int .i64 r) ∧ w = w' := by
  by_cases h1 : a < 0
  · rw [awayP_no (by omega)] at h
    subst h
    go_enter Tryd.func15, Tryd.ntmps15
    go_wp2
    go_ret
    exact ⟨rfl, rfl⟩
  · by_cases h2 : 3 < a
    · rw [awayP_no (by omega)] at h
      subst h
      go_enter Tryd.func15, Tryd.ntmps15
      go_wp2
      go_ret
      exact ⟨rfl, rfl⟩
    · by_cases h5 : b < 0
      · rw [awayP_no (by omega)] at h
        subst h
        go_enter Tryd.func15, Tryd.ntmps15
        go_wp2
        go_ret
        exact ⟨rfl, rfl⟩
      · by_cases h6 : 3 < b
        · rw [awayP_no (by omega)] at h
          subst h
          go_enter Tryd.func15, Tryd.ntmps15
          go_wp2
          go_ret
          exact ⟨rfl, rfl⟩
        · rw [awayP_yes (by omega) (by omega)] at h
          have HR := Lib.hid h
          have HA : Hid (0 ≤ a ∧ a ≤ 3) := by show _ ∧ _; omega
          have HB : Hid (0 ≤ b ∧ b ≤ 3) := by show _ ∧ _; omega
          clear h
          go_enter Tryd.func15, Tryd.ntmps15
          go_wp2
          clear h1 h2 h5 h6
          go_loopw [0, 5] (fun va vn wr => ∃ (c n : Int), va = .int .i64 c ∧ vn = .int .i64 n ∧ Hid (0 ≤ c ∧ c ≤ 3 ∧ 0 ≤ n ∧ n ≤ 4 ∧ (b - c + 4) % 4 + n = r) ∧ w = wr) (fun va _ _ => ((b - RowKit.intOf va + 4) % 4).toNat)
          case atStart => exact ⟨a, 0, rfl, rfl, by have := HA.out; have := HB.out; have := HR.out; show _ ∧ _; omega, rfl⟩
          case round =>
            obtain ⟨c, n, rfl, rfl, HC, rfl⟩ := hrel
            by_cases he : c = b
            · subst he
              obtain rfl : n = r := by have := HC.out; have := HB.out; omega
              have z : (c != c) = false := by simp
              go_wp2
              go_ret
              exact ⟨rfl, rfl⟩
            · have z : (c != b) = true := by simpa using he
              obtain ⟨d, hd⟩ : ∃ d, (c + 1) % 4 = d := ⟨_, rfl⟩
              have HN : Hid (∀ W, Calls Tryd.prog 12 #[.int .i64 c, .int .i64 (c + 1)] W fun x w' => x = .returned (.tuple #[.int .i64 d, .int .i64 0]) ∧ W = w') := fun W => rnext_is W (by rw [nextP_yes (by have := HC.out; omega), hd])
              have HC2 : Hid (0 ≤ d ∧ d ≤ 3 ∧ 0 ≤ n + 1 ∧ n + 1 ≤ 4 ∧ (b - d + 4) % 4 + (n + 1) = r) := by
                have := HC.out; have := HB.out; have := HR.out; show _ ∧ _; omega
              have hm : ((b - d + 4) % 4).toNat < ((b - c + 4) % 4).toNat := by
                have := HC.out; have := HB.out; omega
              have hw : IntKind.i64.wrap (c + 1) = c + 1 := IntWalk.i64_in _ (by have := HC.out; omega)
              have hw2 : IntKind.i64.wrap (n + 1) = n + 1 := IntWalk.i64_in _ (by have := HC.out; omega)
              clear he hd HC
              go_wp2_with fail
              refine (HN.out _).mono ?_
              rintro e w1 ⟨rfl, rfl⟩
              go_wp2
              go_roundw
              case rel => exact ⟨d, n + 1, rfl, rfl, HC2.out, trivial⟩
              case measure => exact hm

set_option maxHeartbeats 800000 in
theorem run_is (w : World) (hT : TabOk w) {A : Option Addr} {n c : Nat} {l : List Int} (hl : IntsAt w A l) (hn : l.length = n) (hs : n ≤ 9223372036854775807) {p a b : Int} (hr : runP p l 0 = (a, b)) :
    Calls Tryd.prog 16 #[.int .i64 p, .slice A n c] w fun x w' => x = .returned (.tuple #[.int .i64 a, .int .i64 b]) ∧ w = w' := by
  have HL := Lib.hid hl
  have HN := Lib.hid hn
  have HR := Lib.hid hr
  have HX : Hid (∀ (p e a b : Int), nextP p e = (a, b) → Calls Tryd.prog 11 #[.int .i64 p, .int .i64 e] w fun x w' => x = .returned (.tuple #[.int .i64 a, .int .i64 b]) ∧ w = w') := fun p e a b h => next_is w hT h
  clear hl hn hr hT
  go_enter Tryd.func16, Tryd.ntmps16
  go_wp2
  go_loopw [0, 12] (fun vp vi wr => ∃ (i : Nat) (q : Int), vp = .int .i64 q ∧ vi = .int .i64 i ∧ i ≤ n ∧ Hid (runP q (l.drop i) i = (a, b)) ∧ w = wr) (fun _ vi _ => n - (RowKit.intOf vi).toNat)
  case atStart => exact ⟨0, p, rfl, rfl, by omega, HR.out, rfl⟩
  case round =>
    obtain ⟨i, q, rfl, rfl, hi, HQ, rfl⟩ := hrel
    by_cases hin : i < n
    · have hil : i < l.length := by have := HN.out; omega
      obtain ⟨b0, off, rfl, hc⟩ := HL.out.at_ hil
      obtain ⟨x, hx⟩ : ∃ x, l[i]'hil = x := ⟨_, rfl⟩
      rw [hx] at hc
      obtain ⟨u, v, huv⟩ : ∃ u v, nextP q x = (u, v) := ⟨_, _, rfl⟩
      have HN1 := Lib.hid (HX.out q x u v huv)
      have e := HQ.out
      rw [List.drop_eq_getElem_cons hil, hx] at e
      have hi1 : 0 ≤ (i : Int) ∧ (i : Int) < (n : Int) := by omega
      by_cases hv : v = 0
      · subst hv
        rw [runP_yes huv] at e
        have HQ2 : Hid (runP u (l.drop (i + 1)) ((i + 1 : Nat) : Int) = (a, b)) := by
          show _ = _
          rw [← e]; congr 1
        clear e hx huv HQ
        go_wp2_with fail
        refine HN1.out.mono ?_
        rintro e w1 ⟨rfl, rfl⟩
        go_wp2
        go_roundw
        case rel => exact ⟨i + 1, u, rfl, by go_num, by omega, HQ2.out, trivial⟩
        case measure => simp [RowKit.intOf]; omega
      · rw [runP_no huv hv] at e
        injection e with e1 e2
        subst e1 e2
        have z : (v != 0) = true := by simpa using hv
        clear hx huv HQ
        go_wp2_with fail
        refine HN1.out.mono ?_
        rintro e w1 ⟨rfl, rfl⟩
        go_wp2
        go_ret2
        exact ⟨rfl, rfl⟩
    · obtain rfl : i = n := by omega
      have e := HQ.out
      rw [List.drop_eq_nil_of_le (Nat.le_of_eq HN.out)] at e
      have e' : (q, (i : Int)) = (a, b) := e
      injection e' with e1 e2
      subst e1 e2
      clear e
      go_wp2
      go_ret2
      exact ⟨rfl, rfl⟩
set_option maxHeartbeats 800000 in
theorem rrun_is (w : World) {A : Option Addr} {n c : Nat} {l : List Int} (hl : IntsAt w A l) (hn : l.length = n) (hs : n ≤ 9223372036854775807) {p a b : Int} (hr : runP p l 0 = (a, b)) :
    Calls Tryd.prog 17 #[.int .i64 p, .slice A n c] w fun x w' => x = .returned (.tuple #[.int .i64 a, .int .i64 b]) ∧ w = w' := by
  have HL := Lib.hid hl
  have HN := Lib.hid hn
  have HR := Lib.hid hr
  have HX : Hid (∀ (p e a b : Int), nextP p e = (a, b) → Calls Tryd.prog 12 #[.int .i64 p, .int .i64 e] w fun x w' => x = .returned (.tuple #[.int .i64 a, .int .i64 b]) ∧ w = w') := fun p e a b h => rnext_is w h
  clear hl hn hr
  go_enter Tryd.func17, Tryd.ntmps17
  go_wp2
  go_loopw [0, 6] (fun vp vi wr => ∃ (i : Nat) (q : Int), vp = .int .i64 q ∧ vi = .int .i64 i ∧ i ≤ n ∧ Hid (runP q (l.drop i) i = (a, b)) ∧ w = wr) (fun _ vi _ => n - (RowKit.intOf vi).toNat)
  case atStart => exact ⟨0, p, rfl, rfl, by omega, HR.out, rfl⟩
  case round =>
    obtain ⟨i, q, rfl, rfl, hi, HQ, rfl⟩ := hrel
    by_cases hin : i < n
    · have hil : i < l.length := by have := HN.out; omega
      obtain ⟨b0, off, rfl, hc⟩ := HL.out.at_ hil
      obtain ⟨x, hx⟩ : ∃ x, l[i]'hil = x := ⟨_, rfl⟩
      rw [hx] at hc
      obtain ⟨u, v, huv⟩ : ∃ u v, nextP q x = (u, v) := ⟨_, _, rfl⟩
      have HN1 := Lib.hid (HX.out q x u v huv)
      have e := HQ.out
      rw [List.drop_eq_getElem_cons hil, hx] at e
      have hi1 : 0 ≤ (i : Int) ∧ (i : Int) < (n : Int) := by omega
      by_cases hv : v = 0
      · subst hv
        rw [runP_yes huv] at e
        have HQ2 : Hid (runP u (l.drop (i + 1)) ((i + 1 : Nat) : Int) = (a, b)) := by
          show _ = _
          rw [← e]; congr 1
        clear e hx huv HQ
        go_wp2_with fail
        refine HN1.out.mono ?_
        rintro e w1 ⟨rfl, rfl⟩
        go_wp2
        go_roundw
        case rel => exact ⟨i + 1, u, rfl, by go_num, by omega, HQ2.out, trivial⟩
        case measure => simp [RowKit.intOf]; omega
      · rw [runP_no huv hv] at e
        injection e with e1 e2
        subst e1 e2
        have z : (v != 0) = true := by simpa using hv
        clear hx huv HQ
        go_wp2_with fail
        refine HN1.out.mono ?_
        rintro e w1 ⟨rfl, rfl⟩
        go_wp2
        go_ret2
        exact ⟨rfl, rfl⟩
    · obtain rfl : i = n := by omega
      have e := HQ.out
      rw [List.drop_eq_nil_of_le (Nat.le_of_eq HN.out)] at e
      have e' : (q, (i : Int)) = (a, b) := e
      injection e' with e1 e2
      subst e1 e2
      clear e
      go_wp2
      go_ret2
      exact ⟨rfl, rfl⟩
end Go.Proofs.YtifabfggjddfpaaDoor
