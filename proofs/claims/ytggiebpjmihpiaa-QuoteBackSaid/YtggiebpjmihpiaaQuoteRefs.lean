/- Layer 12 (quote): what the document's own Read and Whole return: contracts. -/
import Derived.Test.YtggiebpjmihpiaaQuoteRead
namespace Go.Proofs.Ytggiebpjmihpiaa
open Go.RowKit

/-- Is a byte told here, as the document looks? -/
theorem fits_no {s r : ByteArray} {i n : Nat} (h : ¬ txt r <+: left s i) : ((s.extract i (i + n)).toList == r.toList) = false := by
  rw [ByteArray.toList_eq, ByteArray.toList_eq]
  refine beq_eq_false_iff_ne.2 fun e => h ?_
  have e' : txt (s.extract i (i + n)) = txt r := e
  rw [txt_extract, show i + n - i = n by omega] at e'
  rw [← e']
  exact List.take_prefix _ _
theorem fits_is {s r : ByteArray} {i n : Nat} (hn : r.size = n) (h : txt r <+: left s i) : ((s.extract i (i + n)).toList == r.toList) = true := by
  rw [ByteArray.toList_eq, ByteArray.toList_eq]
  refine beq_iff_eq.2 ?_
  show txt (s.extract i (i + n)) = txt r
  rw [txt_extract, show i + n - i = n by omega, ← hn, ← txt_len]
  exact (List.prefix_iff_eq_take.1 h).symm
/-- What the document has looked for, at a place: none of those yet, or the one. -/
def Sought (s : ByteArray) (i : Nat) (l : List UInt8) (c : Nat) (O : ByteArray) (j : Nat) : Prop :=
  (j = i ∧ O = mkT l ∧ ∀ b, b < c → ¬ part (UInt8.ofNat b) <+: left s i) ∨ ∃ x, part x <+: left s i ∧ j = i + (part x).length ∧ O = mkT (l ++ [x])
theorem sought_none {s : ByteArray} {i : Nat} (h : ∀ b, b < 256 → ¬ part (UInt8.ofNat b) <+: left s i) (c : UInt8) : ¬ part c <+: left s i := fun hc => h c.toNat c.toNat_lt (by rw [UInt8.ofNat_toNat]; exact hc)

set_option maxRecDepth 100000 in
set_option maxHeartbeats 2000000 in
theorem rread_is (w : World) (s : ByteArray) (hs : s.size ≤ 2000) {x : Int} (hx : -9223372036854775808 ≤ x ∧ x ≤ 9223372036854775807) {t : List UInt8} {p : Nat} {k : Bool} (hr : readV (txt s) x = (t, p, k)) : Calls Try.prog 7 #[.string s, .int .i64 x] w fun e w' => e = .returned (.tuple #[.string (mkT t), .int .i64 p, .bool k]) ∧ Below w.heap.size w w' := by
  obtain ⟨m, hm⟩ : ∃ m, s.size = m := ⟨_, rfl⟩
  have hml : (txt s).length = m := by rw [txt_len, hm]
  rw [hm] at hs
  by_cases h0 : x < 0
  · rw [read_out (by omega)] at hr
    injection hr with e1 hr
    injection hr with e2 e3
    subst e1 e2 e3
    have d0 : decide (x < 0) = true := decide_eq_true h0
    clear hml
    go_enter Try.func7, Try.ntmps7
    go_wp2
    go_ret3
    exact ⟨rfl, Below.refl _ _⟩
  · obtain ⟨a, rfl⟩ := Int.eq_ofNat_of_zero_le (show 0 ≤ x by omega)
    have d0 : decide ((a : Int) < 0) = false := decide_eq_false h0
    by_cases h1 : (m : Int) ≤ (a : Int)
    · rw [read_out (by rw [hml]; omega)] at hr
      injection hr with e1 hr
      injection hr with e2 e3
      subst e1 e2 e3
      have d1 : decide ((m : Int) ≤ (a : Int)) = true := decide_eq_true h1
      clear hml
      go_enter Try.func7, Try.ntmps7
      go_wp2
      go_ret3
      exact ⟨rfl, Below.refl _ _⟩
    · have d1 : decide ((m : Int) ≤ (a : Int)) = false := decide_eq_false h1
      have ham : a < m := by omega
      obtain ⟨b, hb⟩ : ∃ b, byteAt s a = b := ⟨_, rfl⟩
      have hnb : nth (txt s) ((a : Int)).toNat = b := by
        rw [Int.toNat_natCast, ← hb]
        have := nth_left s 0 a
        rw [left_zero, Nat.zero_add] at this
        exact this
      have hat : ∀ W, (Instr.index 9 (.string s) (.int .i64 (a : Int))).run Try.prog W = .ok (.int .u8 (b.toNat : Int)) W := fun W => by rw [← hb]; exact str_at W s (by omega)
      by_cases h2 : b = 34
      · subst h2
        have hat' : ∀ W, (Instr.index 9 (.string s) (.int .i64 (a : Int))).run Try.prog W = .ok (.int .u8 34) W := hat
        have hr' : fin [] (a + 1) (qread (left s (a + 1))) = (t, p, k) := by
          rw [← hr]
          unfold readV
          rw [if_pos ⟨by omega, by rw [hml]; omega, hnb⟩, Int.toNat_natCast]
        have HV := Lib.hid hr'
        have hw : IntKind.i64.wrap ((a : Int) + 1) = ((a + 1 : Nat) : Int) := by rw [IntKind.wrap_i64]; omega
        obtain ⟨a1, ha1⟩ : ∃ a1, a + 1 = a1 := ⟨_, rfl⟩
        rw [ha1] at hw HV
        have ham1 : a1 ≤ m := by omega
        clear hr hr' hnb hml hb hat ha1
        go_enter Try.func7, Try.ntmps7
        go_wp2_with fail
        clear hx hat' hw d0 d1
        have HM := Lib.hid hm
        go_loopw [7, 8] (fun vo vi wr => ∃ (i : Nat) (O : ByteArray) (l : List UInt8), vo = .string O ∧ vi = .int .i64 i ∧ i ≤ m ∧ l.length ≤ i ∧ Hid (O = mkT l) ∧ Hid (fin l i (qread (left s i)) = (t, p, k)) ∧ Below w.heap.size w wr) (fun _ vi _ => m - (RowKit.intOf vi).toNat)
        case atStart => exact ⟨a1, _, [], rfl, rfl, ham1, Nat.zero_le _, rfl, HV, Below.refl _ _⟩
        case round =>
          obtain ⟨i, O, l, rfl, rfl, hi, hl, HO, HF, hB⟩ := hrel
          by_cases him : i < m
          · obtain ⟨b, hb⟩ : ∃ b, byteAt s i = b := ⟨_, rfl⟩
            have hnb : nth (left s i) 0 = b := by rw [nth_left]; exact hb
            have hat : ∀ W, (Instr.index 9 (.string s) (.int .i64 (i : Int))).run Try.prog W = .ok (.int .u8 (b.toNat : Int)) W := fun W => by rw [← hb]; exact str_at W s (by omega)
            by_cases h34 : b = 34
            · subst h34
              have hat' : ∀ W, (Instr.index 9 (.string s) (.int .i64 (i : Int))).run Try.prog W = .ok (.int .u8 34) W := hat
              have hv := HF.out
              rw [qread_mark hnb] at hv
              injection hv with e1 hv
              injection hv with e2 e3
              dsimp only at e1 e2
              rw [List.append_nil] at e1
              subst e1 e2 e3
              have hw : IntKind.i64.wrap ((i : Int) + 1) = ((i + 1 : Nat) : Int) := by rw [IntKind.wrap_i64]; omega
              have HBW := Lib.hid hB
              clear hB hnb hat hb
              go_wp2
              go_ret3
              exact ⟨by rw [HO.out]; rfl, HBW.out⟩
            · have d2 : (b.toNat : Int) ≠ 34 := fun e => h34 (UInt8.toNat_inj.1 (by show b.toNat = 34; omega))
              have HNB := Lib.hid (show nth (left s i) 0 ≠ 34 by rw [hnb]; exact h34)
              obtain ⟨n, hn⟩ : ∃ n, b.toNat = n := ⟨_, rfl⟩
              rw [hn] at hat d2
              have d3 : ((n : Int) != 34) = true := bne_iff_ne.2 d2
              have d4 : ((n : Int) == 34) = false := beq_eq_false_iff_ne.2 d2
              have HBW := Lib.hid hB
              clear hB hnb hb hn h34
              go_wp2_with fail
              clear hat d2 d3 d4
              go_loopw [7, 8, 10] (fun vo vi vc wv => ∃ (c j : Nat) (U : ByteArray), vo = .string U ∧ vi = .int .i64 j ∧ vc = .int .i64 c ∧ c ≤ 256 ∧ j ≤ m ∧ Hid (Sought s i l c U j) ∧ Below w.heap.size w wv) (fun _ _ vc _ => 256 - (RowKit.intOf vc).toNat)
              case atStart => exact ⟨0, i, O, rfl, rfl, rfl, by omega, by omega, .inl ⟨rfl, HO.out, fun b hb => absurd hb (by omega)⟩, HBW.out⟩
              case round =>
                obtain ⟨c, j, U, rfl, rfl, rfl, hc, hj, HS, hB2⟩ := hrel
                have HB2 := Lib.hid hB2
                clear hB2
                by_cases hgo : c < 256 ∧ j = i
                · obtain ⟨hc1, hji⟩ := hgo
                  subst hji
                  have hopen : U = mkT l ∧ ∀ b, b < c → ¬ part (UInt8.ofNat b) <+: left s j := by
                    rcases HS.out with ⟨-, h1, h2⟩ | ⟨x, hx, hj', _⟩
                    · exact ⟨h1, h2⟩
                    · have := (part_ne x).1
                      omega
                  obtain ⟨hU, hno⟩ := hopen
                  obtain ⟨x, hxe⟩ : ∃ x, UInt8.ofNat c = x := ⟨_, rfl⟩
                  have hxc : x.toNat = c := by rw [← hxe, UInt8.toNat_ofNat']; omega
                  obtain ⟨r, hr⟩ : ∃ r, part x = r := ⟨_, rfl⟩
                  have hr1 := part_ne x
                  rw [hr] at hr1
                  have hP : ∀ W : World, Calls Try.prog 14 #[.int .u8 (c : Int)] W fun e w' => e = .returned (.string (mkT r)) ∧ Below W.heap.size W w' := fun W => by
                    have := one_is W x hr
                    rw [hxc] at this
                    exact this
                  obtain ⟨n, hn⟩ : ∃ n, r.length = n := ⟨_, rfl⟩
                  obtain ⟨X, hX⟩ : ∃ X, mkT r = X := ⟨_, rfl⟩
                  have hXn : X.size = n := by rw [← hX, mk_size r, hn]
                  have hXr : txt X = r := by rw [← hX]
                  rw [hX] at hP
                  have HP := Lib.hid hP
                  have hw8 : IntKind.u8.wrap (c : Int) = (c : Int) := by rw [IntKind.wrap_u8']; omega
                  have hw1 : IntKind.i64.wrap ((c : Int) + 1) = ((c + 1 : Nat) : Int) := by rw [IntKind.wrap_i64]; omega
                  have hwd : IntKind.i64.wrap ((m : Int) - (j : Int)) = ((m - j : Nat) : Int) := by rw [IntKind.wrap_i64]; omega
                  have hwn : IntKind.i64.wrap ((j : Int) + (n : Int)) = ((j + n : Nat) : Int) := by rw [IntKind.wrap_i64]; omega
                  obtain ⟨d, hd⟩ : ∃ d, m - j = d := ⟨_, rfl⟩
                  obtain ⟨j2, hj2⟩ : ∃ j2, j + n = j2 := ⟨_, rfl⟩
                  rw [hd] at hwd
                  rw [hj2] at hwn
                  have e0 : ((j : Int) == (j : Int)) = true := beq_self_eq_true _
                  have HU := Lib.hid hU
                  have HNO := Lib.hid hno
                  have HXE := Lib.hid hxe
                  have HR := Lib.hid hr
                  have HN := Lib.hid hn
                  rw [hn] at hr1
                  by_cases hfit : part x <+: left s j
                  · have hle := hfit.length_le
                    rw [hr, hn, List.length_drop, txt_len, HM.out] at hle
                    have d1 : (n : Int) ≤ (d : Int) := by omega
                    have d1' : decide ((n : Int) ≤ (d : Int)) = true := decide_eq_true d1
                    obtain ⟨E, hE⟩ : ∃ E, s.extract j j2 = E := ⟨_, rfl⟩
                    have hsl : ∀ W, (Instr.slice 9 (.string s) (some (.int .i64 (j : Int))) (some (.int .i64 (j2 : Int))) none).run Try.prog W = .ok (.string E) W := fun W => by rw [← hE]; exact str_mid W s (by omega) (by rw [HM.out]; omega)
                    have heq : (E.toList == X.toList) = true := by
                      rw [← hE, ← hj2]
                      exact fits_is hXn (by rw [hXr, ← hr]; exact hfit)
                    have HFIT := Lib.hid hfit
                    have hj2m : j2 ≤ m := by omega
                    have hnp : 1 ≤ n := hr1.1
                    have HJ2 := Lib.hid hj2
                    have hUs : U.size = l.length := by rw [hU, mk_size l]
                    have hUX : ∀ W, (Op.stringOp .add U (mkT [x])).run Try.prog W = .ok (.string (U ++ mkT [x])) W := fun W => str_add W (by rw [mk_size [x], hUs, List.length_singleton]; omega)
                    have hUV : U ++ mkT [x] = mkT (l ++ [x]) := by rw [hU, mk_append]
                    have hcv := fun W : World => conv_new W [x] 1 #[.int .u8 (c : Int)] rfl (by rw [← hxc]; rfl)
                    rw [hUV] at hUX
                    have HUV := Lib.hid hUV
                    clear hfit hr hn hxe hU hno hP hX hXr hE hxc hr1 hle hd hj2 hUs hUV
                    go_wp2_with fail
                    refine (HP.out _).mono ?_
                    rintro e w2 ⟨rfl, hb2⟩
                    have HB3 := Lib.hid (HB2.out.trans (hb2.mono HB2.out.size))
                    have hcv2 := hcv w2
                    clear hb2 hcv
                    go_wp2
                    go_roundw
                    case rel => exact ⟨c + 1, j2, _, rfl, rfl, by go_num, by omega, hj2m, .inr ⟨x, HFIT.out, by rw [HR.out, HN.out, HJ2.out], rfl⟩, HB3.out.alloc HB3.out.size _⟩
                    case measure => simp [RowKit.intOf]; omega
                  · have HFIT := Lib.hid hfit
                    have hmore : ∀ b, b < c + 1 → ¬ part (UInt8.ofNat b) <+: left s j := fun b hb => by
                      by_cases hbc : b = c
                      · rw [hbc, HXE.out]; exact HFIT.out
                      · exact HNO.out b (by omega)
                    have HMORE := Lib.hid hmore
                    by_cases hnd : n ≤ d
                    · have d1 : (n : Int) ≤ (d : Int) := by omega
                      have d1' : decide ((n : Int) ≤ (d : Int)) = true := decide_eq_true d1
                      obtain ⟨E, hE⟩ : ∃ E, s.extract j j2 = E := ⟨_, rfl⟩
                      have hsl : ∀ W, (Instr.slice 9 (.string s) (some (.int .i64 (j : Int))) (some (.int .i64 (j2 : Int))) none).run Try.prog W = .ok (.string E) W := fun W => by rw [← hE]; exact str_mid W s (by omega) (by rw [HM.out]; omega)
                      have heq : (E.toList == X.toList) = false := by
                        rw [← hE, ← hj2]
                        exact fits_no (by rw [hXr, ← hr]; exact hfit)
                      clear hfit hr hn hxe hU hno hP hX hXr hE hxc hr1 hd hj2 hmore hnd
                      go_wp2_with fail
                      refine (HP.out _).mono ?_
                      rintro e w2 ⟨rfl, hb2⟩
                      have HB3 := Lib.hid (HB2.out.trans (hb2.mono HB2.out.size))
                      clear hb2
                      go_wp2
                      go_roundw
                      case rel => exact ⟨c + 1, j, _, rfl, rfl, by go_num, by omega, hj, .inl ⟨rfl, HU.out, HMORE.out⟩, HB3.out⟩
                      case measure => simp [RowKit.intOf]; omega
                    · have d1 : ¬ (n : Int) ≤ (d : Int) := by omega
                      have d1' : decide ((n : Int) ≤ (d : Int)) = false := decide_eq_false d1
                      clear hfit hr hn hxe hU hno hP hX hXr hxc hr1 hd hj2 hmore hnd
                      go_wp2_with fail
                      refine (HP.out _).mono ?_
                      rintro e w2 ⟨rfl, hb2⟩
                      have HB3 := Lib.hid (HB2.out.trans (hb2.mono HB2.out.size))
                      clear hb2
                      go_wp2
                      go_roundw
                      case rel => exact ⟨c + 1, j, _, rfl, rfl, by go_num, by omega, hj, .inl ⟨rfl, HU.out, HMORE.out⟩, HB3.out⟩
                      case measure => simp [RowKit.intOf]; omega
                · rcases HS.out with ⟨h1, h2, h3⟩ | ⟨x, hx, hjx, hU⟩
                  · subst h1
                    obtain rfl : c = 256 := by omega
                    have hv := HF.out
                    rw [qread_none HNB.out (sought_none h3)] at hv
                    injection hv with e1 hv
                    injection hv with e2 e3
                    subst e1 e2 e3
                    have e0 : ((j : Int) == (j : Int)) = true := beq_self_eq_true _
                    clear h2 h3 hgo
                    go_wp2
                    go_ret3
                    exact ⟨rfl, HB2.out⟩
                  · have hx1 := (part_ne x).1
                    have hne : j ≠ i := by omega
                    have e0 : ((j : Int) == (i : Int)) = false := beq_eq_false_iff_ne.2 (by omega)
                    have HX := Lib.hid hx
                    have HJX := Lib.hid hjx
                    have HU := Lib.hid hU
                    have hv : fin (l ++ [x]) j (qread (left s j)) = (t, p, k) := by
                      rw [← HF.out, qread_step hx, fin_step, List.drop_drop, hjx]
                    have HV2 := Lib.hid hv
                    have hlj : (l ++ [x]).length ≤ j := by rw [List.length_append, List.length_singleton]; omega
                    have hij : i < j := by omega
                    clear hx hjx hU hv hgo hne hx1
                    by_cases hc6 : c < 256
                    · have d1 : decide ((c : Int) < 256) = true := decide_eq_true (by omega)
                      go_wp2
                      go_roundw
                      case rel => exact ⟨j, U, l ++ [x], rfl, rfl, hj, hlj, HU.out, HV2.out, HB2.out⟩
                      case measure => simp [RowKit.intOf]; omega
                    · obtain rfl : c = 256 := by omega
                      go_wp2
                      go_roundw
                      case rel => exact ⟨j, U, l ++ [x], rfl, rfl, hj, hlj, HU.out, HV2.out, HB2.out⟩
                      case measure => simp [RowKit.intOf]; omega
          · obtain rfl : i = m := by omega
            have hv := HF.out
            rw [left_end (Nat.le_of_eq HM.out), qread_none (by decide) (fun c => part_nil)] at hv
            injection hv with e1 hv
            injection hv with e2 e3
            subst e1 e2 e3
            have HBW := Lib.hid hB
            clear hB
            go_wp2
            go_ret3
            exact ⟨rfl, HBW.out⟩
      · have d2 : (b.toNat : Int) ≠ 34 := fun e => h2 (UInt8.toNat_inj.1 (by show b.toNat = 34; omega))
        rw [read_out (by rw [hnb]; exact fun h => h2 h.2.2)] at hr
        injection hr with e1 hr
        injection hr with e2 e3
        subst e1 e2 e3
        obtain ⟨n, hn⟩ : ∃ n, b.toNat = n := ⟨_, rfl⟩
        rw [hn] at hat d2
        have d3 : ((n : Int) != 34) = true := bne_iff_ne.2 d2
        have d4 : ((n : Int) == 34) = false := beq_eq_false_iff_ne.2 d2
        clear hml hnb hb hn
        go_enter Try.func7, Try.ntmps7
        go_wp2
        go_ret3
        exact ⟨rfl, Below.refl _ _⟩

theorem rwhole_is (w : World) (s : ByteArray) (hs : s.size ≤ 2000) {t : List UInt8} {k : Bool} (hw : wholeV (txt s) = (t, k)) : Calls Try.prog 9 #[.string s] w fun e w' => e = .returned (.tuple #[.string (mkT t), .bool k]) ∧ Below w.heap.size w w' := by
  obtain ⟨t', p, y, hr⟩ : ∃ t' p y, readV (txt s) 0 = (t', p, y) := ⟨_, _, _, rfl⟩
  have HR := Lib.hid (rread_is w s hs (x := 0) (by omega) hr)
  have hp := read_most hr
  rw [txt_len] at hp
  cases y with
  | false =>
    rw [whole_no hr] at hw
    injection hw with e1 e2
    subst e1 e2
    clear hr hp
    go_enter Try.func9, Try.ntmps9
    go_wp2_with fail
    refine HR.out.mono ?_
    rintro e w2 ⟨rfl, hb⟩
    go_wp2
    go_ret2
    exact ⟨rfl, hb⟩
  | true =>
    rw [whole_yes hr, txt_len] at hw
    obtain ⟨m, hm⟩ : ∃ m, s.size = m := ⟨_, rfl⟩
    rw [hm] at hw hp
    clear hr
    by_cases hpm : p = m
    · subst hpm
      rw [if_pos rfl] at hw
      injection hw with e1 e2
      subst e1 e2
      have d1 : ((p : Int) != (p : Int)) = false := by simp
      go_enter Try.func9, Try.ntmps9
      go_wp2_with fail
      refine HR.out.mono ?_
      rintro e w2 ⟨rfl, hb⟩
      go_wp2
      go_ret2
      exact ⟨rfl, hb⟩
    · rw [if_neg hpm] at hw
      injection hw with e1 e2
      subst e1 e2
      have hne : ¬ (p : Int) = (m : Int) := by omega
      have d1 : ((p : Int) != (m : Int)) = true := bne_iff_ne.2 hne
      have d2 : ((p : Int) == (m : Int)) = false := beq_eq_false_iff_ne.2 hne
      clear hp hpm
      go_enter Try.func9, Try.ntmps9
      go_wp2_with fail
      refine HR.out.mono ?_
      rintro e w2 ⟨rfl, hb⟩
      go_wp2
      go_ret2
      exact ⟨rfl, hb⟩

/-! ### the chapter's example -/
theorem text_ten : textL [10] = [34, 92, 120, 48, 97, 34] := by decide
theorem whole_ten : wholeV [34, 92, 120, 48, 97, 34] = ([10], true) := by rw [← text_ten]; exact whole_told [10]
theorem read_a : readV [34, 97] 0 = ([], 0, false) := by
  unfold readV
  rw [if_pos ⟨by decide, by decide, by decide⟩]
  have h : qread ([34, 97].drop ((0 : Int).toNat + 1)) = none := by
    show qread [97] = none
    rw [qread_step (c := 97) ⟨[], by decide⟩, show ([97] : List UInt8).drop (part 97).length = [] by decide, qread_none (by decide) (fun c => part_nil)]
    rfl
  rw [h]
  rfl
theorem whole_a : wholeV [34, 97] = ([], false) := whole_no read_a
def TrueBelow (w : World) (e : Ending) (w' : World) : Prop := e = .returned (.bool true) ∧ Below w.heap.size w w'
theorem works_is (w : World) : Calls Try.prog 5 #[] w (TrueBelow w) := by
  have H1 := Lib.hid (text_is w ⟨#[10]⟩ (by decide) (S := ⟨#[34, 92, 120, 48, 97, 34]⟩) (by rw [show txt ⟨#[10]⟩ = [10] from rfl, text_ten]))
  have H2 := Lib.hid fun W => whole_is W ⟨#[34, 92, 120, 48, 97, 34]⟩ (by decide) whole_ten
  have H3 := Lib.hid fun W => whole_is W ⟨#[34, 97]⟩ (by decide) whole_a
  go_enter Try.func5, Try.ntmps5
  go_wp2_with fail
  refine H1.out.mono ?_
  rintro e w1 ⟨rfl, b1⟩
  go_wp2_with fail
  refine (H2.out _).mono ?_
  rintro e w2 ⟨rfl, b2⟩
  go_wp2_with fail
  refine (H3.out _).mono ?_
  rintro e w3 ⟨rfl, b3⟩
  have hb : Below w.heap.size w w3 := (b1.trans (b2.mono b1.size)).trans (b3.mono (Nat.le_trans b1.size b2.size))
  clear b1 b2 b3
  go_wp2
  go_ret
  exact ⟨rfl, hb⟩
end Go.Proofs.Ytggiebpjmihpiaa
