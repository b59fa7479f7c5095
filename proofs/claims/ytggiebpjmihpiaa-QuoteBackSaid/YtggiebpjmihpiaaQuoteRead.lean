/- Layer 12 (quote): what Read and Whole return: contracts. -/
import Derived.Test.YtggiebpjmihpiaaQuoteTake
import Derived.WalkMore
namespace Go.Proofs.Ytggiebpjmihpiaa
open Go.RowKit

theorem read_out {l : List UInt8} {at_ : Int} (h : ¬ (0 ≤ at_ ∧ at_ < l.length ∧ nth l at_.toNat = 34)) : readV l at_ = ([], 0, false) := by
  unfold readV
  rw [if_neg h]

/-- How far the reader in block q came. -/
def atOf (w : World) (q : Nat) : Nat := match w.cell? ⟨q, 1, none⟩ with
  | some (.int _ z) => z.toNat
  | _ => 0
theorem RAt.at_ {w : World} {q : Nat} {s : ByteArray} {a : Nat} {l : List UInt8} (h : RAt w q s a l) : atOf w q = a := by
  obtain ⟨v, h1, _⟩ := h
  have := h1.cell (i := 1) (by omega)
  unfold atOf
  rw [this]
  rfl
theorem RAt.start (w : World) (s : ByteArray) (a : Nat) : RAt (w.alloc (.cells #[.string s, .int .i64 (a : Int), .slice none 0 0] 32)) w.heap.size s a [] :=
  ⟨_, World.rowIs_alloc w _ _ _ fun i hi => by
    match i, hi with
    | 0, _ => rfl
    | 1, _ => rfl
    | 2, _ => rfl, World.ownsRow_nil _ _ _ _⟩

set_option maxHeartbeats 1000000 in
theorem read_is (w : World) (s : ByteArray) (hs : s.size ≤ 2000) {x : Int} (hx : -9223372036854775808 ≤ x ∧ x ≤ 9223372036854775807) {t : List UInt8} {p : Nat} {k : Bool} (hr : readV (txt s) x = (t, p, k)) : Calls Try.prog 6 #[.string s, .int .i64 x] w fun e w' => e = .returned (.tuple #[.string (mkT t), .int .i64 p, .bool k]) ∧ Below w.heap.size w w' := by
  obtain ⟨m, hm⟩ : ∃ m, s.size = m := ⟨_, rfl⟩
  have hml : (txt s).length = m := by rw [txt_len, hm]
  rw [hm] at hs
  by_cases h0 : x < 0
  · rw [read_out (by omega)] at hr
    injection hr with e1 hr
    injection hr with e2 e3
    subst e1 e2 e3
    have d0 : decide (x < 0) = true := decide_eq_true h0
    clear hml
    go_enter Try.func6, Try.ntmps6
    go_wp2
    go_ret3
    exact ⟨rfl, Below.refl _ _⟩
  · obtain ⟨a, rfl⟩ := Int.eq_ofNat_of_zero_le (show 0 ≤ x by omega)
    have d0 : decide ((a : Int) < 0) = false := decide_eq_false h0
    by_cases h1 : (m : Int) ≤ (a : Int)
    · rw [read_out (by rw [hml]; omega)] at hr
      injection hr with e1 hr
      injection hr with e2 e3
      subst e1 e2 e3
      have d1 : decide ((m : Int) ≤ (a : Int)) = true := decide_eq_true h1
      clear hml
      go_enter Try.func6, Try.ntmps6
      go_wp2
      go_ret3
      exact ⟨rfl, Below.refl _ _⟩
    · have d1 : decide ((m : Int) ≤ (a : Int)) = false := decide_eq_false h1
      have ham : a < m := by omega
      obtain ⟨b, hb⟩ : ∃ b, byteAt s a = b := ⟨_, rfl⟩
      have hnb : nth (txt s) ((a : Int)).toNat = b := by
        rw [Int.toNat_natCast, ← hb]
        have := nth_left s 0 a
        rw [left_zero, Nat.zero_add] at this
        exact this
      have hat : ∀ W, (Instr.index 9 (.string s) (.int .i64 (a : Int))).run Try.prog W = .ok (.int .u8 (b.toNat : Int)) W := fun W => by rw [← hb]; exact str_at W s (by omega)
      by_cases h2 : b = 34
      · subst h2
        have hat' : ∀ W, (Instr.index 9 (.string s) (.int .i64 (a : Int))).run Try.prog W = .ok (.int .u8 34) W := hat
        have hr' : fin [] (a + 1) (qread (left s (a + 1))) = (t, p, k) := by
          rw [← hr]
          unfold readV
          rw [if_pos ⟨by omega, by rw [hml]; omega, hnb⟩, Int.toNat_natCast]
        have HV := Lib.hid hr'
        have hw : IntKind.i64.wrap ((a : Int) + 1) = ((a + 1 : Nat) : Int) := by rw [IntKind.wrap_i64]; omega
        obtain ⟨a1, ha1⟩ : ∃ a1, a + 1 = a1 := ⟨_, rfl⟩
        rw [ha1] at hw HV
        have ham1 : a1 ≤ m := by omega
        clear hr hr' hnb hml hb hat ha1
        go_enter Try.func6, Try.ntmps6
        go_wp2_with fail
        have HR0 := Lib.hid (RAt.start w s a1)
        have HB0 := Lib.hid ((Below.refl w.heap.size w).alloc (Nat.le_refl _) (.cells #[.string s, .int .i64 a1, .slice none 0 0] 32))
        have HQ := Lib.hid (Nat.le_refl w.heap.size)
        obtain ⟨q, hq⟩ : ∃ q, w.heap.size = q := ⟨_, rfl⟩
        rw [hq] at HR0 HB0 ⊢
        have HQE := Lib.hid hq
        clear hq HQ
        generalize w.alloc (.cells #[.string s, .int .i64 a1, .slice none 0 0] 32) = w0 at HR0 HB0 ⊢
        clear hx hat' hw d0 d1
        have HM := Lib.hid hm
        clear hm
        go_loopw [26] (fun _ wr => ∃ (c : Nat) (l : List UInt8), RAt wr q s c l ∧ c ≤ m ∧ l.length ≤ c ∧ Hid (fin l c (qread (left s c)) = (t, p, k)) ∧ Below q w wr) (fun _ wr => m - atOf wr q)
        case atStart => exact ⟨a1, [], HR0.out, ham1, Nat.zero_le _, HV, HB0.out⟩
        case round =>
          obtain ⟨c, l, hR, hc, hl, HF, hB⟩ := hrel
          have HS := Lib.hid (step_is wr hR (by rw [HM.out]; exact hc) (by rw [HM.out]; omega) (by omega))
          have HC := Lib.hid hR.at_
          have HBR := Lib.hid hB
          clear hR hB
          go_wp2_with fail
          refine HS.out.mono ?_
          rintro e w2 ⟨y, rfl, hb2, hy, hn⟩
          cases y with
          | true =>
            obtain ⟨x, hx, hr2⟩ := hy rfl
            have HX := Lib.hid hx
            have HR2 := Lib.hid hr2
            have HB2 := Lib.hid (HBR.out.trans hb2)
            clear hx hr2 hb2 hy hn
            go_wp2
            go_roundw
            case rel =>
              have h1 := HX.out.length_le
              have h2 := (part_ne x).1
              have h3 := HM.out
              rw [List.length_drop, txt_len] at h1
              refine ⟨c + (part x).length, l ++ [x], HR2.out, by omega, by rw [List.length_append, List.length_singleton]; omega, ?_, HB2.out⟩
              show _ = _
              rw [← HF.out, qread_step HX.out, fin_step, List.drop_drop]
            case measure =>
              have h1 := HX.out.length_le
              have h2 := (part_ne x).1
              have h3 := HM.out
              rw [List.length_drop, txt_len] at h1
              rw [HC.out, HR2.out.at_]
              omega
          | false =>
            obtain ⟨hno, hr2⟩ := hn rfl
            have HNO := Lib.hid hno
            have HR2 := Lib.hid hr2
            have HB2 := Lib.hid (HBR.out.trans hb2)
            obtain ⟨b, hb⟩ : ∃ b, nth (left s c) 0 = b := ⟨_, rfl⟩
            obtain ⟨v, hrow, hown⟩ := hr2
            have HA := Lib.hid (ahead_is w2 hrow (by rw [HM.out]; exact hc) (by rw [HM.out]; omega) (k := 0) (by omega) (z := 0) rfl hb)
            have HBB := Lib.hid hb
            clear hno hb2 hy hn hb
            by_cases h34 : b = 34
            · subst h34
              have hv := HF.out
              rw [qread_mark HBB.out] at hv
              injection hv with e1 hv
              injection hv with e2 e3
              dsimp only at e1 e2
              rw [List.append_nil] at e1
              subst e1 e2 e3
              have hcv : ∀ n, (convert 30 9 v).run Try.prog (w2.drewN n) = .ok (.string (mkT l)) (w2.drewN n) := fun n => conv_own (w := w2.drewN n) rfl hown
              have c1 : ∀ n, (w2.drewN n).cell? ⟨q, 1, none⟩ = some (.int .i64 c) := fun n => World.rowIs.cell (row_drewN hrow n) (i := 1) (by omega)
              have c2 : ∀ n, (w2.drewN n).cell? ⟨q, 2, none⟩ = some v := fun n => World.rowIs.cell (row_drewN hrow n) (i := 2) (by omega)
              have hw : IntKind.i64.wrap ((c : Int) + 1) = ((c + 1 : Nat) : Int) := by rw [IntKind.wrap_i64]; omega
              clear hrow hown
              go_wp2_with fail
              refine HA.out.mono ?_
              rintro e w3 ⟨rfl, n, rfl⟩
              have c1n := c1 n
              have c2n := c2 n
              have hcn := hcv n
              have hcm : ∀ j, (convert 30 9 v).run Try.prog ((w2.drewN n).drewN j) = .ok (.string (mkT l)) ((w2.drewN n).drewN j) := fun j => by rw [World.drewN_drewN]; exact hcv _
              go_wp2_with fail
              go_quiet (fail)
              go_wp2
              go_ret3
              exact ⟨rfl, by rw [HQE.out]; exact below_drewN (below_drewN HB2.out n) nq⟩
            · have hv := HF.out
              rw [qread_none (by rw [HBB.out]; exact h34) HNO.out] at hv
              injection hv with e1 hv
              injection hv with e2 e3
              subst e1 e2 e3
              have d2 : (b.toNat : Int) ≠ 34 := fun e => h34 (UInt8.toNat_inj.1 (by show b.toNat = 34; omega))
              obtain ⟨n, hn⟩ : ∃ n, b.toNat = n := ⟨_, rfl⟩
              rw [hn] at HA d2
              have d3 : ((n : Int) != 34) = true := bne_iff_ne.2 d2
              have d4 : ((n : Int) == 34) = false := beq_eq_false_iff_ne.2 d2
              clear hrow hown hn
              go_wp2_with fail
              refine HA.out.mono ?_
              rintro e w3 ⟨rfl, n, rfl⟩
              go_wp2
              go_ret3
              exact ⟨rfl, by rw [HQE.out]; exact below_drewN HB2.out n⟩
      · have d2 : (b.toNat : Int) ≠ 34 := fun e => h2 (UInt8.toNat_inj.1 (by show b.toNat = 34; omega))
        rw [read_out (by rw [hnb]; exact fun h => h2 h.2.2)] at hr
        injection hr with e1 hr
        injection hr with e2 e3
        subst e1 e2 e3
        obtain ⟨n, hn⟩ : ∃ n, b.toNat = n := ⟨_, rfl⟩
        rw [hn] at hat d2
        have d3 : ((n : Int) != 34) = true := bne_iff_ne.2 d2
        have d4 : ((n : Int) == 34) = false := beq_eq_false_iff_ne.2 d2
        clear hml hnb hb hn
        go_enter Try.func6, Try.ntmps6
        go_wp2
        go_ret3
        exact ⟨rfl, Below.refl _ _⟩

theorem whole_no {l t : List UInt8} {p : Nat} (h : readV l 0 = (t, p, false)) : wholeV l = ([], false) := by
  unfold wholeV
  rw [h]
  exact if_neg fun e => by cases e.1
theorem whole_yes {l t : List UInt8} {p : Nat} (h : readV l 0 = (t, p, true)) : wholeV l = if p = l.length then (t, true) else ([], false) := by
  unfold wholeV
  rw [h]
  by_cases e : p = l.length
  · rw [if_pos ⟨rfl, e⟩, if_pos e]
  · rw [if_neg fun h => e h.2, if_neg e]
theorem whole_is (w : World) (s : ByteArray) (hs : s.size ≤ 2000) {t : List UInt8} {k : Bool} (hw : wholeV (txt s) = (t, k)) : Calls Try.prog 8 #[.string s] w fun e w' => e = .returned (.tuple #[.string (mkT t), .bool k]) ∧ Below w.heap.size w w' := by
  obtain ⟨t', p, y, hr⟩ : ∃ t' p y, readV (txt s) 0 = (t', p, y) := ⟨_, _, _, rfl⟩
  have HR := Lib.hid (read_is w s hs (x := 0) (by omega) hr)
  have hp := read_most hr
  rw [txt_len] at hp
  cases y with
  | false =>
    rw [whole_no hr] at hw
    injection hw with e1 e2
    subst e1 e2
    clear hr hp
    go_enter Try.func8, Try.ntmps8
    go_wp2_with fail
    refine HR.out.mono ?_
    rintro e w2 ⟨rfl, hb⟩
    go_wp2
    go_ret2
    exact ⟨rfl, hb⟩
  | true =>
    rw [whole_yes hr, txt_len] at hw
    obtain ⟨m, hm⟩ : ∃ m, s.size = m := ⟨_, rfl⟩
    rw [hm] at hw hp
    clear hr
    by_cases hpm : p = m
    · subst hpm
      rw [if_pos rfl] at hw
      injection hw with e1 e2
      subst e1 e2
      have d1 : decide ((p : Int) < (p : Int)) = false := decide_eq_false (by omega)
      go_enter Try.func8, Try.ntmps8
      go_wp2_with fail
      refine HR.out.mono ?_
      rintro e w2 ⟨rfl, hb⟩
      go_wp2
      go_ret2
      exact ⟨rfl, hb⟩
    · rw [if_neg hpm] at hw
      injection hw with e1 e2
      subst e1 e2
      have hlt : p < m := by omega
      have d1 : decide ((p : Int) < (m : Int)) = true := decide_eq_true (by omega)
      go_enter Try.func8, Try.ntmps8
      go_wp2_with fail
      refine HR.out.mono ?_
      rintro e w2 ⟨rfl, hb⟩
      go_wp2
      go_ret2
      exact ⟨rfl, hb⟩
end Go.Proofs.Ytggiebpjmihpiaa
