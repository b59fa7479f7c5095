/- Layer 14 (count): the walk of CountTop. -/
import Derived.Test.YtmgfbofaihbfnaaCountWorks
import Derived.Test.YtmgfbofaihbfnaaBaseU16
namespace Go.Proofs.Ytmgfbofaihbfnaa
open Go.RowKit

/-- The counts behind k of these numbers. -/
def Fills (L xs : List Nat) (k : Nat) : Prop := L.length = xs.length ∧ ∀ j, L.getD j 0 = if j < k then xs.getD j 0 else 0
theorem Fills.more {L xs : List Nat} {k : Nat} (h : Fills L xs k) (hk : k < xs.length) (hx : xs.getD k 0 < 65536) : addE L k (xs.getD k 0 : Nat) = 0 ∧ Fills (addV L k (xs.getD k 0 : Nat)) xs (k + 1) := by
  have hL : k < L.length := by rw [h.1]; exact hk
  have hz : L.getD k 0 = 0 := by rw [h.2 k, if_neg (by omega)]
  have hg := add_good hL (m := xs.getD k 0) (by rw [hz]; omega)
  refine ⟨hg.1, ?_⟩
  rw [hg.2]
  refine ⟨by rw [List.length_set]; exact h.1, fun j => ?_⟩
  rw [getD_set _ _ _ _ hL]
  by_cases e : j = k
  · rw [if_pos e, if_pos (by omega), hz, e, Nat.zero_add]
  · rw [if_neg e, h.2 j]
    by_cases e2 : j < k
    · rw [if_pos e2, if_pos (by omega)]
    · rw [if_neg e2, if_neg (by omega)]
theorem Fills.top {L xs : List Nat} {t : Nat} (h : Fills L xs xs.length) (ht : IsTop L t) : IsTop xs t := by
  have he : ∀ j, L.getD j 0 = xs.getD j 0 := fun j => by
    rw [h.2 j]
    by_cases e : j < xs.length
    · rw [if_pos e]
    · rw [if_neg e, getD_far (by omega)]
  refine ⟨by rw [← h.1]; exact ht.lt, fun j => ?_, fun j hj => ?_⟩
  · rw [← he, ← he]; exact ht.le j
  · rw [← he, ← he]; exact ht.ahead j hj
theorem Fills.none {xs : List Nat} {n : Nat} (h : xs.length = n) : Fills (List.replicate n 0) xs 0 := ⟨by rw [List.length_replicate, h], fun j => by rw [zero_getD, if_neg (by omega)]⟩
set_option maxRecDepth 100000 in
set_option maxHeartbeats 3200000 in
theorem top_any {w : World} {A : Option Addr} {n c : Nat} {xs : List Nat} (h : U16sAt w A xs) (hn : xs.length = n) : Calls Try.prog 5 #[.slice A n c] w (TrueBelow w) := by
  by_cases hle : n ≤ 64
  · by_cases h0 : n = 0
    · subst h0
      clear h hn hle
      go_enter Try.func5, Try.ntmps5
      go_wp2_with fail
      refine (works_is _).mono ?_
      rintro e w3 ⟨rfl, b3⟩
      have B3 := Lib.hid b3
      clear b3
      go_wp2
      go_ret
      exact ⟨rfl, B3.out⟩
    · have d1 : ¬ 64 < (n : Int) := by omega
      have d2 : ((n : Int) == 0) = false := by simp; omega
      have HN := Lib.hid hn
      have HP := Lib.hid h
      have HW := Lib.hid fun W => works_is W
      clear h hn
      go_enter Try.func5, Try.ntmps5
      go_wp2_with fail
      refine (new_is w (n := n) (by omega) hle).mono ?_
      rintro e w1 ⟨q, rfl, hq, hb, hB⟩
      have H1 : Hid (Both w w1 (fun k => k = q) NoBlock q none (List.replicate n 0) []) := Both.start hb hB (by rintro k rfl; exact hq)
      clear hb hB hq
      go_wp2_with fail
      go_loopw [4] (fun vi wr => ∃ (k : Nat) (S : Nat → Prop) (L : List Nat), k ≤ n ∧ vi = .int .i64 k ∧ Hid (Fills L xs k) ∧ Hid (Both w wr S NoBlock q none L [])) (fun vi _ => n - (RowKit.intOf vi).toNat)
      case atStart => exact ⟨0, _, _, by omega, rfl, Fills.none HN.out, H1⟩
      case round =>
        clear H1
        obtain ⟨k, S, L, hk, rfl, HF, HB⟩ := hrel
        by_cases hlt : k < n
        · have hkl : k < xs.length := by rw [HN.out]; exact hlt
          obtain ⟨b, off, rfl, hbl, hxl, hc⟩ := HP.out.at_ hkl
          have hfm := HF.out.more hkl hxl
          obtain ⟨x, hx⟩ : ∃ x, xs.getD k 0 = x := ⟨_, rfl⟩
          rw [hx] at hxl hc hfm
          have c0 : wr.cell? ⟨b, off + k, none⟩ = some (.int .u16 x) := (HB.out.bel.cell (p := ⟨b, off + k, none⟩) hbl).trans hc
          have HA1 := Lib.hid hfm.1
          have HF1 := Lib.hid hfm.2
          have hi : 0 ≤ (k : Int) ∧ (k : Int) < (n : Int) := by omega
          have wx : IntKind.i64.wrap (x : Int) = (x : Int) := by rw [IntKind.wrap_i64]; omega
          clear hx hc hbl hfm hkl HF
          go_wp2_with fail
          refine (k_add HB.out k x HA1.out rfl).mono ?_
          rintro e w2 ⟨S2, rfl, h2⟩
          have HB2 := Lib.hid h2
          clear h2 HB
          go_wp2
          go_roundw
          case rel => exact ⟨k + 1, S2, _, by omega, by go_num, HF1, HB2⟩
          case measure => simp [RowKit.intOf]; omega
        · have HT0 : Hid (∀ t, IsTop L t → IsTop xs t) := fun t ht => by
            have hf := HF.out
            rw [show k = xs.length by rw [HN.out]; omega] at hf
            exact hf.top ht
          clear HF
          go_wp2_with fail
          refine (k_top HB.out).mono ?_
          rintro e w2 ⟨S2, t, rfl, ht, h2⟩
          have HT := Lib.hid (HT0.out t ht)
          have B2 := Lib.hid h2.bel
          have htn : t < n := by rw [← HN.out]; exact HT.out.lt
          have d3 : ¬ (t : Int) < 0 := by omega
          have d4 : ¬ (n : Int) ≤ (t : Int) := by omega
          have d5 : decide ((t : Int) < 0) = false := decide_eq_false d3
          have d6 : decide ((n : Int) ≤ (t : Int)) = false := decide_eq_false d4
          have d7 : decide (n ≤ t) = false := decide_eq_false (by omega)
          have hti : 0 ≤ (t : Int) ∧ (t : Int) < (n : Int) := by omega
          clear ht h2 HT0 HB
          go_wp2_with fail
          go_loopw [6] (fun vi wr => ∃ (i m : Nat), i ≤ n ∧ vi = .int .i64 i ∧ wr = w2.drewN m) (fun vi _ => n - (RowKit.intOf vi).toNat)
          case atStart => exact ⟨0, 0, by omega, rfl, rfl⟩
          case round =>
            obtain ⟨i, m, hi, rfl, rfl⟩ := hrel
            by_cases hlt2 : i < n
            · obtain ⟨b, off, rfl, hbl, hxl, hc⟩ := HP.out.at_ (k := i) (by rw [HN.out]; exact hlt2)
              obtain ⟨b', off', e, _, hyl, hd⟩ := HP.out.at_ (k := t) (by rw [HN.out]; exact htn)
              injection e with e
              injection e with e1 e2
              subst e1 e2
              have hxy := HT.out.le i
              have hah := HT.out.ahead i
              obtain ⟨x, hx⟩ : ∃ x, xs.getD i 0 = x := ⟨_, rfl⟩
              obtain ⟨y, hy⟩ : ∃ y, xs.getD t 0 = y := ⟨_, rfl⟩
              rw [hx] at hxl hc hxy hah
              rw [hy] at hyl hd hxy hah
              have c0 : w2.cell? ⟨b, off + i, none⟩ = some (.int .u16 x) := (B2.out.cell (p := ⟨b, off + i, none⟩) hbl).trans hc
              have c1 : w2.cell? ⟨b, off + t, none⟩ = some (.int .u16 y) := (B2.out.cell (p := ⟨b, off + t, none⟩) hbl).trans hd
              have hii : 0 ≤ (i : Int) ∧ (i : Int) < (n : Int) := by omega
              have g1 : decide ((y : Int) < (x : Int)) = false := decide_eq_false (by omega)
              have g1' : decide (y < x) = false := decide_eq_false (by omega)
              clear hx hy hc hd hbl
              by_cases hit : i < t
              · have hne := hah hit
                have g2 : decide ((i : Int) < (t : Int)) = true := decide_eq_true (by omega)
                have g2' : decide (i < t) = true := decide_eq_true hit
                have g3 : ((x : Int) == (y : Int)) = false := by simp; omega
                clear hah hne hit hxy
                go_wp2
                go_quiet (fail)
                go_wp2
                go_roundw
                case rel => exact ⟨i + 1, m + nq, by omega, by go_num, rfl⟩
                case measure => simp [RowKit.intOf]; omega
              · have g2 : decide ((i : Int) < (t : Int)) = false := decide_eq_false (by omega)
                have g2' : decide (i < t) = false := decide_eq_false hit
                clear hah hit hxy
                go_wp2
                go_quiet (fail)
                go_wp2
                go_roundw
                case rel => exact ⟨i + 1, m + nq, by omega, by go_num, rfl⟩
                case measure => simp [RowKit.intOf]; omega
            · have B3 := Lib.hid (below_drewN B2.out m)
              go_wp2_with fail
              refine (HW.out _).mono ?_
              rintro e w7 ⟨rfl, b7⟩
              have B7 := Lib.hid (step_below B3.out b7)
              clear b7 B3
              go_wp2
              go_ret
              exact ⟨rfl, B7.out⟩
  · have d1 : 64 < (n : Int) := by omega
    clear h hn hle
    go_enter Try.func5, Try.ntmps5
    go_wp2_with fail
    refine (works_is _).mono ?_
    rintro e w3 ⟨rfl, b3⟩
    have B3 := Lib.hid b3
    clear b3
    go_wp2
    go_ret
    exact ⟨rfl, B3.out⟩
end Go.Proofs.Ytmgfbofaihbfnaa
