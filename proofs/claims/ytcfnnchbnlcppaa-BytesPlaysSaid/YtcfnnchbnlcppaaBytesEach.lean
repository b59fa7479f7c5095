/- Layer 10 (bytes): eachRow tells of each row that has some of the bytes from a place on: a contract, for whatever is done there. -/
import Derived.Test.YtcfnnchbnlcppaaBytesPut
namespace Go.Proofs.Ytcfnnchbnlcppaa
open Go.RowKit Go.Maps

/-- The place behind what a row has of the bytes from p on, ahead of e. -/
def nextP (e p : Nat) : Nat := p - p % 64 + min (e - (p - p % 64)) 64
theorem nextP_is {e p : Nat} (h : p < e) : p < nextP e p ∧ nextP e p ≤ e ∧ nextP e p ≤ 64 * (p / 64) + 64 ∧ (nextP e p < e → nextP e p = 64 * (p / 64) + 64) := by
  unfold nextP
  omega
/-- Ahead of which of the row's bytes. -/
def toP (e p : Nat) : Nat := min (e - (p - p % 64)) 64
theorem toP_is {e p : Nat} (h : p < e) : p % 64 < toP e p ∧ toP e p ≤ 64 ∧ 64 * (p / 64) + toP e p = nextP e p := by
  unfold nextP toP
  omega
set_option maxHeartbeats 2000000 in
theorem each_row {k : FuncId} {cap : List Value} (hcap : ∃ x, cap = [x] ∨ ∃ y, cap = [x, y]) (hE : ∀ (args : Array Value) (W : World), (callFunc k args).run Try.prog W = .ok (.enter k args) W) (J : Nat → World → Prop) {a m : Nat} (ham : a + m ≤ 1048576)
    (hD : ∀ p W, a ≤ p → p < a + m → J p W → Calls Try.prog k (.int .i64 (p / 64 : Nat) :: .int .i64 (p % 64 : Nat) :: .int .i64 (toP (a + m) p) :: cap).toArray W fun e W' => e = .returned (.tuple #[]) ∧ J (nextP (a + m) p) W')
    {w : World} (h0 : J a w) :
    Calls Try.prog 27 #[.int .i64 a, .int .i64 m, .func (.func k) #[] cap.toArray] w fun e w' => e = .returned (.tuple #[]) ∧ J (a + m) w' := by
  obtain ⟨E, hEE⟩ : ∃ E, a + m = E := ⟨_, rfl⟩
  have hadd : IntKind.i64.wrap ((a : Int) + (m : Int)) = (E : Int) := by rw [IntKind.wrap_i64]; omega
  have haE : a ≤ E := by omega
  rw [hEE] at hD ham ⊢
  have HD := Lib.hid hD
  have HJ := Lib.hid h0
  clear hD h0 hEE
  obtain ⟨x, rfl | ⟨y, rfl⟩⟩ := hcap
  all_goals
    go_enter Try.func27, Try.ntmps27
    go_wp2_with fail
    go_loopw [0] (fun i wr => ∃ p : Nat, a ≤ p ∧ p ≤ E ∧ i = .int .i64 p ∧ J p wr) (fun i _ => E - (RowKit.intOf i).toNat)
    case atStart => exact ⟨a, Nat.le_refl _, haE, rfl, HJ.out⟩
    case round =>
      obtain ⟨p, h1, h2, rfl, hp⟩ := hrel
      have hNZ : ¬ (64 : Int) = 0 := by omega
      obtain ⟨i, hi⟩ : ∃ i, p % 64 = i := ⟨_, rfl⟩
      obtain ⟨F, hF⟩ : ∃ F, p - i = F := ⟨_, rfl⟩
      obtain ⟨q, hq⟩ : ∃ q, p / 64 = q := ⟨_, rfl⟩
      have r1 : Int.tmod (p : Int) 64 = (i : Int) := by
        rw [Int.tmod_eq_emod_of_nonneg (by omega)]
        omega
      have r1' : (p : Int) % 64 = (i : Int) := by omega
      have r2 : IntKind.i64.wrap ((p : Int) - (i : Int)) = (F : Int) := by rw [IntKind.wrap_i64]; omega
      have r3 : p < E → IntKind.i64.wrap ((E : Int) - (F : Int)) = ((E - F : Nat) : Int) := fun _ => by rw [IntKind.wrap_i64]; omega
      have r5 : Int.tdiv (F : Int) 64 = (q : Int) := by
        rw [Int.tdiv_eq_ediv_of_nonneg (by omega)]
        omega
      have r5' : (F : Int) / 64 = (q : Int) := by omega
      have r6 : IntKind.i64.wrap ((p : Int) - (F : Int)) = (i : Int) := by rw [IntKind.wrap_i64]; omega
      by_cases hlt : p < E
      · have d1 : decide ((p : Int) < (E : Int)) = true := decide_eq_true (by omega)
        have d1' : decide (p < E) = true := decide_eq_true hlt
        have H := Lib.hid (HD.out p wr h1 hlt hp)
        have hn := nextP_is hlt
        obtain ⟨t, ht⟩ : ∃ t, toP E p = t := ⟨_, rfl⟩
        obtain ⟨P, hP⟩ : ∃ P, nextP E p = P := ⟨_, rfl⟩
        have h3 := toP_is hlt
        have r3' := r3 hlt
        obtain ⟨d, hd⟩ : ∃ d, E - F = d := ⟨_, rfl⟩
        have hmn : min d 64 = t := by rw [← hd, ← ht, ← hF, ← hi]; rfl
        rw [hd] at r3'
        rw [hi, hq, ht, hP] at H
        rw [ht, hP, hi, hq] at h3
        rw [hP] at hn
        have r7 : IntKind.i64.wrap ((F : Int) + (t : Int)) = (P : Int) := by rw [IntKind.wrap_i64]; omega
        have hn1 : p < P := hn.1
        have hn2 : P ≤ E := hn.2.1
        have hq1 : q ≤ 16384 := by omega
        have hwq : IntKind.i64.wrap (q : Int) = q := by rw [IntKind.wrap_i64]; omega
        clear hn h3 ht hP hi hF hq hd r3
        by_cases h64 : d ≤ 64
        · have et : t = d := by omega
          subst et
          have e1 : decide ((64 : Int) < (t : Int)) = false := decide_eq_false (by omega)
          have e2 : decide (64 < t) = false := decide_eq_false (by omega)
          have e3 : ¬ (64 : Int) < (t : Int) := by omega
          clear hmn
          go_wp2_with fail
          refine H.out.mono ?_
          rintro e w' ⟨rfl, hj⟩
          go_wp2_with fail
          go_roundw
          case rel => exact ⟨P, by omega, hn2, rfl, hj⟩
          case measure => simp [RowKit.intOf]; omega
        · have et : t = 64 := by omega
          subst et
          have HF : Hid ((F : Int) + 64 = (P : Int)) := by
            show _ = _
            rw [IntKind.wrap_i64] at r7
            have : (F : Int) + 64 ≤ 1048576 + 64 := by omega
            omega
          clear r7
          have e1 : (64 : Int) < (d : Int) := by omega
          have e3 : decide ((64 : Int) < (d : Int)) = true := decide_eq_true (by omega)
          have e4 : decide (64 < d) = true := decide_eq_true (by omega)
          clear hmn
          go_wp2_with fail
          refine H.out.mono ?_
          rintro e w' ⟨rfl, hj⟩
          go_wp2_with fail
          go_roundw
          case rel => exact ⟨P, by omega, hn2, by rw [HF.out], hj⟩
          case measure =>
            simp only [RowKit.intOf]
            have := HF.out
            omega
      · have d1 : decide ((p : Int) < (E : Int)) = false := decide_eq_false (by omega)
        have d1' : decide (p < E) = false := decide_eq_false hlt
        obtain rfl : p = E := by omega
        clear r1 r1' r2 r3 r5 r5' r6 hi hF hq HD HJ
        go_wp2_with fail
        go_end0
        exact ⟨rfl, hp⟩
end Go.Proofs.Ytcfnnchbnlcppaa
