/- Layer 11 (digits): what the library's FormatInt to the base 16 and Hex return: contracts. -/
import Derived.Test.YtcafppconcghhaaDoorDigitsRHex
import Derived.Deep.CutRange
import Derived.Deep.OwnRows
import Derived.Laws.Bits64b
namespace Go.Proofs.YtcafppconcghhaaDoor
open Go.RowKit

theorem pow2_is (w : World) : Calls Tryd.prog 57 #[.int .i64 16] w fun e w' => e = .returned (.bool true) ∧ w = w' := by
  go_enter Tryd.func57, Tryd.ntmps57
  go_wp2
  go_ret
  exact ⟨rfl, rfl⟩
theorem tz16_is {B : Nat} (w : World) (hT : Tabs B w) : Calls Tryd.prog 58 #[.int .u64 16] w fun e w' => e = .returned (.int .i64 4) ∧ w = w' := by
  refine (Any7.bits_TrailingZeros Tryd.lays7n27 16 (by omega) w (fun _ => hT.two _ (Below.refl _ _))).mono ?_
  rintro e w' ⟨rfl, rfl⟩
  exact ⟨rfl, rfl⟩
def byteV8 (b : UInt8) : Value := .int .u8 (b.toNat : Int)
/-- The content from a place on, to the 65th. -/
def tailF (c : Nat → UInt8) (i : Nat) : List UInt8 := (List.range (65 - i)).map fun j => c (i + j)
theorem tailF_length (c : Nat → UInt8) (i : Nat) : (tailF c i).length = 65 - i := by unfold tailF; simp
theorem tailF_get {c : Nat → UInt8} {i j : Nat} (h : j < (tailF c i).length) : (tailF c i)[j] = c (i + j) := by simp [tailF]
theorem tailF_put {c d : Nat → UInt8} {i : Nat} (h1 : 1 ≤ i) (h2 : i ≤ 65) (h : ∀ j, i ≤ j → d j = c j) : tailF d (i - 1) = d (i - 1) :: tailF c i := by
  unfold tailF
  rw [show 65 - (i - 1) = (65 - i) + 1 by omega, List.range_succ_eq_map, List.map_cons, List.map_map]
  congr 1
  refine List.map_congr_left fun j _ => ?_
  show d (i - 1 + (j + 1)) = c (i + j)
  rw [h _ (by omega)]
  congr 1
  omega
def hexF (c : Nat → UInt8) (i : Nat) (b : UInt8) : Nat → UInt8 := fun j => if j = i then b else c j
theorem row_zero (w : World) : (w.alloc (.cells Tryd.zeroCells81 81)).rowIs w.heap.size 81 65 (fun j => byteV8 ((fun _ => 0 : Nat → UInt8) j)) := by
  have hz : Tryd.zeroCells81 = Array.replicate 65 (.int .u8 0) := by kernel_rfl
  have := World.rowIs_alloc w Tryd.zeroCells81 81 (fun j => byteV8 ((fun _ => 0 : Nat → UInt8) j)) (fun i hi => by
    rw [hz] at hi ⊢
    rw [Array.getElem?_eq_getElem hi, Array.getElem_replicate]
    rfl)
  rw [show Tryd.zeroCells81.size = 65 by kernel_rfl] at this
  exact this
theorem row_hex {w : World} {q i : Nat} {c : Nat → UInt8} (h : w.rowIs q 81 65 (fun j => byteV8 (c j))) (b : UInt8) : (w.setCell ⟨q, i, none⟩ (byteV8 b)).rowIs q 81 65 (fun j => byteV8 (hexF c i b j)) :=
  (h.set i (byteV8 b)).congr fun j _ => by
    show (if j = i then byteV8 b else byteV8 (c j)) = byteV8 (hexF c i b j)
    unfold hexF
    split <;> rfl
def alpha36 : ByteArray := ⟨#[48, 49, 50, 51, 52, 53, 54, 55, 56, 57, 97, 98, 99, 100, 101, 102, 103, 104, 105, 106, 107, 108, 109, 110, 111, 112, 113, 114, 115, 116, 117, 118, 119, 120, 121, 122]⟩
theorem alpha36_fin : ∀ K : Fin 16, byteAt alpha36 K.val = hexB K.val := by decide
theorem alpha_index {K : Nat} (h : K < 16) (W : World) : (Instr.index 9 (.string alpha36) (.int .u64 (K : Int))).run Tryd.prog W = .ok (.int .u8 ((hexB K).toNat : Int)) W := by
  have e1 : (0 : Int) ≤ (K : Int) := by omega
  have e2 : byteAt alpha36 K = hexB K := alpha36_fin ⟨K, h⟩
  simp only [Instr.index, asIntOf, Sem.run_bind, Sem.run_pure, Result.andThen_ok, run_underlying Tryd.underlying9]
  rw [if_pos e1, Int.toNat_natCast, byteAt_lt (show K < alpha36.size by show K < 36; omega), e2]
  rfl
theorem slice_high (W : World) (q : Nat) {p : Nat} (h1 : p < 65) (h0 : 0 < p) : (Instr.sliceAt 81 (.pointer (some ⟨q, 0, none⟩)) (some (.int .i64 (p : Int))) none none).run Tryd.prog W = .ok (.slice (some ⟨q, p, none⟩) (65 - p) (65 - p)) W := by
  have e1 : (0 : Int) ≤ (p : Int) := by omega
  have hal : Tryd.prog.arrayLen 81 = 65 := by kernel_rfl
  have hz : Tryd.prog.elem 81 = 5 := by kernel_rfl
  rw [run_sliceAt_array_l (P := Tryd.prog) (w := W) 81 ⟨q, 0, none⟩ (by kernel_rfl) .i64 (p : Int) e1 (by rw [hal]; omega)]
  rw [hal, hz, Int.toNat_natCast]
  have e5 : ¬ (65 : Nat) = p := by omega
  have e6 : ¬ p = 0 := by omega
  simp [Tryd.sizeOf5, slicedAt, Addr.add, e5, e6]
set_option maxHeartbeats 2000000 in
theorem fmtBits_is {B : Nat} (w : World) {U : Nat} (hU : U ≤ 9223372036854775807) (hT : Tabs B w) (hB : B ≤ w.heap.size) {S : ByteArray} (hS : mkT (hexD U) = S) : Calls Tryd.prog 50 #[.slice none 0 0, .int .u64 U, .int .i64 16, .bool false, .bool false] w fun e w' => e = .returned (.tuple #[.slice none 0 0, .string S]) ∧ Below w.heap.size w w' := by
  have R0 := row_zero w
  have B0 := (Below.refl w.heap.size w).alloc (Nat.le_refl _) (.cells Tryd.zeroCells81 81)
  have HS := Lib.hid hS
  have HL : Hid ((hexD U).length ≤ 16) := hexD_length 16 U (by omega) (by omega)
  clear hS
  go_enter Tryd.func50, Tryd.ntmps50
  go_wp2_with fail
  obtain ⟨q, hqq⟩ : ∃ q, w.heap.size = q := ⟨_, rfl⟩
  refine (pow2_is _).mono ?_
  rintro e w1 ⟨rfl, rfl⟩
  have HT := Lib.hid ((hT.on (B0.mono hB)))
  clear hT
  generalize w.alloc (.cells Tryd.zeroCells81 81) = W0 at *
  rw [hqq] at R0 B0 ⊢
  go_wp2_with fail
  refine (tz16_is _ HT.out).mono ?_
  rintro e w1 ⟨rfl, rfl⟩
  clear HT
  go_wp2_with fail
  go_loopw [1, 13] (fun a b wr => ∃ (u i : Nat) (c : Nat → UInt8), a = .int .u64 u ∧ b = .int .i64 i ∧ u ≤ 9223372036854775807 ∧ i ≤ 65 ∧ Hid (hexD u ++ tailF c i = hexD U) ∧ wr.rowIs q 81 65 (fun j => byteV8 (c j)) ∧ Below q w wr) (fun a _ _ => (RowKit.intOf a).toNat)
  case atStart => exact ⟨U, 65, fun _ => 0, rfl, rfl, hU, Nat.le_refl _, by show _ = _; exact List.append_nil _, R0, B0⟩
  case round =>
    obtain ⟨u, i, c, rfl, rfl, hu, hi, HI, hrow, hbw⟩ := hrel
    have h50 : 49 ≤ i := by
      have h1 := congrArg List.length HI.out
      rw [List.length_append, tailF_length] at h1
      have h2 := List.length_pos_iff.2 (hexD_ne u)
      have h3 := HL.out
      omega
    obtain ⟨p, rfl⟩ : ∃ p, i = p + 1 := ⟨i - 1, by omega⟩
    have hp65 : p < 65 := by omega
    have hcell := hrow.cell hp65
    have hfz := hrow.frozen p
    have hp0 : (0 : Int) ≤ (p : Int) := by omega
    have hp1 : (p : Int) < 65 := by omega
    by_cases hc : 16 ≤ u
    · have hq : 16 ≤ (u : Int) := by omega
      have hK : u % 16 < 16 := by omega
      have hand : bits .and .u64 (u : Int) 15 = ((u % 16 : Nat) : Int) := by
        refine (bits_and_u64_nat u 15 (by omega) (by omega)).trans ?_
        rw [show (15 : Nat) = 2 ^ 4 - 1 from rfl, Nat.and_two_pow_sub_one_eq_mod]
      have hix := fun W => alpha_index hK W
      unfold alpha36 at hix
      have R2 := row_hex (i := p) hrow (hexB (u % 16))
      have B2 : Below q w (wr.setCell ⟨q, p, none⟩ (byteV8 (hexB (u % 16)))) := hbw.setCell (p := ⟨q, p, none⟩) (Nat.le_refl _) _
      have HI2 : Hid (hexD (u / 16) ++ tailF (hexF c p (hexB (u % 16))) p = hexD U) := by
        show _ = _
        have e1 := tailF_put (c := c) (d := hexF c p (hexB (u % 16))) (i := p + 1) (by omega) (by omega) (fun j hj => by unfold hexF; rw [if_neg (by omega)])
        rw [show p + 1 - 1 = p by omega] at e1
        rw [← HI.out, e1, hexD_big (show ¬ u < 16 by omega), List.append_assoc]
        show _ = hexD (u / 16) ++ (hexB (u % 16) :: tailF c (p + 1))
        unfold hexF
        rw [if_pos rfl]
      unfold byteV8 at hcell R2 B2
      have hms : u / 16 < u := by omega
      have hu2 : u / 16 ≤ 9223372036854775807 := by omega
      have hdv : ((u / 16 : Nat) : Int) = (u : Int) / 16 := Int.natCast_ediv u 16
      have HDV := Lib.hid hdv
      clear hdv HI h50 hc hrow hbw
      generalize u % 16 = K at *
      generalize hexB K = b at *
      generalize c p = c0 at *
      go_wp2
      go_roundw
      case rel => exact ⟨u / 16, p, _, congrArg (Value.int .u64) HDV.out.symm, rfl, hu2, by omega, HI2, R2, B2⟩
      case measure =>
        show ((u : Int) / 16).toNat < u
        rw [← HDV.out]
        exact hms
    · have hq : ¬ 16 ≤ (u : Int) := by omega
      have hix := fun W => alpha_index (show u < 16 by omega) W
      unfold alpha36 at hix
      have R2 := row_hex (i := p) hrow (hexB u)
      have B2 : Below q w (wr.setCell ⟨q, p, none⟩ (byteV8 (hexB u))) := hbw.setCell (p := ⟨q, p, none⟩) (Nat.le_refl _) _
      have e2 : tailF (hexF c p (hexB u)) p = hexD U := by
        have e1 := tailF_put (c := c) (d := hexF c p (hexB u)) (i := p + 1) (by omega) (by omega) (fun j hj => by unfold hexF; rw [if_neg (by omega)])
        rw [show p + 1 - 1 = p by omega] at e1
        rw [e1, ← HI.out, hexD_small (show u < 16 by omega)]
        unfold hexF
        rw [if_pos rfl]
        rfl
      have hsl := fun W => slice_high W q hp65 (by omega)
      have hcv : (convert 48 9 (.slice (some ⟨q, p, none⟩) (65 - p) (65 - p))).run Tryd.prog (wr.setCell ⟨q, p, none⟩ (byteV8 (hexB u))) = .ok (.string S) (wr.setCell ⟨q, p, none⟩ (byteV8 (hexB u))) := by
        have h := run_convert_bytes_back (P := Tryd.prog) (wr.setCell ⟨q, p, none⟩ (byteV8 (hexB u))) 48 9 5 ⟨q, p, none⟩ (65 - p) (tailF (hexF c p (hexB u)) p) Tryd.underlying48 Tryd.underlying5 Tryd.underlying9 (fun j hj => by
          rw [tailF_length] at hj
          rw [show (⟨q, p, none⟩ : Addr).add j = ⟨q, p + j, none⟩ by simp [Addr.add]]
          refine (R2.cell (i := p + j) (by omega)).trans ?_
          show some (byteV8 _) = _
          rw [tailF_get]
          rfl)
        rw [tailF_length, e2] at h
        rw [← HS.out]
        exact h
      unfold byteV8 at hcell hcv B2
      clear HI h50 hc hrow hbw e2 R2 HS
      generalize hexB u = b at *
      generalize c p = c0 at *
      go_wp2
      go_ret2
      exact ⟨rfl, by first | exact B2 | (rw [hqq]; exact B2)⟩
end Go.Proofs.YtcafppconcghhaaDoor
