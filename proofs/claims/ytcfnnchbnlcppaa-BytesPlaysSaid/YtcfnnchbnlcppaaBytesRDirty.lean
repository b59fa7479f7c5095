/- Layer 10 (bytes): what the document's Dirty, Copy and Runs return: contracts. -/
import Derived.Test.YtcfnnchbnlcppaaBytesRefs
import Derived.Test.YtcfnnchbnlcppaaBytesSpans
namespace Go.Proofs.Ytcfnnchbnlcppaa
open Go.RowKit Go.Maps

theorem str_index (W : World) (s : ByteArray) {j : Nat} (h : j < s.size) : (Instr.index 9 (.string s) (.int .i64 (j : Int))).run Try.prog W = .ok (.int .u8 ((byteAt s j).toNat : Int)) W := by
  have e1 : (0 : Int) ≤ (j : Int) := by omega
  simp only [Instr.index, asIntOf, Sem.run_bind, Sem.run_pure, Result.andThen_ok, run_underlying Try.underlying9]
  rw [if_pos e1, Int.toNat_natCast, byteAt_lt h]
  rfl
theorem byte_yes {x : UInt8} (h : x ≠ 0) : ((x.toNat : Int) != 0) = true := by
  rw [bne_iff_ne]
  intro e
  refine h (UInt8.toNat_inj.1 ?_)
  have : x.toNat = 0 := by omega
  rw [this]
  rfl
set_option maxHeartbeats 1000000 in
theorem rdirty_is (w : World) (s : ByteArray) (hs : s.size ≤ 1048576) {r : Nat} (hr : cnt (byteAt s) s.size = r) : Calls Try.prog 17 #[.string s] w fun e w' => e = .returned (.int .i64 r) ∧ w = w' := by
  have HX : Hid (∀ j, j < s.size → ∀ W, (Instr.index 9 (.string s) (.int .i64 (j : Int))).run Try.prog W = .ok (.int .u8 ((byteAt s j).toNat : Int)) W) := fun j hj W => str_index W s hj
  obtain ⟨c, hc⟩ : ∃ c, byteAt s = c := ⟨_, rfl⟩
  obtain ⟨n, hn⟩ : ∃ n, s.size = n := ⟨_, rfl⟩
  rw [hn, hc] at hr
  rw [hn] at hs
  have HX2 : Hid (∀ j : Nat, j < n → ∀ W, (Instr.index 9 (.string s) (.int .i64 (j : Int))).run Try.prog W = .ok (.int .u8 ((c j).toNat : Int)) W) := by
    show ∀ j, _
    rw [← hn, ← hc]
    exact HX.out
  have HR := Lib.hid hr
  clear hr HX hc
  go_enter Try.func17, Try.ntmps17
  go_wp2
  go_loopw [3, 4] (fun cv iv wr => ∃ j : Nat, j ≤ n ∧ iv = .int .i64 j ∧ cv = .int .i64 (cnt c j) ∧ wr = w) (fun _ iv _ => n - (RowKit.intOf iv).toNat)
  case atStart => exact ⟨0, by omega, rfl, rfl, rfl⟩
  case round =>
    obtain ⟨j, hj, rfl, rfl, rfl⟩ := hrel
    by_cases hlt : j < n
    · have hix := HX2.out j hlt wr
      have hcl := cnt_le c j
      have hst : cnt c (j + 1) = cnt c j + if c j = 0 then 0 else 1 := rfl
      obtain ⟨C, hC⟩ : ∃ C, cnt c j = C := ⟨_, rfl⟩
      rw [hC] at hcl hst ⊢
      by_cases h0 : c j = 0
      · have e0 : ((c j).toNat : Int) = 0 := by rw [h0]; rfl
        rw [e0] at hix
        rw [if_pos h0] at hst
        have HN := Lib.hid hst
        clear h0 e0 hC hst
        go_wp2_with fail
        go_roundw
        case rel => exact ⟨j + 1, by omega, by simp, by rw [HN.out]; simp, trivial⟩
        case measure => simp [RowKit.intOf]; omega
      · have e0 := byte_yes h0
        have e1 : (((c j).toNat : Int) == 0) = false := by simpa using e0
        rw [if_neg h0] at hst
        have HN := Lib.hid hst
        obtain ⟨y, hy⟩ : ∃ y, (c j).toNat = y := ⟨_, rfl⟩
        rw [hy] at hix e0 e1
        clear h0 hy hC hst
        go_wp2_with fail
        go_roundw
        case rel => exact ⟨j + 1, by omega, by simp, by rw [HN.out]; simp, trivial⟩
        case measure => simp [RowKit.intOf]; omega
    · obtain rfl : j = n := by omega
      have HE : Hid (cnt c j = r) := HR.out
      obtain ⟨C, hC⟩ : ∃ C, cnt c j = C := ⟨_, rfl⟩
      rw [hC] at HE ⊢
      clear hC HR
      obtain rfl : C = r := HE.out
      go_wp2_with fail
      go_ret
      exact ⟨rfl, rfl⟩
/-- The document's Copy. -/
def rcopyV (s : ByteArray) (a : Int) (t : ByteArray) (o m : Int) : Value := if rangeE t.size o m = 0 then storeV s a (t.extract o.toNat (o.toNat + m.toNat)) else .tuple #[.string s, .int .i64 15]
set_option maxHeartbeats 1000000 in
theorem rcopy_is (w : World) (s t : ByteArray) (hs : s.size ≤ 1048576) (ht : t.size ≤ 1048576) {a o m : Int} (ha : InInt a) (ho : InInt o) (hm : InInt m) : Calls Try.prog 23 #[.string s, .int .i64 a, .string t, .int .i64 o, .int .i64 m] w fun e w' => e = .returned (rcopyV s a t o m) ∧ Below w.heap.size w w' := by
  have HL := Lib.hid (rload_is w t ht ho hm)
  unfold rcopyV
  unfold loadV at HL
  rcases rangeE_or t.size o m with hr | hr
  · rw [if_pos hr]
    rw [if_pos hr] at HL
    have hx : (t.extract o.toNat (o.toNat + m.toNat)).size ≤ 1048576 := by rw [size_extract]; omega
    have HS := Lib.hid (rstore_is w s (t.extract o.toNat (o.toNat + m.toNat)) hs hx ha)
    have hv : ∃ S r, storeV s a (t.extract o.toNat (o.toNat + m.toNat)) = .tuple #[.string S, .int .i64 r] := by
      unfold storeV
      split
      · exact ⟨_, _, rfl⟩
      · exact ⟨_, _, rfl⟩
    obtain ⟨S, r, hv⟩ := hv
    rw [hv] at HS ⊢
    generalize t.extract o.toNat (o.toNat + m.toNat) = X at *
    clear hr hx hs ht ha ho hm hv
    go_enter Try.func23, Try.ntmps23
    go_wp2_with fail
    refine HL.out.mono ?_
    rintro e w' ⟨rfl, rfl⟩
    go_wp2_with fail
    refine HS.out.mono ?_
    rintro e w' ⟨rfl, hb⟩
    go_wp2
    go_ret2
    exact ⟨rfl, hb⟩
  · rw [if_neg (by omega)]
    rw [if_neg (by omega)] at HL
    clear hr hs ht ha ho hm
    go_enter Try.func23, Try.ntmps23
    go_wp2_with fail
    refine HL.out.mono ?_
    rintro e w' ⟨rfl, rfl⟩
    go_wp2
    go_ret2
    exact ⟨rfl, Below.refl _ _⟩
end Go.Proofs.Ytcfnnchbnlcppaa
