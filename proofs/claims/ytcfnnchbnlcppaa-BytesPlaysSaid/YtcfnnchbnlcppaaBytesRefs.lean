/- Layer 10 (bytes): what the document's New, out, Load, Store, Wipe, Dirty and Copy return: contracts. -/
import Derived.Test.YtcfnnchbnlcppaaBytesAsk
import Derived.Laws.IdiomStrings
import Derived.Laws.Concat
import Derived.Lib.Hide
import Derived.Test.YtcfnnchbnlcppaaBaseFrom
import Derived.BigQuiet
import Derived.Deep.Onto
namespace Go.Proofs.Ytcfnnchbnlcppaa
open Go.RowKit Go.Maps

theorem str_add (W : World) {x y : ByteArray} (h : x.size + y.size ≤ 9223372036854775807) : (Op.stringOp .add x y).run Try.prog W = .ok (.string (x ++ y)) W := run_string_add_sum W x y h
theorem str_low (W : World) (s : ByteArray) {a : Nat} (h : a ≤ s.size) : (Instr.slice 9 (.string s) none (some (.int .i64 (a : Int))) none).run Try.prog W = .ok (.string (s.extract 0 a)) W := by
  have e1 : (0 : Int) ≤ (a : Int) := by omega
  simp [Instr.slice, Instr.sliceBounds, Instr.sliceBound, asIntOf, run_underlying Try.underlying9, e1, h]
theorem str_high (W : World) (s : ByteArray) {a : Nat} (h : a ≤ s.size) : (Instr.slice 9 (.string s) (some (.int .i64 (a : Int))) none none).run Try.prog W = .ok (.string (s.extract a s.size)) W := by
  have e1 : (0 : Int) ≤ (a : Int) := by omega
  simp [Instr.slice, Instr.sliceBounds, Instr.sliceBound, asIntOf, run_underlying Try.underlying9, e1, h]
theorem str_mid (W : World) (s : ByteArray) {a b : Nat} (h : a ≤ b) (hb : b ≤ s.size) : (Instr.slice 9 (.string s) (some (.int .i64 (a : Int))) (some (.int .i64 (b : Int))) none).run Try.prog W = .ok (.string (s.extract a b)) W := by
  have e1 : (0 : Int) ≤ (a : Int) := by omega
  have e2 : (0 : Int) ≤ (b : Int) := by omega
  simp [Instr.slice, Instr.sliceBounds, Instr.sliceBound, asIntOf, run_underlying Try.underlying9, e1, e2, h, hb]

/-- Are bytes not all within? -/
def outB (n : Nat) (a m : Int) : Bool := rangeE n a m != 0
theorem out_is (w : World) (s : ByteArray) (hs : s.size ≤ 1048576) {a m : Int} (ha : InInt a) (hm : InInt m) {r : Bool} (hr : outB s.size a m = r) : Calls Try.prog 25 #[.string s, .int .i64 a, .int .i64 m] w fun e w' => e = .returned (.bool r) ∧ w = w' := by
  subst hr
  unfold outB rangeE
  obtain ⟨ha1, ha2⟩ := ha
  obtain ⟨hm1, hm2⟩ := hm
  obtain ⟨n, hn⟩ : ∃ n, s.size = n := ⟨_, rfl⟩
  rw [hn] at hs ⊢
  by_cases h1 : a < 0
  · rw [if_pos (.inl h1)]
    have d1 : decide (a < 0) = true := decide_eq_true h1
    go_enter Try.func25, Try.ntmps25
    go_wp2
    go_ret
    exact ⟨rfl, rfl⟩
  have d1 : decide (a < 0) = false := decide_eq_false h1
  by_cases h2 : m < 0
  · rw [if_pos (.inr (.inl h2))]
    have d2 : decide (m < 0) = true := decide_eq_true h2
    go_enter Try.func25, Try.ntmps25
    go_wp2
    go_ret
    exact ⟨rfl, rfl⟩
  have d2 : decide (m < 0) = false := decide_eq_false h2
  by_cases h3 : (n : Int) < a
  · rw [if_pos (.inr (.inr (by omega)))]
    have d3 : decide ((n : Int) < a) = true := decide_eq_true h3
    go_enter Try.func25, Try.ntmps25
    go_wp2
    go_ret
    exact ⟨rfl, rfl⟩
  have d3 : decide ((n : Int) < a) = false := decide_eq_false h3
  have hw : IntKind.i64.wrap ((n : Int) - a) = n - a := by rw [IntKind.wrap_i64]; omega
  by_cases h4 : (n : Int) - a < m
  · rw [if_pos (.inr (.inr (by omega)))]
    have d4 : decide ((n : Int) - a < m) = true := decide_eq_true h4
    go_enter Try.func25, Try.ntmps25
    go_wp2
    go_ret
    exact ⟨rfl, rfl⟩
  · rw [if_neg (by omega)]
    have d4 : decide ((n : Int) - a < m) = false := decide_eq_false h4
    go_enter Try.func25, Try.ntmps25
    go_wp2
    go_ret
    exact ⟨rfl, rfl⟩
theorem rnew_is (w : World) {n : Nat} (hn : n ≤ 1048576) : Calls Try.prog 9 #[.int .i64 n] w fun e w' => e = .returned (.string (zeros n)) ∧ Below w.heap.size w w' := by
  have hmk := fun W => run_make_row' (P := Try.prog) 51 5 (.int .u8 0) 1 Try.underlying51 u8_info rfl .i64 .i64 n (by omega) (by omega) W
  have HB : Hid (Below w.heap.size w (w.alloc (.cells (madeCells #[.int .u8 0] n) 5))) := (Below.refl _ w).alloc (Nat.le_refl _) _
  have hcv : (convert 51 9 (.slice (some ⟨w.heap.size, 0, none⟩) n n)).run Try.prog (w.alloc (.cells (madeCells #[.int .u8 0] n) 5)) = .ok (.string (zeros n)) (w.alloc (.cells (madeCells #[.int .u8 0] n) 5)) := by
    have h := run_convert_bytes_back (P := Try.prog) (w.alloc (.cells (madeCells #[.int .u8 0] n) 5)) 51 9 5 ⟨w.heap.size, 0, none⟩ n (List.replicate n (0 : UInt8)) Try.underlying51 Try.underlying5 Try.underlying9 (fun j hj => by
      have hj' : j < n := by rwa [List.length_replicate] at hj
      have hadd : (⟨w.heap.size, 0, none⟩ : Addr).add j = ⟨w.heap.size, j, none⟩ := by unfold Addr.add; split <;> simp_all
      rw [hadd, cell_of_row _ _ _ _ _ _ (heap_alloc_last w _), List.getElem_replicate]
      unfold madeCells
      simp [hj']
      rw [Nat.mod_one]
      rfl)
    rw [List.length_replicate] at h
    exact h
  go_enter Try.func9, Try.ntmps9
  go_wp2
  go_ret
  exact ⟨rfl, HB.out⟩
def loadV (s : ByteArray) (a m : Int) : Value := if rangeE s.size a m = 0 then .tuple #[.string (s.extract a.toNat (a.toNat + m.toNat)), .int .i64 0] else .tuple #[.string ⟨#[]⟩, .int .i64 15]
theorem outB_no {n : Nat} {a m : Int} (h : rangeE n a m = 0) : outB n a m = false := by unfold outB; rw [h]; rfl
theorem outB_yes {n : Nat} {a m : Int} (h : rangeE n a m = 15) : outB n a m = true := by unfold outB; rw [h]; rfl
theorem rload_is (w : World) (s : ByteArray) (hs : s.size ≤ 1048576) {a m : Int} (ha : InInt a) (hm : InInt m) : Calls Try.prog 14 #[.string s, .int .i64 a, .int .i64 m] w fun e w' => e = .returned (loadV s a m) ∧ w = w' := by
  unfold loadV
  rcases rangeE_or s.size a m with hr | hr
  · rw [if_pos hr]
    have HO := Lib.hid (out_is w s hs ha hm (outB_no hr))
    obtain ⟨h1, h2, h3⟩ := rangeE_yes hr
    obtain ⟨a, rfl⟩ := Int.eq_ofNat_of_zero_le h1
    obtain ⟨m, rfl⟩ := Int.eq_ofNat_of_zero_le h2
    simp only [Int.toNat_natCast]
    have hadd : IntKind.i64.wrap ((a : Int) + (m : Int)) = ((a + m : Nat) : Int) := by rw [IntKind.wrap_i64]; omega
    have hmid := fun W => str_mid W s (a := a) (b := a + m) (by omega) (by omega)
    generalize a + m = E at *
    clear ha hm hr h1 h2 h3 hs
    go_enter Try.func14, Try.ntmps14
    go_wp2_with fail
    refine HO.out.mono ?_
    rintro e w' ⟨rfl, rfl⟩
    go_wp2
    go_ret2
    exact ⟨rfl, rfl⟩
  · rw [if_neg (by omega)]
    have HO := Lib.hid (out_is w s hs ha hm (outB_yes hr))
    clear ha hm hr hs
    go_enter Try.func14, Try.ntmps14
    go_wp2_with fail
    refine HO.out.mono ?_
    rintro e w' ⟨rfl, rfl⟩
    go_wp2
    go_ret2
    exact ⟨rfl, rfl⟩
def storeV (s : ByteArray) (a : Int) (t : ByteArray) : Value := if rangeE s.size a t.size = 0 then .tuple #[.string (putS s a.toNat t), .int .i64 0] else .tuple #[.string s, .int .i64 15]
set_option maxHeartbeats 1000000 in
theorem rstore_is (w : World) (s t : ByteArray) (hs : s.size ≤ 1048576) (ht : t.size ≤ 1048576) {a : Int} (ha : InInt a) : Calls Try.prog 10 #[.string s, .int .i64 a, .string t] w fun e w' => e = .returned (storeV s a t) ∧ Below w.heap.size w w' := by
  unfold storeV
  have hm : InInt (t.size : Int) := ⟨by omega, by omega⟩
  rcases rangeE_or s.size a t.size with hr | hr
  · rw [if_pos hr]
    have HO := Lib.hid (out_is w s hs ha hm (outB_no hr))
    obtain ⟨h1, h2, h3⟩ := rangeE_yes hr
    obtain ⟨a, rfl⟩ := Int.eq_ofNat_of_zero_le h1
    simp only [Int.toNat_natCast]
    unfold putS
    have hadd : IntKind.i64.wrap ((a : Int) + (t.size : Int)) = ((a + t.size : Nat) : Int) := by rw [IntKind.wrap_i64]; omega
    have hlo := fun W => str_low W s (a := a) (by omega)
    have hhi := fun W => str_high W s (a := a + t.size) (by omega)
    have hx : (s.extract 0 a).size = a := by rw [size_extract]; omega
    have hy : (s.extract (a + t.size) s.size).size = s.size - (a + t.size) := by rw [size_extract]; omega
    have had1 := fun W => str_add W (x := s.extract 0 a) (y := t) (by rw [hx]; omega)
    have had2 := fun W => str_add W (x := s.extract 0 a ++ t) (y := s.extract (a + t.size) s.size) (by rw [size_append, hx, hy]; omega)
    generalize s.extract 0 a = X at *
    generalize s.extract (a + t.size) s.size = Y at *
    generalize X ++ t = Z at *
    generalize Z ++ Y = V at *
    generalize a + t.size = E at *
    clear ha hm hr h1 h2 h3 hs ht hx hy
    have hb1 := Below.refl w.heap.size w
    go_enter Try.func10, Try.ntmps10
    go_wp2_with fail
    refine HO.out.mono ?_
    rintro e w' ⟨rfl, rfl⟩
    go_wp2_with fail
    refine wp_region_from (w0 := w) (by kernel_rfl) (by kernel_rfl) hb1 ?_
    repeat (go_big_quiet_step (fail))
    refine wpQuiet_nil ?_
    intro wq hw'
    obtain ⟨⟨wy, hq⟩, hw''⟩ := hw'
    subst hw''
    go_wp2
    go_ret2
    exact ⟨rfl, hq⟩
  · rw [if_neg (by omega)]
    have HO := Lib.hid (out_is w s hs ha hm (outB_yes hr))
    clear ha hm hr hs ht
    go_enter Try.func10, Try.ntmps10
    go_wp2_with fail
    refine HO.out.mono ?_
    rintro e w' ⟨rfl, rfl⟩
    go_wp2
    go_ret2
    exact ⟨rfl, Below.refl _ _⟩
def wipeV (s : ByteArray) (a m : Int) : Value := if rangeE s.size a m = 0 then .tuple #[.string (putS s a.toNat (zeros m.toNat)), .int .i64 0] else .tuple #[.string s, .int .i64 15]
set_option maxHeartbeats 1000000 in
theorem rwipe_is (w : World) (s : ByteArray) (hs : s.size ≤ 1048576) {a m : Int} (ha : InInt a) (hm : InInt m) : Calls Try.prog 12 #[.string s, .int .i64 a, .int .i64 m] w fun e w' => e = .returned (wipeV s a m) ∧ Below w.heap.size w w' := by
  unfold wipeV
  rcases rangeE_or s.size a m with hr | hr
  · rw [if_pos hr]
    have HO := Lib.hid (out_is w s hs ha hm (outB_no hr))
    obtain ⟨h1, h2, h3⟩ := rangeE_yes hr
    obtain ⟨a, rfl⟩ := Int.eq_ofNat_of_zero_le h1
    obtain ⟨m, rfl⟩ := Int.eq_ofNat_of_zero_le h2
    simp only [Int.toNat_natCast]
    unfold putS
    rw [zeros_size]
    have hadd : IntKind.i64.wrap ((a : Int) + (m : Int)) = ((a + m : Nat) : Int) := by rw [IntKind.wrap_i64]; omega
    have hlo := fun W => str_low W s (a := a) (by omega)
    have hhi := fun W => str_high W s (a := a + m) (by omega)
    have hx : (s.extract 0 a).size = a := by rw [size_extract]; omega
    have hy : (s.extract (a + m) s.size).size = s.size - (a + m) := by rw [size_extract]; omega
    have had1 := fun W => str_add W (x := s.extract 0 a) (y := zeros m) (by rw [hx, zeros_size]; omega)
    have had2 := fun W => str_add W (x := s.extract 0 a ++ zeros m) (y := s.extract (a + m) s.size) (by rw [size_append, hx, hy, zeros_size]; omega)
    have HN : Hid (∀ p : From w, Calls Try.prog 9 #[.int .i64 m] p.W fun e w' => e = .returned (.string (zeros m)) ∧ Below p.W.heap.size p.W w') := fun p => rnew_is p.W (by omega)
    generalize s.extract 0 a = X at *
    generalize s.extract (a + m) s.size = Y at *
    generalize zeros m = t at *
    generalize X ++ t = Z at *
    generalize Z ++ Y = V at *
    generalize a + m = E at *
    clear ha hm hr h1 h2 h3 hs hx hy
    have hb1 := Below.refl w.heap.size w
    go_enter Try.func12, Try.ntmps12
    go_wp2_with fail
    refine HO.out.mono ?_
    rintro e w' ⟨rfl, rfl⟩
    go_wp2_with fail
    refine wp_region_from (w0 := w) (by kernel_rfl) (by kernel_rfl) hb1 ?_
    repeat (go_big_quiet_step (first | (go_at_call 9; with_reducible refine from_of (HN.out _))))
    refine wpQuiet_nil ?_
    intro wq hw'
    obtain ⟨⟨wy, hq⟩, hw''⟩ := hw'
    subst hw''
    go_wp2
    go_ret2
    exact ⟨rfl, hq⟩
  · rw [if_neg (by omega)]
    have HO := Lib.hid (out_is w s hs ha hm (outB_yes hr))
    clear ha hm hr hs
    go_enter Try.func12, Try.ntmps12
    go_wp2_with fail
    refine HO.out.mono ?_
    rintro e w' ⟨rfl, rfl⟩
    go_wp2
    go_ret2
    exact ⟨rfl, Below.refl _ _⟩
end Go.Proofs.Ytcfnnchbnlcppaa
