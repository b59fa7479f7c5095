/- Layer 12 (quote): the reader, as it lies in memory; what HasPrefix and IndexByte of the library return, and which byte the reader's steps tell: contracts. -/
import Derived.Test.YtggiebpjmihpiaaQuoteText
namespace Go.Proofs.Ytggiebpjmihpiaa
open Go.RowKit

theorem prefix_in (w : World) (a p : ByteArray) {k : Bool} (hk : decide (txt p <+: txt a) = k) : Calls Try.prog 23 #[.string a, .string p] w fun e w' => e = .returned (.bool k) ∧ w = w' := by
  obtain ⟨n, hn⟩ : ∃ n, a.size = n := ⟨_, rfl⟩
  obtain ⟨m, hm⟩ : ∃ m, p.size = m := ⟨_, rfl⟩
  by_cases h : m ≤ n
  · have hs : ∀ W, (Instr.slice 9 (.string a) none (some (.int .i64 (m : Int))) none).run Try.prog W = .ok (.string (a.extract 0 m)) W := fun W => by
      have e2 : (0 : Int) ≤ (m : Int) := by omega
      have h' : m ≤ a.size := by omega
      simp [Instr.slice, Instr.sliceBounds, Instr.sliceBound, asIntOf, run_underlying Try.underlying9, e2, h']
    obtain ⟨x, hx⟩ : ∃ x, a.extract 0 m = x := ⟨_, rfl⟩
    have hq : (x.toList == p.toList) = k := by
      rw [ByteArray.toList_eq, ByteArray.toList_eq, ← hx, ← hk]
      have e1 : (a.extract 0 m).data.toList = (txt a).take m := by
        rw [show (a.extract 0 m).data.toList = txt (a.extract 0 m) from rfl, txt_extract, List.drop_zero, Nat.sub_zero]
      rw [e1, Bool.eq_iff_iff, beq_iff_eq, decide_eq_true_iff]
      constructor
      · intro e
        exact ⟨(txt a).drop m, by rw [show txt p = (txt a).take m from e.symm, List.take_append_drop]⟩
      · intro e
        have := List.prefix_iff_eq_take.1 e
        rw [txt_len, hm] at this
        exact this.symm
    rw [hx] at hs
    have d1 : decide ((m : Int) ≤ (n : Int)) = true := decide_eq_true (by omega)
    have d2 : (m : Int) ≤ (n : Int) := by omega
    clear hx hk
    go_enter Try.func23, Try.ntmps23
    go_wp2
    go_ret
    exact ⟨rfl, rfl⟩
  · have hf : k = false := by
      rw [← hk]
      refine decide_eq_false fun e => ?_
      have := e.length_le
      rw [txt_len, txt_len] at this
      omega
    subst hf
    have d1 : decide ((m : Int) ≤ (n : Int)) = false := decide_eq_false (by omega)
    have d2 : ¬ (m : Int) ≤ (n : Int) := by omega
    clear hk
    go_enter Try.func23, Try.ntmps23
    go_wp2
    go_ret
    exact ⟨rfl, rfl⟩
theorem prefix_is (w : World) (a p : ByteArray) {k : Bool} (hk : decide (txt p <+: txt a) = k) : Calls Try.prog 21 #[.string a, .string p] w fun e w' => e = .returned (.bool k) ∧ w = w' := by
  have H := Lib.hid (prefix_in w a p hk)
  clear hk
  go_enter Try.func21, Try.ntmps21
  go_wp2_with fail
  refine H.out.mono ?_
  rintro e w1 ⟨rfl, rfl⟩
  go_wp2
  go_ret
  exact ⟨rfl, rfl⟩

theorem index_run (w : World) (c : UInt8) : (callFunc 24 #[.string hexT, .int .u8 (c.toNat : Int)]).run Try.prog w = .ok (.value (.int .i64 (Lib.indexByte (txt hexT) c))) w := by
  rw [run_callFunc_extern Try.func24 (by kernel_rfl) (by kernel_rfl) (by kernel_rfl) (e := Extern.BytealgIndexByte.indexByte) (by kernel_rfl), Lib.run_indexByteString]
  simp only [Result.andThen]
  have e : (c.toNat : Int).toNat.toUInt8 = c := by
    rw [Int.toNat_natCast]
    exact UInt8.ofNat_toNat
  rw [e]
theorem index_in (w : World) (c : UInt8) {i : Int} (hi : Lib.indexByte (txt hexT) c = i) : Calls Try.prog 22 #[.string hexT, .int .u8 (c.toNat : Int)] w fun e w' => e = .returned (.int .i64 i) ∧ w = w' := by
  have h := fun W => index_run W c
  rw [hi] at h
  clear hi
  go_enter Try.func22, Try.ntmps22
  go_wp2
  go_ret
  exact ⟨rfl, rfl⟩
theorem index_is (w : World) (c : UInt8) {i : Int} (hi : Lib.indexByte (txt hexT) c = i) : Calls Try.prog 20 #[.string hexT, .int .u8 (c.toNat : Int)] w fun e w' => e = .returned (.int .i64 i) ∧ w = w' := by
  have H := Lib.hid (index_in w c hi)
  clear hi
  go_enter Try.func20, Try.ntmps20
  go_wp2_with fail
  refine H.out.mono ?_
  rintro e w1 ⟨rfl, rfl⟩
  go_wp2
  go_ret
  exact ⟨rfl, rfl⟩
theorem index_most (l : List UInt8) (c : UInt8) : Lib.indexByte l c ≤ l.length - 1 := by
  induction l with
  | nil => exact Int.le_refl _
  | cons b l ih =>
    unfold Lib.indexByte
    split
    · rw [List.length_cons]; omega
    · split
      · rw [List.length_cons]; omega
      · rw [List.length_cons]; omega

/-- A reader's fields. -/
def rd (s : ByteArray) (a : Nat) (v : Value) : Nat → Value
  | 0 => .string s
  | 1 => .int .i64 a
  | _ => v
theorem nth_left (s : ByteArray) (a k : Nat) : nth (left s a) k = byteAt s (a + k) := by
  unfold nth
  rw [byteAt_txt, List.getElem?_drop]
theorem byteAt_out {s : ByteArray} {j : Nat} (h : s.size ≤ j) : byteAt s j = 0 := by
  rw [byteAt_txt, List.getElem?_eq_none (by rw [txt_len]; exact h)]
  rfl
theorem ahead_is (w : World) {q : Nat} {s : ByteArray} {a k : Nat} {v : Value} (h : w.rowIs q 32 3 (rd s a v)) (ha : a ≤ s.size) (hs : s.size ≤ 4096) (hk : k ≤ 3) {z : Int} (hz : z = (k : Int)) {b : UInt8} (hb : nth (left s a) k = b) : Calls Try.prog 13 #[.pointer (some ⟨q, 0, none⟩), .int .i64 z] w fun e w' => e = .returned (.int .u8 (b.toNat : Int)) ∧ ∃ n, w' = w.drewN n := by
  subst hz
  rw [nth_left] at hb
  have c0 : ∀ n, (w.drewN n).cell? ⟨q, 0, none⟩ = some (.string s) := fun n => World.rowIs.cell (row_drewN h n) (i := 0) (by omega)
  have c1 : ∀ n, (w.drewN n).cell? ⟨q, 1, none⟩ = some (.int .i64 a) := fun n => World.rowIs.cell (row_drewN h n) (i := 1) (by omega)
  have c00 := c0 0
  have c10 := c1 0
  obtain ⟨m, hm⟩ : ∃ m, s.size = m := ⟨_, rfl⟩
  rw [hm] at ha hs
  have hw : IntKind.i64.wrap ((m : Int) - (a : Int)) = ((m - a : Nat) : Int) := by rw [IntKind.wrap_i64]; omega
  obtain ⟨d, hd⟩ : ∃ d, m - a = d := ⟨_, rfl⟩
  rw [hd] at hw
  by_cases hlt : d ≤ k
  · have d1 : (d : Int) ≤ (k : Int) := by omega
    have d2 : decide ((d : Int) ≤ (k : Int)) = true := decide_eq_true d1
    have hb0 : b = 0 := by rw [← hb]; exact byteAt_out (by omega)
    subst hb0
    clear hb
    go_enter Try.func13, Try.ntmps13
    go_wp2_with fail
    go_quiet (fail)
    go_wp2
    go_ret
    exact ⟨rfl, nq, rfl⟩
  · have d1 : ¬ (d : Int) ≤ (k : Int) := by omega
    have d2 : decide ((d : Int) ≤ (k : Int)) = false := decide_eq_false d1
    have hw2 : IntKind.i64.wrap ((a : Int) + (k : Int)) = ((a + k : Nat) : Int) := by rw [IntKind.wrap_i64]; omega
    obtain ⟨j, hj⟩ : ∃ j, a + k = j := ⟨_, rfl⟩
    rw [hj] at hw2 hb
    have hat : ∀ W, (Instr.index 9 (.string s) (.int .i64 (j : Int))).run Try.prog W = .ok (.int .u8 (b.toNat : Int)) W := fun W => by rw [← hb]; exact str_at W s (by omega)
    clear hb hj hd
    go_enter Try.func13, Try.ntmps13
    go_wp2_with fail
    go_quiet (fail)
    have c01 := c0 nq
    have c11 := c1 nq
    go_wp2_with fail
    obtain ⟨n1, hn1⟩ : ∃ n1, nq = n1 := ⟨_, rfl⟩
    rw [hn1] at *
    go_quiet (fail)
    go_wp2
    go_ret
    exact ⟨rfl, n1 + nq, rfl⟩

theorem itself_is (w : World) {q : Nat} {s : ByteArray} {a : Nat} {v : Value} (h : w.rowIs q 32 3 (rd s a v)) (ha : a ≤ s.size) (hs : s.size ≤ 4096) {b : UInt8} (hb : nth (left s a) 0 = b) : Calls Try.prog 16 #[.pointer (some ⟨q, 0, none⟩)] w fun e w' => e = .returned (.int .u8 (b.toNat : Int)) ∧ ∃ n, w' = w.drewN n := by
  have H := Lib.hid (ahead_is w h ha hs (k := 0) (by omega) (z := 0) rfl hb)
  clear h ha hs hb
  go_enter Try.func16, Try.ntmps16
  go_wp2_with fail
  refine H.out.mono ?_
  rintro e w1 ⟨rfl, n, rfl⟩
  go_wp2
  go_ret
  exact ⟨rfl, n, rfl⟩
theorem escaped_is (w : World) {q : Nat} {s : ByteArray} {a : Nat} {v : Value} (h : w.rowIs q 32 3 (rd s a v)) (ha : a ≤ s.size) (hs : s.size ≤ 4096) {b : UInt8} (hb : nth (left s a) 1 = b) : Calls Try.prog 17 #[.pointer (some ⟨q, 0, none⟩)] w fun e w' => e = .returned (.int .u8 (b.toNat : Int)) ∧ ∃ n, w' = w.drewN n := by
  have H := Lib.hid (ahead_is w h ha hs (k := 1) (by omega) (z := 1) rfl hb)
  clear h ha hs hb
  go_enter Try.func17, Try.ntmps17
  go_wp2_with fail
  refine H.out.mono ?_
  rintro e w1 ⟨rfl, n, rfl⟩
  go_wp2
  go_ret
  exact ⟨rfl, n, rfl⟩
theorem numbered_is (w : World) {q : Nat} {s : ByteArray} {a : Nat} {v : Value} (h : w.rowIs q 32 3 (rd s a v)) (ha : a ≤ s.size) (hs : s.size ≤ 4096) {b : UInt8} (hb : numB (nth (left s a) 2) (nth (left s a) 3) = b) : Calls Try.prog 18 #[.pointer (some ⟨q, 0, none⟩)] w fun e w' => e = .returned (.int .u8 (b.toNat : Int)) ∧ ∃ n, w' = w.drewN n := by
  obtain ⟨x, hx⟩ : ∃ x, nth (left s a) 2 = x := ⟨_, rfl⟩
  obtain ⟨y, hy⟩ : ∃ y, nth (left s a) 3 = y := ⟨_, rfl⟩
  rw [hx, hy] at hb
  obtain ⟨i, hi⟩ : ∃ i, Lib.indexByte (txt hexT) x = i := ⟨_, rfl⟩
  obtain ⟨j, hj⟩ : ∃ j, Lib.indexByte (txt hexT) y = j := ⟨_, rfl⟩
  have H2 := Lib.hid fun n => ahead_is (w.drewN n) (row_drewN h n) ha hs (k := 2) (by omega) (z := 2) rfl hx
  have H3 := Lib.hid fun n => ahead_is (w.drewN n) (row_drewN h n) ha hs (k := 3) (by omega) (z := 3) rfl hy
  have I2 := Lib.hid fun W => index_is W x hi
  have I3 := Lib.hid fun W => index_is W y hj
  have i1 := Lib.indexByte_ge (txt hexT) x
  have i2 := index_most (txt hexT) x
  have j1 := Lib.indexByte_ge (txt hexT) y
  have j2 := index_most (txt hexT) y
  have ln : ((txt hexT).length : Int) = 16 := rfl
  rw [ln] at i2 j2
  rw [hi] at i1 i2
  rw [hj] at j1 j2
  have w1 : IntKind.i64.wrap (i * 16) = i * 16 := by rw [IntKind.wrap_i64]; omega
  have w2 : IntKind.i64.wrap (i * 16 + j) = i * 16 + j := by rw [IntKind.wrap_i64]; omega
  have w3 : IntKind.u8.wrap (i * 16 + j) = (b.toNat : Int) := by
    rw [IntKind.wrap_u8', ← hb]
    unfold numB numI
    rw [hi, hj, UInt8.toNat_ofNat']
    omega
  have H20 := Lib.hid (H2.out 0)
  clear h ha hs hb hx hy hi hj ln i1 i2 j1 j2 H2
  go_enter Try.func18, Try.ntmps18
  go_wp2_with fail
  refine H20.out.mono ?_
  rintro e w1 ⟨rfl, n, rfl⟩
  go_wp2_with fail
  refine (I2.out _).mono ?_
  rintro e w1 ⟨rfl, rfl⟩
  go_wp2_with fail
  refine (H3.out n).mono ?_
  rintro e w1 ⟨rfl, n1, rfl⟩
  go_wp2_with fail
  refine (I3.out _).mono ?_
  rintro e w1 ⟨rfl, rfl⟩
  go_wp2
  go_ret
  exact ⟨rfl, n + n1, rfl⟩
end Go.Proofs.Ytggiebpjmihpiaa
