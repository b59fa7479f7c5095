/- Layer 10 (bytes): contracts of Size, wrong, New and Clean; bytes that New did not give. -/
import Derived.Test.YtcfnnchbnlcppaaBytesMem
namespace Go.Proofs.Ytcfnnchbnlcppaa
open Go.RowKit Go.Maps

section
variable {w : World} {g b n : Nat} {c : Nat → UInt8}
theorem size_at (h : ChunkAt w g b n c) : Calls Try.prog 19 #[.pointer (some ⟨g, 0, none⟩)] w fun e w' => e = .returned (.int .i64 n) ∧ w = w' := by
  have c0 := h.c0
  clear h
  go_enter Try.func19, Try.ntmps19
  go_wp2
  go_ret
  exact ⟨rfl, rfl⟩
/-- 0, if the bytes are all within; else ErrRange. -/
def rangeE (n : Nat) (a m : Int) : Int := if a < 0 ∨ m < 0 ∨ n - m < a then 15 else 0
theorem wrong_at (h : ChunkAt w g b n c) {a m : Int} (ha : InInt a) (hm : InInt m) {r : Int} (hr : rangeE n a m = r) : Calls Try.prog 26 #[.pointer (some ⟨g, 0, none⟩), .int .i64 a, .int .i64 m] w fun e w' => e = .returned (.int .i64 r) ∧ w = w' := by
  subst hr
  unfold rangeE
  obtain ⟨ha1, ha2⟩ := ha
  obtain ⟨hm1, hm2⟩ := hm
  have hp := h.pos
  have hs := h.small
  have hne : ((n : Int) == 0) = false := by simp; omega
  by_cases h1 : a < 0
  · rw [if_pos (.inl h1)]
    have d1 : decide (a < 0) = true := decide_eq_true h1
    go_enter Try.func26, Try.ntmps26
    go_wp2_with fail
    refine (size_at h).mono ?_
    rintro e w' ⟨rfl, rfl⟩
    clear h
    go_wp2
    go_ret
    exact ⟨rfl, rfl⟩
  have d1 : decide (a < 0) = false := decide_eq_false h1
  by_cases h2 : m < 0
  · rw [if_pos (.inr (.inl h2))]
    have d2 : decide (m < 0) = true := decide_eq_true h2
    go_enter Try.func26, Try.ntmps26
    go_wp2_with fail
    refine (size_at h).mono ?_
    rintro e w' ⟨rfl, rfl⟩
    clear h
    go_wp2
    go_ret
    exact ⟨rfl, rfl⟩
  have d2 : decide (m < 0) = false := decide_eq_false h2
  have hw : IntKind.i64.wrap ((n : Int) - m) = n - m := by rw [IntKind.wrap_i64]; omega
  by_cases h3 : (n : Int) - m < a
  · rw [if_pos (.inr (.inr h3))]
    have d3 : decide ((n : Int) - m < a) = true := decide_eq_true h3
    go_enter Try.func26, Try.ntmps26
    go_wp2_with fail
    refine (size_at h).mono ?_
    rintro e w' ⟨rfl, rfl⟩
    clear h
    go_wp2
    go_ret
    exact ⟨rfl, rfl⟩
  · rw [if_neg (by omega)]
    have d3 : decide ((n : Int) - m < a) = false := decide_eq_false h3
    go_enter Try.func26, Try.ntmps26
    go_wp2_with fail
    refine (size_at h).mono ?_
    rintro e w' ⟨rfl, rfl⟩
    clear h
    go_wp2
    go_ret
    exact ⟨rfl, rfl⟩
theorem clean_at (h : ChunkAt w g b n c) {r : Bool} (hr : (cnt c n == 0) = r) : Calls Try.prog 16 #[.pointer (some ⟨g, 0, none⟩)] w fun e w' => e = .returned (.bool r) ∧ w = w' := by
  obtain ⟨D, hm, hd⟩ := h.mapp
  have c1 := h.c1
  have hln := fun ty => World.ownsMap.len hm Try.underlying39 ty
  obtain ⟨k, hk⟩ : ∃ k : Nat, Maps.size D = k := ⟨_, rfl⟩
  rw [hk] at hln
  have HR : Hid (((k : Int) == 0) = r) := by
    show _ = _
    have h1 := keys_none h.small h.out
    rw [← size_keys hm hd, hk] at h1
    rw [← hr, Bool.eq_iff_iff]
    simp only [beq_iff_eq]
    omega
  clear hk hm hd hr h
  go_enter Try.func16, Try.ntmps16
  go_wp2
  go_ret
  exact ⟨by show Ending.returned (.bool ((k : Int) == 0)) = _; rw [HR.out], rfl⟩
end

theorem rangeE_yes {n : Nat} {a m : Int} (h : rangeE n a m = 0) : 0 ≤ a ∧ 0 ≤ m ∧ a + m ≤ n := by
  unfold rangeE at h
  split at h
  · cases h
  · omega
theorem rangeE_or (n : Nat) (a m : Int) : rangeE n a m = 0 ∨ rangeE n a m = 15 := by
  unfold rangeE
  split
  · exact .inr rfl
  · exact .inl rfl

/-! ### New -/
theorem new_out (w : World) {n : Int} (hn : n < 1 ∨ 1048576 < n) (hi : InInt n) : Calls Try.prog 8 #[.int .i64 n] w fun e w' => e = .returned (.pointer none) ∧ w = w' := by
  obtain ⟨h1, h2⟩ := hi
  by_cases h : n < 1
  · have d : decide (n < 1) = true := decide_eq_true h
    go_enter Try.func8, Try.ntmps8
    go_wp2
    go_ret
    exact ⟨rfl, rfl⟩
  · have d : decide (n < 1) = false := decide_eq_false h
    have d2 : decide (1048576 < n) = true := decide_eq_true (by omega)
    go_enter Try.func8, Try.ntmps8
    go_wp2
    go_ret
    exact ⟨rfl, rfl⟩
theorem new_lies (w : World) {n : Nat} (h1 : 1 ≤ n) (hn : n ≤ 1048576) : ChunkAt ((w.alloc (.map #[] 0)).alloc (.cells #[.int .i64 n, .map (some w.heap.size)] 41)) (w.heap.size + 1) w.heap.size n zeroF := by
  refine ⟨?_, ⟨.map [], ?_, rowsAre_new⟩, fun _ _ => rfl, h1, hn⟩
  · have := World.rowIs_alloc (w.alloc (.map #[] 0)) #[.int .i64 n, .map (some w.heap.size)] 41 (bytesF n w.heap.size) (by
      intro i hi
      match i, hi with
      | 0, _ => rfl
      | 1, _ => rfl)
    simpa using this
  · exact (World.ownsMap_made w Try.prog 3 rowElem).alloc _
def NewIn (w : World) (n : Nat) (e : Ending) (w' : World) : Prop := ∃ g b, e = .returned (.pointer (some ⟨g, 0, none⟩)) ∧ ChunkAt w' g b n zeroF ∧ w.heap.size ≤ g ∧ w.heap.size ≤ b ∧ Below w.heap.size w w'
theorem new_in (w : World) {n : Nat} (h1 : 1 ≤ n) (hn : n ≤ 1048576) : Calls Try.prog 8 #[.int .i64 n] w (NewIn w n) := by
  have hmm := @run_makeMap Try.prog
  have H := Lib.hid (new_lies w h1 hn)
  have d1 : decide ((n : Int) < 1) = false := decide_eq_false (by omega)
  have d1' : decide (n < 1) = false := decide_eq_false (by omega)
  have d2 : decide (1048576 < (n : Int)) = false := decide_eq_false (by omega)
  have d2' : decide (1048576 < n) = false := decide_eq_false (by omega)
  go_enter Try.func8, Try.ntmps8
  go_wp2
  go_ret
  exact ⟨_, _, rfl, H.out, by simp, by simp, ((Below.refl _ _).alloc (Nat.le_refl _) _).alloc (by simp) _⟩

/-! ### bytes that New did not give -/
def noneF : Nat → Value
  | 0 => .int .i64 0
  | _ => .map none
/-- nil, or zero bytes. -/
def Gone (w : World) (v : Value) : Prop := v = .pointer none ∨ ∃ g, v = .pointer (some ⟨g, 0, none⟩) ∧ w.rowIs g 41 2 noneF
theorem Gone.below {w w' : World} {v : Value} (h : Gone w v) (hb : Below w.heap.size w w') : Gone w' v := by
  rcases h with h | ⟨g, e, hr⟩
  · exact .inl h
  · exact .inr ⟨g, e, hr.of_block (hb.block g hr.lt)⟩
section
variable {w : World} {v : Value}
theorem size_gone (h : Gone w v) : Calls Try.prog 19 #[v] w fun e w' => e = .returned (.int .i64 0) ∧ w = w' := by
  rcases h with rfl | ⟨g, rfl, hr⟩
  · go_enter Try.func19, Try.ntmps19
    go_wp2
    go_ret
    exact ⟨rfl, rfl⟩
  · have c0 := hr.cell (i := 0) (by omega)
    simp only [noneF] at c0
    clear hr
    go_enter Try.func19, Try.ntmps19
    go_wp2
    go_ret
    exact ⟨rfl, rfl⟩
theorem wrong_gone (h : Gone w v) {a m : Int} : Calls Try.prog 26 #[v, .int .i64 a, .int .i64 m] w fun e w' => e = .returned (.int .i64 16) ∧ w = w' := by
  go_enter Try.func26, Try.ntmps26
  go_wp2_with fail
  refine (size_gone h).mono ?_
  rintro e w' ⟨rfl, rfl⟩
  go_wp2
  go_ret
  exact ⟨rfl, rfl⟩
theorem clean_gone (h : Gone w v) : Calls Try.prog 16 #[v] w fun e w' => e = .returned (.bool true) ∧ w = w' := by
  have hln := fun (W : World) ty => Maps.len_nil (P := Try.prog) (w := W) Try.underlying39 ty
  rcases h with rfl | ⟨g, rfl, hr⟩
  · go_enter Try.func16, Try.ntmps16
    go_wp2
    go_ret
    exact ⟨rfl, rfl⟩
  · have c1 := hr.cell (i := 1) (by omega)
    simp only [noneF] at c1
    clear hr
    go_enter Try.func16, Try.ntmps16
    go_wp2
    go_ret
    exact ⟨rfl, rfl⟩
end
end Go.Proofs.Ytcfnnchbnlcppaa
