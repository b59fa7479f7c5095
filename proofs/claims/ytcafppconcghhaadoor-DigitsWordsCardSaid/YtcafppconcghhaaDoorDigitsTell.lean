/- Layer 11 (digits): the library's tables that its calls read; what Num, digit and value return: contracts. -/
import Derived.Test.YtcafppconcghhaaDoorDigitsText
import Derived.Test.YtcafppconcghhaaDoorShelf
import Derived.Lib.AppendIntMem
import Derived.Lib.OthersKept
import Derived.Laws.RangeAny
import Derived.LoopTactic
namespace Go.Proofs.YtcafppconcghhaaDoor
open Go.RowKit
open Go.Lib (itoa)

/-- The library's tables read as they are laid, whatever is done from block B on. -/
structure Tabs (B : Nat) (w : World) : Prop where
  ten : Lib.TabBelow Tryd.prog B w "internal/strconv.uint64pow10" .u64 Lib.pow10Tab
  two : ∀ w', Below B w w' → Go.Proofs.TabAt 3 Lib.deBruijn64tab w'
theorem Tabs.on {B : Nat} {w w' : World} (h : Tabs B w) (hb : Below B w w') : Tabs B w' := ⟨h.ten.on hb, fun _ h' => h.two _ (hb.trans h')⟩
theorem below_next {B : Nat} {a W w' : World} (hB : B ≤ W.heap.size) (h : Below B a W) (h' : Below W.heap.size W w') : Below B a w' := h.trans (h'.mono hB)

theorem num_is {B : Nat} (w : World) {n : Int} (hn : -9223372036854775808 ≤ n ∧ n ≤ 9223372036854775807) (hT : Tabs B w) : Calls Tryd.prog 12 #[.int .i64 n] w fun e w' => e = .returned (.string (mkT (itoa n))) ∧ Below w.heap.size w w' := by
  have HC := Lib.hid (Tryd.strconv_Itoa n hn.1 hn.2 w hT.ten.here)
  clear hT hn
  go_enter Tryd.func12, Tryd.ntmps12
  go_wp2_with fail
  refine HC.out.mono ?_
  rintro e w1 ⟨rfl, k, os, rfl⟩
  go_wp2
  go_ret
  exact ⟨rfl, Lib.below_grow _ _ (Nat.le_refl _) _ _⟩

/-- What a rune stands for to the base 16. -/
def digR (r : Nat) : Nat × Bool := if 48 ≤ r ∧ r ≤ 57 then (r - 48, true) else if 97 ≤ r ∧ r ≤ 102 then (r - 87, true) else (0, false)
theorem digR_byte {b : UInt8} : digR b.toNat = match dig b with
    | some d => (d, true)
    | none => (0, false) := by
  unfold digR dig
  by_cases h1 : 48 ≤ b.toNat ∧ b.toNat ≤ 57
  · rw [if_pos h1, if_pos h1]
  · rw [if_neg h1, if_neg h1]
    by_cases h2 : 97 ≤ b.toNat ∧ b.toNat ≤ 102
    · rw [if_pos h2, if_pos h2]
    · rw [if_neg h2, if_neg h2]
theorem digR_high {r : Nat} (h : 128 ≤ r) : digR r = (0, false) := by
  unfold digR
  rw [if_neg (by omega), if_neg (by omega)]
theorem dig_high {b : UInt8} (h : 128 ≤ b.toNat) : dig b = none := by
  unfold dig
  rw [if_neg (by omega), if_neg (by omega)]

theorem digit_is (w : World) {r : Nat} (hr : r ≤ 2147483647) {d : Nat} {k : Bool} (h : digR r = (d, k)) : Calls Tryd.prog 38 #[.int .i32 r] w fun e w' => e = .returned (.tuple #[.int .u64 d, .bool k]) ∧ w = w' := by
  unfold digR at h
  by_cases h1 : 48 ≤ r ∧ r ≤ 57
  · rw [if_pos h1] at h
    injection h with e1 e2
    subst e1 e2
    obtain ⟨h1, h2⟩ := h1
    have g1 : (48 : Int) ≤ (r : Int) := by omega
    have g2 : (r : Int) ≤ 57 := by omega
    clear hr
    go_enter Tryd.func38, Tryd.ntmps38
    go_wp2
    go_ret2
    refine ⟨?_, rfl⟩
    show Ending.returned (.tuple #[.int .u64 ((r : Int) - 48), .bool true]) = _
    rw [show (r : Int) - 48 = ((r - 48 : Nat) : Int) by omega]
  · rw [if_neg h1] at h
    by_cases h2 : 97 ≤ r ∧ r ≤ 102
    · rw [if_pos h2] at h
      injection h with e1 e2
      subst e1 e2
      have g1 : (48 : Int) ≤ (r : Int) := by omega
      have g2 : ¬ (r : Int) ≤ 57 := by omega
      have g3 : (97 : Int) ≤ (r : Int) := by omega
      have g4 : (r : Int) ≤ 102 := by omega
      clear hr h1
      go_enter Tryd.func38, Tryd.ntmps38
      go_wp2
      go_ret2
      refine ⟨?_, rfl⟩
      show Ending.returned (.tuple #[.int .u64 ((r : Int) - 97 + 10), .bool true]) = _
      rw [show (r : Int) - 97 + 10 = ((r - 87 : Nat) : Int) by omega]
    · rw [if_neg h2] at h
      injection h with e1 e2
      subst e1 e2
      clear hr
      go_enter Tryd.func38, Tryd.ntmps38
      go_wp2
      all_goals first
        | (exfalso; omega)
        | (go_ret2
           exact ⟨rfl, rfl⟩)

/-- What a loop over a text reads next. -/
theorem next_step {s : ByteArray} {k pos : Nat} {W : World} (hk : W.heap[k]? = some (.stringIter s pos)) (hp : pos < s.size) : ∃ R q : Nat, R ≤ 2147483647 ∧ pos < q ∧ ((byteAt s pos).toNat < 128 → R = (byteAt s pos).toNat ∧ q = pos + 1) ∧ (128 ≤ (byteAt s pos).toNat → 128 ≤ R) ∧ ∃ W', (∀ ty, (Instr.next (.pointer (some ⟨k, 0, none⟩)) true ty).run Tryd.prog W = .ok (.tuple #[.bool true, .int .i64 pos, .int .i32 R]) W') ∧ W'.heap[k]? = some (.stringIter s q) ∧ (∀ j, j ≠ k → W'.heap[j]? = W.heap[j]?) ∧ W'.heap.size = W.heap.size ∧ ∀ B a, Below B a W → B ≤ k → Below B a W' := by
  have hb : s[pos]'hp = byteAt s pos := byteAt_get hp
  refine ⟨(Utf8.decode s pos).1, pos + (Utf8.decode s pos).2, decode_le s pos, ?_, ?_, ?_, W.iterAt k s (pos + (Utf8.decode s pos).2), fun ty => Lib.run_next_any_at W k s pos ty hk hp, Lib.iterAt_heap W k s pos _ hk, fun j hj => Lib.iterAt_other W k j s _ hj, Lib.iterAt_size W k s _, fun B a h hB => Lib.below_iterAt h hB s _⟩
  · by_cases h : (s[pos]'hp).toNat < 128
    · rw [decode_ascii s pos hp h]; exact Nat.lt_succ_self _
    · have := (decode_high s pos hp (by omega)).2
      omega
  · intro h
    rw [← hb] at h ⊢
    rw [decode_ascii s pos hp h]
    exact ⟨rfl, rfl⟩
  · intro h
    rw [← hb] at h
    exact (decode_high s pos hp h).1
theorem next_end {s : ByteArray} {k pos : Nat} {W : World} (hk : W.heap[k]? = some (.stringIter s pos)) (hp : ¬ pos < s.size) : ∀ ty, (Instr.next (.pointer (some ⟨k, 0, none⟩)) true ty).run Tryd.prog W = .ok (.tuple #[.bool false]) W := fun ty => Lib.run_next_end_at W k s pos ty hk hp
theorem iterPos_of {w : World} {k : Nat} {s : ByteArray} {p : Nat} (h : w.heap[k]? = some (.stringIter s p)) : w.iterPos k = p := by simp [World.iterPos, h]
end Go.Proofs.YtcafppconcghhaaDoor
