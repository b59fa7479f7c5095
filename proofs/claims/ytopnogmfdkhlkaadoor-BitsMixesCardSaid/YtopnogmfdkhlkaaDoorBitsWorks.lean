/- What the chapter's example (works) and made return: contracts. -/
import Derived.Test.YtopnogmfdkhlkaaDoorBitsIn
namespace Go.Proofs.YtopnogmfdkhlkaaDoor
open Go.RowKit

def TrueBelow (w : World) (e : Ending) (w' : World) : Prop := e = .returned (.bool true) ∧ Below w.heap.size w w'
def exF : Nat → Bool := putF 9 (putF 9 (putF 9 (putF 9 (putF 9 (putF 9 none_ 1) 2) 3) 7) 7) 9
set_option maxRecDepth 100000 in
set_option maxHeartbeats 1600000 in
theorem works_any {w : World} (hT : TabOk w) : Calls Tryd.prog 7 #[] w (TrueBelow w) := by
  have h0 := hT.lt
  have hnot := not_any
  have r1 : Hid (runV exF 9 3 = 1) := by show _ = _; decide
  have r2 : Hid (nextV exF 9 3 = 7) := by show _ = _; decide
  have r3 : Hid (runV exF 9 4 = -1) := by show _ = _; decide
  have r4 : Hid ((cnt exF 9 : Int) = 4) := by show _ = _; decide
  have r5 : Hid (lastV exF 9 = 7) := by show _ = _; decide
  have r6 : Hid (nextV exF 9 (-1) = 1) := by show _ = _; decide
  have p1 : Hid (putB 9 none_ 1 = true) := by show _ = _; decide
  have p2 : Hid (putB 9 (putF 9 none_ 1) 2 = true) := by show _ = _; decide
  have p3 : Hid (putB 9 (putF 9 (putF 9 none_ 1) 2) 3 = true) := by show _ = _; decide
  have p4 : Hid (putB 9 (putF 9 (putF 9 (putF 9 none_ 1) 2) 3) 7 = true) := by show _ = _; decide
  have p5 : Hid (putB 9 (putF 9 (putF 9 (putF 9 (putF 9 none_ 1) 2) 3) 7) 7 = false) := by show _ = _; decide
  have p6 : Hid (putB 9 (putF 9 (putF 9 (putF 9 (putF 9 (putF 9 none_ 1) 2) 3) 7) 7) 9 = false) := by show _ = _; decide
  go_enter Tryd.func7, Tryd.ntmps7
  go_wp2_with fail
  refine (new_in (n := 9) (by omega)).mono ?_
  rintro e w1 ⟨g, rfl, s1, b1⟩
  go_wp2_with fail
  refine (put_at s1 1).mono ?_
  rintro e w2 ⟨rfl, s2, c2⟩
  rw [p1.out]
  go_wp2_with fail
  refine (put_at s2 2).mono ?_
  rintro e w3 ⟨rfl, s3, c3⟩
  rw [p2.out]
  go_wp2_with fail
  refine (put_at s3 3).mono ?_
  rintro e w4 ⟨rfl, s4, c4⟩
  rw [p3.out]
  go_wp2_with fail
  refine (put_at s4 7).mono ?_
  rintro e w5 ⟨rfl, s5, c5⟩
  rw [p4.out]
  go_wp2_with fail
  refine (put_at s5 7).mono ?_
  rintro e w6 ⟨rfl, s6, c6⟩
  rw [p5.out]
  go_wp2_with fail
  refine (put_at s6 9).mono ?_
  rintro e w7 ⟨rfl, s7, c7⟩
  rw [p6.out]
  have c17 : Chg w.heap.size w1.heap.size w1 w7 := (((((c2.trans c3).trans c4).trans c5).trans c6).trans c7)
  have b7 : Below w.heap.size w w7 := c17.below b1 b1.size (.inl (Nat.le_refl _))
  have hT7 : TabOk w7 := hT.below b7 h0
  have s7' : SetIn w7 w.heap.size w1.heap.size _ 9 exF := s7
  clear s1 s2 s3 s4 s5 s6 s7 c2 c3 c4 c5 c6 c7 c17 p1 p2 p3 p4 p5 p6
  go_wp2_with fail
  refine (run_at s7' hT7 (by omega) r1.out).mono ?_
  rintro e w' ⟨rfl, rfl⟩
  go_wp2_with fail
  refine (next_at s7' hT7 (by omega) r2.out).mono ?_
  rintro e w' ⟨rfl, rfl⟩
  go_wp2_with fail
  refine (run_at s7' hT7 (by omega) r3.out).mono ?_
  rintro e w' ⟨rfl, rfl⟩
  go_wp2_with fail
  refine (count_at s7' r4.out).mono ?_
  rintro e w8 ⟨rfl, s8, c8⟩
  have b8 : Below w.heap.size w w8 := c8.below b7 b7.size (.inl (Nat.le_refl _))
  have hT8 : TabOk w8 := hT.below b8 h0
  go_wp2_with fail
  refine (last_at s8 r5.out).mono ?_
  rintro e w' ⟨rfl, rfl⟩
  go_wp2_with fail
  refine (first_at s8 hT8 r6.out).mono ?_
  rintro e w' ⟨rfl, rfl⟩
  go_wp2
  go_ret
  exact ⟨rfl, b8⟩

/-! ### bytes that come in; made -/
/-- A slice of bytes that reads as xs. -/
def BytesAt (w : World) (A : Option Addr) (xs : List Nat) : Prop := xs = [] ∨ ∃ b off, A = some ⟨b, off, none⟩ ∧ b < w.heap.size ∧ ∀ (k : Nat) (x : Nat), xs[k]? = some x → x < 256 ∧ w.cell? ⟨b, off + k, none⟩ = some (.int .u8 x)
theorem BytesAt.at_ {w : World} {A : Option Addr} {xs : List Nat} {k : Nat} (h : BytesAt w A xs) (hk : k < xs.length) : ∃ b off, A = some ⟨b, off, none⟩ ∧ (xs[k]'hk) < 256 ∧ w.cell? ⟨b, off + k, none⟩ = some (.int .u8 (xs[k]'hk : Nat)) := by
  rcases h with h | ⟨b, off, e, _, hc⟩
  · subst h; simp at hk
  · obtain ⟨h1, h2⟩ := hc k _ (List.getElem?_eq_getElem hk)
    exact ⟨b, off, e, h1, h2⟩
theorem BytesAt.below {w w' : World} {A : Option Addr} {xs : List Nat} (h : BytesAt w A xs) (hb : Below w.heap.size w w') : BytesAt w' A xs := by
  rcases h with h | ⟨b, off, e, hlt, hc⟩
  · exact .inl h
  · exact .inr ⟨b, off, e, Nat.lt_of_lt_of_le hlt hb.size, fun k x hx => ⟨(hc k x hx).1, (hb.cell (p := ⟨b, off + k, none⟩) hlt).trans (hc k x hx).2⟩⟩
/-- What the numbers of a list put into a set of that size make of it. -/
def putsF (size : Nat) (xs : List Nat) : Nat → Bool := fun i => decide (i < size) && decide (i ∈ xs)
theorem putsF_nil (size : Nat) : putsF size [] = none_ := funext fun i => by unfold putsF none_; simp
theorem putsF_snoc (size : Nat) (xs : List Nat) (x : Nat) : ∀ j, putF size (putsF size xs) (x : Int) j = putsF size (xs ++ [x]) j := fun j => by
  unfold putF putsF
  by_cases h : j = x
  · subst h; by_cases hs : j < size <;> simp [hs]
  · have : ¬ ((j : Int) = (x : Int)) := by omega
    simp [h, this]
theorem take_snoc {xs : List Nat} {k : Nat} (h : k < xs.length) : xs.take (k + 1) = xs.take k ++ [xs[k]'h] := by rw [List.take_succ_eq_append_getElem h]
def MadeIn (w : World) (size : Nat) (xs : List Nat) (e : Ending) (w' : World) : Prop := NewIn w size (putsF size xs) e w'
set_option maxHeartbeats 800000 in
theorem made_any {w : World} {A : Option Addr} {xs : List Nat} {n c size : Nat} (h : BytesAt w A xs) (hn : n = xs.length) (hn2 : n ≤ 9223372036854775807) (hs : size ≤ 1048576) :
    Calls Tryd.prog 24 #[.int .i64 size, .slice A n c] w (MadeIn w size xs) := by
  have HN := Lib.hid hn
  have H := Lib.hid h
  clear h hn
  go_enter Tryd.func24, Tryd.ntmps24
  go_wp2_with (go_at_call 8; refine (new_in hs).mono ?_; rintro e w1 ⟨g, rfl, s1, b1⟩)
  have s1' : SetIn w1 w.heap.size w1.heap.size (.pointer (some ⟨g, 0, none⟩)) size (putsF size (xs.take 0)) := s1.congr fun j => by rw [List.take_zero, putsF_nil]
  clear s1
  go_loopw [6] (fun i wr => ∃ k : Nat, k ≤ n ∧ i = .int .i64 k ∧ SetIn wr w.heap.size w1.heap.size (.pointer (some ⟨g, 0, none⟩)) size (putsF size (xs.take k)) ∧ Below w.heap.size w wr ∧ Chg w.heap.size w1.heap.size w1 wr) (fun i _ => n - (intOf i).toNat)
  case atStart => exact ⟨0, by omega, rfl, s1', b1, Chg.refl _ _ _⟩
  case round =>
    obtain ⟨k, hk, rfl, s2, b2, c2⟩ := hrel
    by_cases hlt : k < n
    · have hxl : k < xs.length := by have := HN.out; omega
      have ht := take_snoc hxl
      obtain ⟨b, off, rfl, hx, hc⟩ := (H.out.below b2).at_ hxl
      generalize xs[k]'hxl = x at *
      have HT := Lib.hid ht
      clear ht
      have hi : 0 ≤ (k : Int) ∧ (k : Int) < (n : Int) := by omega
      go_wp2_with fail
      refine (put_at s2 (x : Int)).mono ?_
      rintro e w3 ⟨rfl, s3, c3⟩
      have b3 : Below w.heap.size w w3 := c3.below b2 b2.size (.inl (Nat.le_refl _))
      have s3' : SetIn w3 w.heap.size w1.heap.size (.pointer (some ⟨g, 0, none⟩)) size (putsF size (xs.take (k + 1))) := s3.congr fun j => by rw [putsF_snoc, HT.out]
      go_wp2
      go_roundw
      case rel => exact ⟨k + 1, by omega, by go_num, s3', b3, c2.trans c3⟩
      case measure => simp [intOf]; omega
    · go_wp2
      go_ret
      have e : xs.take k = xs := List.take_of_length_le (by have := HN.out; omega)
      rw [e] at s2
      obtain ⟨g', A', e1, e2, h1, h2, h3, h4⟩ := s2
      exact ⟨g, rfl, ⟨g', A', e1, e2, h1, by have := c2.size; omega, Nat.le_refl _, fun b' eb => ⟨(h4 b' eb).1, by have := (h4 b' eb).2; have := c2.size; omega⟩⟩, b2⟩
end Go.Proofs.YtopnogmfdkhlkaaDoor
