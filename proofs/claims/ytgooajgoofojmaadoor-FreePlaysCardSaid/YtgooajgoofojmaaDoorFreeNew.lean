/- Layer 17 (free): what New and the chapter's example (works) return: contracts. -/
import Derived.Test.YtgooajgoofojmaaDoorFreeMem
namespace Go.Proofs.YtgooajgoofojmaaDoor
open Go.RowKit

/-- The greatest k numbers below n, falling. -/
def downK (n k : Nat) : List Nat := (List.range k).map fun j => n - 1 - j
theorem downK_succ (n k : Nat) : downK n (k + 1) = downK n k ++ [n - 1 - k] := by unfold downK; rw [List.range_succ, List.map_append]; rfl
theorem downK_length (n k : Nat) : (downK n k).length = k := by unfold downK; simp
theorem downK_not {n k : Nat} (hk : k < n) : n - 1 - k ∉ downK n k := by
  unfold downK
  intro h
  obtain ⟨j, hj, e⟩ := List.mem_map.1 h
  have := List.mem_range.1 hj
  omega
theorem fnew_no (n : Int) (w : World) (h : n < 0 ∨ 1048576 < n) : Calls Tryd.prog 6 #[.int .i64 n] w fun e w' => e = .returned (.pointer none) ∧ w = w' := by
  rcases h with h | h
  · go_enter Tryd.func6, Tryd.ntmps6
    go_wp2
    go_ret
    exact ⟨rfl, rfl⟩
  · have h0 : ¬ n < 0 := by omega
    go_enter Tryd.func6, Tryd.ntmps6
    go_wp2
    go_ret
    exact ⟨rfl, rfl⟩
def FNew (w : World) (n : Nat) (e : Ending) (w' : World) : Prop := ∃ q hi, e = .returned (.pointer (some ⟨q, 0, none⟩)) ∧ FreeIn w' w.heap.size hi (.pointer (some ⟨q, 0, none⟩)) n (downK n n) ∧ Below w.heap.size w w'
theorem fnew_in {w : World} {n : Nat} (h : n ≤ 1048576) : Calls Tryd.prog 6 #[.int .i64 n] w (FNew w n) := by
  have h0 : ¬ (n : Int) < 0 := by omega
  have h2 : ¬ 1048576 < (n : Int) := by omega
  go_enter Tryd.func6, Tryd.ntmps6
  go_wp2_with fail
  refine (new_in h).mono ?_
  rintro e w1 ⟨g, rfl, s1, b1⟩
  go_wp2_with fail
  refine (bnew_in h).mono ?_
  rintro e w2 ⟨t, rfl, t2, b2⟩
  have s2 := s1.chg (Chg.of_below (lo := 0) (hi := 0) b2) (by omega)
  have bb : Below w.heap.size w w2 := b1.trans (b2.mono b1.size)
  have HS := Lib.hid s2
  have HT := Lib.hid t2
  have HB := Lib.hid bb
  clear s1 s2 t2 b1 b2 bb
  go_wp2
  have r3 : (w2.alloc (.cells #[.pointer (some ⟨g, 0, none⟩), .pointer (some ⟨t, 0, none⟩)] 48)).rowIs w2.heap.size 48 2 (idxF (.pointer (some ⟨g, 0, none⟩)) (.pointer (some ⟨t, 0, none⟩))) := by
    have := World.rowIs_alloc w2 #[.pointer (some ⟨g, 0, none⟩), .pointer (some ⟨t, 0, none⟩)] 48 (idxF (.pointer (some ⟨g, 0, none⟩)) (.pointer (some ⟨t, 0, none⟩))) (by
      intro i hi
      match i, hi with
      | 0, _ => rfl
      | 1, _ => rfl)
    simpa using this
  have ca := Chg.alloc 0 0 w2 (.cells #[.pointer (some ⟨g, 0, none⟩), .pointer (some ⟨t, 0, none⟩)] 48)
  have f3 : FreeIn (w2.alloc (.cells #[.pointer (some ⟨g, 0, none⟩), .pointer (some ⟨t, 0, none⟩)] 48)) w.heap.size (w2.heap.size + 1) (.pointer (some ⟨w2.heap.size, 0, none⟩)) n (downK n 0) :=
    FreeIn.of ⟨r3, HS.out.chg ca (by omega), (HT.out.chg ca (by omega)).congr fun j => by unfold inL none_ downK; simp, Nat.le_refl _, by omega, by simp⟩
  have b3 : Below w.heap.size w (w2.alloc (.cells #[.pointer (some ⟨g, 0, none⟩), .pointer (some ⟨t, 0, none⟩)] 48)) := HB.out.alloc HB.out.size _
  generalize (w2.alloc (.cells #[.pointer (some ⟨g, 0, none⟩), .pointer (some ⟨t, 0, none⟩)] 48)) = w3 at *
  clear r3 ca HS HT HB
  go_loopw [18] (fun i wr => ∃ k : Nat, k ≤ n ∧ i = .int .i64 k ∧ FreeIn wr w.heap.size (w2.heap.size + 1) (.pointer (some ⟨w2.heap.size, 0, none⟩)) n (downK n k) ∧ Below w.heap.size w wr) (fun i _ => n - (intOf i).toNat)
  case atStart => exact ⟨0, by omega, rfl, f3, b3⟩
  case round =>
    obtain ⟨k, hk, rfl, f4, b4⟩ := hrel
    by_cases hlt : k < n
    · have HG := Lib.hid (give_yes f4 (k := n - 1 - k) (by omega) (downK_not hlt))
      have HL : Hid (downK n k ++ [n - 1 - k] = downK n (k + 1)) := (downK_succ n k).symm
      have hsub : (n : Int) - 1 - (k : Int) = ((n - 1 - k : Nat) : Int) := by omega
      have hs : n - 1 - k ≤ 1048576 := by omega
      generalize n - 1 - k = d at *
      clear f4 f3 b3
      go_wp2_with fail
      refine HG.out.mono ?_
      rintro e w5 ⟨rfl, f5, c5⟩
      rw [HL.out] at f5
      have b5 := c5.below b4 b4.size (.inl (Nat.le_refl _))
      clear c5 b4 HG hsub
      go_wp2
      go_roundw
      case rel => exact ⟨k + 1, by omega, by go_num, f5, b5⟩
      case measure => simp [intOf]; omega
    · go_wp2
      go_ret
      have e : k = n := by omega
      subst e
      exact ⟨_, _, rfl, f4, b4⟩

/-! ### the chapter's example -/
def TrueBelow (w : World) (e : Ending) (w' : World) : Prop := e = .returned (.bool true) ∧ Below w.heap.size w w'
set_option maxHeartbeats 800000 in
theorem works_any {w : World} : Calls Tryd.prog 5 #[] w (TrueBelow w) := by
  have hnot := not_any
  go_enter Tryd.func5, Tryd.ntmps5
  go_wp2_with fail
  refine (fnew_in (n := 3) (by omega)).mono ?_
  rintro e w1 ⟨q, hi, rfl, s1, b1⟩
  go_wp2_with fail
  refine (take_at (l' := [2, 1]) (t := 0) (r := true) s1 (by decide) (by decide) (by decide)).mono ?_
  rintro e w2 ⟨rfl, s2, c2⟩
  go_wp2_with fail
  refine (give_at (l' := [2, 1, 0]) (r := true) s2 0 (by decide) (by decide)).mono ?_
  rintro e w3 ⟨rfl, s3, c3⟩
  go_wp2_with fail
  refine (take_at (l' := [2, 1]) (t := 0) (r := true) s3 (by decide) (by decide) (by decide)).mono ?_
  rintro e w4 ⟨rfl, s4, c4⟩
  go_wp2_with fail
  refine (pick_at (l' := [2]) (r := true) s4 1 (by decide) (by decide)).mono ?_
  rintro e w5 ⟨rfl, s5, c5⟩
  go_wp2_with fail
  refine (take_at (l' := []) (t := 2) (r := true) s5 (by decide) (by decide) (by decide)).mono ?_
  rintro e w6 ⟨rfl, s6, c6⟩
  have b6 : Below w.heap.size w w6 := ((((c2.trans c3).trans c4).trans c5).trans c6).below b1 b1.size (.inl (Nat.le_refl _))
  clear s1 s2 s3 s4 s5 c2 c3 c4 c5 c6
  go_wp2_with fail
  refine (flen_is (m := 0) s6 (by decide)).mono ?_
  rintro e w' ⟨rfl, rfl⟩
  go_wp2
  go_ret
  exact ⟨rfl, b6⟩
end Go.Proofs.YtgooajgoofojmaaDoor
