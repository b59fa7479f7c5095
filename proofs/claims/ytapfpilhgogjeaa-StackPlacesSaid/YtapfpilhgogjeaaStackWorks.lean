/- What the chapter's example of layer 3 (works) returns; the walks of StackOwn and StackPlaces. -/
import Derived.Test.YtapfpilhgogjeaaStackRefs
import Derived.Test.YtapfpilhgogjeaaBaseRows
namespace Go.Proofs.Ytapfpilhgogjeaa
open Go.RowKit

def TrueBelow (w : World) (e : Ending) (w' : World) : Prop := e = .returned (.bool true) ∧ Below w.heap.size w w'
theorem push_is {w : World} {lo hi size : Nat} {v : Value} {l l' : List Nat} {r : Bool} (h : StackIn w lo hi v size l) (x : Int) (e : pushL size l x = l') (er : pushB size l x = r) : Calls Try.prog 11 #[v, .int .i64 x] w (StepIn w lo hi v size l' (.bool r)) := by
  subst e er; exact push_at h x
theorem drop_is {w : World} {lo hi size : Nat} {v : Value} {l l' : List Nat} {r : Bool} (h : StackIn w lo hi v size l) (x : Int) (e : dropI l x = l') (er : dropB l x = r) : Calls Try.prog 15 #[v, .int .i64 x] w (StepIn w lo hi v size l' (.bool r)) := by
  subst e er; exact drop_at h x
theorem pop_is {w : World} {lo hi size t : Nat} {v : Value} {l l' : List Nat} {r : Bool} (h : StackIn w lo hi v size l) (e : l.dropLast = l') (et : topV l = t) (er : someB l = r) : Calls Try.prog 13 #[v] w (StepIn w lo hi v size l' (.tuple #[.int .i64 t, .bool r])) := by
  subst e et er; exact pop_at h
set_option maxHeartbeats 800000 in
theorem works_any {w : World} : Calls Try.prog 6 #[] w (TrueBelow w) := by
  have hnot := not_any
  go_enter Try.func6, Try.ntmps6
  go_wp2_with fail
  refine (new_in (n := 5) (by omega)).mono ?_
  rintro e w1 ⟨g, rfl, s1, b1⟩
  go_wp2_with fail
  refine (push_is (l' := [4]) (r := true) s1 4 (by decide) (by decide)).mono ?_
  rintro e w2 ⟨rfl, s2, c2⟩
  go_wp2_with fail
  refine (push_is (l' := [4, 1]) (r := true) s2 1 (by decide) (by decide)).mono ?_
  rintro e w3 ⟨rfl, s3, c3⟩
  go_wp2_with fail
  refine (push_is (l' := [4, 1, 2]) (r := true) s3 2 (by decide) (by decide)).mono ?_
  rintro e w4 ⟨rfl, s4, c4⟩
  go_wp2_with fail
  refine (push_is (l' := [4, 1, 2]) (r := false) s4 2 (by decide) (by decide)).mono ?_
  rintro e w5 ⟨rfl, s5, c5⟩
  go_wp2_with fail
  refine (drop_is (l' := [2, 1]) (r := true) s5 4 (by decide) (by decide)).mono ?_
  rintro e w6 ⟨rfl, s6, c6⟩
  go_wp2_with fail
  refine (pop_is (l' := [2]) (t := 1) (r := true) s6 (by decide) (by decide) (by decide)).mono ?_
  rintro e w7 ⟨rfl, s7, c7⟩
  have b7 : Below w.heap.size w w7 := (((((c2.trans c3).trans c4).trans c5).trans c6).trans c7).below b1 b1.size (.inl (Nat.le_refl _))
  clear s1 s2 s3 s4 s5 s6 c2 c3 c4 c5 c6 c7
  go_wp2_with fail
  refine (len_is (n := 1) s7 (by decide)).mono ?_
  rintro e w' ⟨rfl, rfl⟩
  go_wp2_with fail
  refine (place_at (r := 0) s7 (by decide)).mono ?_
  rintro e w' ⟨rfl, rfl⟩
  go_wp2_with fail
  refine (place_at (r := -1) s7 (by decide)).mono ?_
  rintro e w' ⟨rfl, rfl⟩
  go_wp2
  go_ret
  exact ⟨rfl, b7⟩

/-! ### StackOwn -/
theorem zero_stack {W : World} : StackIn (W.alloc (.cells #[.slice none 0 0, .slice none 0 0] 44)) W.heap.size (W.heap.size + 1) (.pointer (some ⟨W.heap.size, 0, none⟩)) 0 [] := by
  refine ⟨W.heap.size, none, rfl, ⟨?_, .inl ⟨rfl, rfl⟩, by omega, by simp, fun x hx => by cases hx⟩, Nat.le_refl _, by omega, by simp, fun b e => by cases e⟩
  have := World.rowIs_alloc W #[.slice none 0 0, .slice none 0 0] 44 (stackF none 0 0) (by
    intro i hi
    match i, hi with
    | 0, _ => rfl
    | 1, _ => rfl)
  simpa using this
set_option maxHeartbeats 1600000 in
theorem own_any {w : World} {size x : Nat} (hs : size < 256) (hx : x < 256) : Calls Try.prog 4 #[.int .u8 size, .int .u8 x] w (TrueBelow w) := by
  have hnot := not_any
  obtain ⟨y, ey, hy⟩ : ∃ y : Nat, (x : Int) % ((size : Int) + 1) = (y : Int) ∧ y < size + 1 := ⟨x % (size + 1), by push_cast; rfl, Nat.mod_lt _ (by omega)⟩
  have P1 : Hid (pushL (size + 1) [] (y : Int) = [y] ∧ pushB (size + 1) [] (y : Int) = true) := by
    have : pushB (size + 1) [] (y : Int) = true := by rw [pushB_nat]; simp [hy]
    exact ⟨by unfold pushL; rw [if_pos this]; simp, this⟩
  go_enter Try.func4, Try.ntmps4
  go_wp2_with fail
  refine (new_in (n := size + 1) (by omega)).mono ?_
  rintro e w1 ⟨g, rfl, s1, b1⟩
  go_wp2_with fail
  refine (push_is s1 (y : Int) P1.out.1 P1.out.2).mono ?_
  rintro e w2 ⟨rfl, s2, c2⟩
  go_wp2_with fail
  refine (list_at s2).mono ?_
  rintro e w3 ⟨b, rfl, r3, hb3, b3⟩
  rw [show [y].length = 1 from rfl] at r3 ⊢
  have s3 := s2.chg (Chg.of_below (lo := 0) (hi := 0) b3) (by omega)
  have k3 := r3.cell (i := 0) (by omega)
  have f3 := r3.frozen 0
  have b2 : Below w.heap.size w w2 := c2.below b1 b1.size (.inl (Nat.le_refl _))
  have bb := b2.trans (b3.mono b2.size)
  have hz1 := b1.size
  have hz2 := c2.size
  have s4 := s3.chg (Chg.set w3 0 (.int .i64 (-7)) hb3 (Nat.lt_succ_self b)) (by omega)
  have b4 := bb.setCell (p := ⟨b, 0, none⟩) (show _ ≤ b by omega) (.int .i64 (-7))
  clear s1 s2 s3 b2 b3 r3 bb
  go_wp2_with fail
  refine (pop_is (l' := []) (t := y) (r := true) s4 rfl rfl rfl).mono ?_
  rintro e w5 ⟨rfl, s5, c5⟩
  have b5 := c5.below b4 b4.size (.inl (Nat.le_refl _))
  go_wp2_with fail
  refine (pop_is (l' := []) (t := 0) (r := false) s5 rfl rfl rfl).mono ?_
  rintro e w6 ⟨rfl, s6, c6⟩
  have b6 := c6.below b5 b5.size (.inl (Nat.le_refl _))
  clear s4 s5 s6 b5 b4 c5 c6
  have z6 := zero_stack (W := w6)
  have b7 := b6.alloc b6.size (.cells #[.slice none 0 0, .slice none 0 0] 44)
  go_wp2_with fail
  refine (pop_nil _).mono ?_
  rintro e w' ⟨rfl, rfl⟩
  go_wp2_with fail
  refine (top_at z6).mono ?_
  rintro e w' ⟨rfl, n7, rfl⟩
  rw [show topV [] = 0 from rfl, show someB [] = false from rfl]
  have z7 := z6.drewN n7
  have b8 := below_drewN b7 n7
  clear z6 b7
  generalize (w6.alloc (.cells #[.slice none 0 0, .slice none 0 0] 44)).drewN n7 = w7 at *
  go_wp2_with fail
  refine (push_nil _ _).mono ?_
  rintro e w' ⟨rfl, rfl⟩
  go_wp2_with fail
  refine (push_no z7 (by decide)).mono ?_
  rintro e w' ⟨rfl, rfl⟩
  go_wp2_with fail
  refine (drop_nil _ _).mono ?_
  rintro e w' ⟨rfl, rfl⟩
  go_wp2_with fail
  refine (drop_no z7 (by decide)).mono ?_
  rintro e w' ⟨rfl, rfl⟩
  go_wp2_with fail
  refine (len_nil _).mono ?_
  rintro e w' ⟨rfl, rfl⟩
  go_wp2_with fail
  refine (len_is (n := 0) z7 rfl).mono ?_
  rintro e w' ⟨rfl, rfl⟩
  go_wp2_with fail
  refine (place_nil _ _).mono ?_
  rintro e w' ⟨rfl, rfl⟩
  go_wp2_with fail
  refine (place_at (r := -1) z7 (by decide)).mono ?_
  rintro e w' ⟨rfl, rfl⟩
  go_wp2_with fail
  refine (list_nil _).mono ?_
  rintro e w8 ⟨q8, rfl, r8, hb8, b9⟩
  rw [show ([] : List Nat).length = 0 from rfl]
  have z8 := z7.chg (Chg.of_below (lo := 0) (hi := 0) b9) (by omega)
  have b10 := b8.trans (b9.mono b8.size)
  clear z7 b8 b9 r8
  go_wp2_with fail
  refine (list_at z8).mono ?_
  rintro e w9 ⟨q9, rfl, r9, hb9, b11⟩
  rw [show ([] : List Nat).length = 0 from rfl]
  have b12 := b10.trans (b11.mono b10.size)
  clear z8 b10 b11 r9
  go_wp2_with fail
  refine works_any.mono ?_
  rintro e w10 ⟨rfl, b13⟩
  have b14 := b12.trans (b13.mono b12.size)
  go_wp2
  go_ret
  exact ⟨rfl, b14⟩
end Go.Proofs.Ytapfpilhgogjeaa
