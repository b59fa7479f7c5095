/- What the chapter's example of layer 4 (works) returns; the walk of RingOrder. -/
import Derived.Test.YthfochpaacjlcaaRingRefs
import Derived.Test.YthfochpaacjlcaaBaseSame
import Derived.Test.YthfochpaacjlcaaBaseRows
namespace Go.Proofs.Ythfochpaacjlcaa
open Go.RowKit

def TrueBelow (w : World) (e : Ending) (w' : World) : Prop := e = .returned (.bool true) ∧ Below w.heap.size w w'
theorem RingIn.q {w : World} {lo hi room : Nat} {p : Option Addr} {l : List Int} (h : RingIn w lo hi (.pointer p) room l) : QAt w.heap.size w p l := by
  have h0 := h
  obtain ⟨g, A, first, e, hs, h1, h2, h3, h4⟩ := h
  exact .inr ⟨lo, hi, room, h0, h3⟩
theorem list_is {w : World} {lo hi room : Nat} {p : Option Addr} {l : List Int} (h : RingIn w lo hi (.pointer p) room l) : Calls Try.prog 17 #[.pointer p] w (ListIn w l) := list_q h.q
theorem list_nil (w : World) : Calls Try.prog 17 #[.pointer none] w (ListIn w []) := list_q (.inl ⟨rfl, rfl⟩)
theorem place_is {w : World} {lo hi room : Nat} {p : Option Addr} {l : List Int} {x r : Int} (h : RingIn w lo hi (.pointer p) room l) (hr : placeZ l x = r) :
    Calls Try.prog 18 #[.pointer p, .int .i64 x] w fun e w' => e = .returned (.int .i64 r) ∧ Below w.heap.size w w' := place_q h.q hr
theorem place_nil (x : Int) (w : World) : Calls Try.prog 18 #[.pointer none, .int .i64 x] w fun e w' => e = .returned (.int .i64 (-1)) ∧ Below w.heap.size w w' := place_q (.inl ⟨rfl, rfl⟩) rfl
theorem take_is {w : World} {lo hi room : Nat} {v : Value} {l l' : List Int} {t : Int} {r : Bool} (h : RingIn w lo hi v room l) (e : l.tail = l') (et : l.headD 0 = t) (er : someB l = r) :
    Calls Try.prog 10 #[v] w (StepIn w lo hi v room l' (.tuple #[.int .i64 t, .bool r])) := by
  subst e et er
  cases l with
  | cons y l => exact take_yes h
  | nil =>
    show Calls _ _ _ _ (StepIn w lo hi v room [] (.tuple #[.int .i64 0, .bool false]))
    go_enter Try.func10, Try.ntmps10
    go_wp2_with fail
    refine (first_is (r := 0) (s := false) h rfl rfl).mono ?_
    rintro e w' ⟨rfl, m, rfl⟩
    go_wp2
    go_ret2
    exact ⟨rfl, h.drewN m, Chg.drewN _ _ _ _⟩
theorem take_nil (w : World) : Calls Try.prog 10 #[.pointer none] w fun e w' => e = .returned (.tuple #[.int .i64 0, .bool false]) ∧ w = w' := by
  go_enter Try.func10, Try.ntmps10
  go_wp2_with fail
  refine (first_nil _).mono ?_
  rintro e w' ⟨rfl, rfl⟩
  go_wp2
  go_ret2
  exact ⟨rfl, rfl⟩
set_option maxHeartbeats 800000 in
theorem works_any {w : World} : Calls Try.prog 5 #[] w (TrueBelow w) := by
  have hnot := not_any
  go_enter Try.func5, Try.ntmps5
  go_wp2_with fail
  refine (new_in (n := 2) (by omega)).mono ?_
  rintro e w1 ⟨g, rfl, s1, b1⟩
  go_wp2_with fail
  refine (put_is (l' := [7]) (r := true) s1 7 (by decide) (by decide)).mono ?_
  rintro e w2 ⟨rfl, s2, c2⟩
  go_wp2_with fail
  refine (put_is (l' := [7, 8]) (r := true) s2 8 (by decide) (by decide)).mono ?_
  rintro e w3 ⟨rfl, s3, c3⟩
  go_wp2_with fail
  refine (put_is (l' := [7, 8]) (r := false) s3 9 (by decide) (by decide)).mono ?_
  rintro e w4 ⟨rfl, s4, c4⟩
  go_wp2_with fail
  refine (take_is (l' := [8]) (t := 7) (r := true) s4 rfl rfl rfl).mono ?_
  rintro e w5 ⟨rfl, s5, c5⟩
  go_wp2_with fail
  refine (put_is (l' := [8, 9]) (r := true) s5 9 (by decide) (by decide)).mono ?_
  rintro e w6 ⟨rfl, s6, c6⟩
  have b6 : Below w.heap.size w w6 := ((((c2.trans c3).trans c4).trans c5).trans c6).below b1 b1.size (.inl (Nat.le_refl _))
  clear s1 s2 s3 s4 s5 c2 c3 c4 c5 c6
  go_wp2_with fail
  refine (list_is s6).mono ?_
  rintro e w7 ⟨A7, c7, rfl, i7, b7⟩
  rw [show ([8, 9] : List Int).length = 2 from rfl]
  have s7 := s6.chg (Chg.of_below (lo := 0) (hi := 0) b7) (by omega)
  have b8 := b6.trans (b7.mono b6.size)
  have s8 := s7.chg (Chg.alloc 0 0 w7 (.cells #[.int .i64 8, .int .i64 9] 3)) (by omega)
  have b9 := b8.alloc b8.size (.cells #[.int .i64 8, .int .i64 9] 3)
  have i8 := i7.1.alloc (.cells #[.int .i64 8, .int .i64 9] 3)
  have j8 : IntsAt (w7.alloc (.cells #[.int .i64 8, .int .i64 9] 3)) (some ⟨w7.heap.size, 0, none⟩) [8, 9] := lit_ints w7 [8, 9]
  clear s6 s7 b6 b7 b8 i7
  go_wp2_with fail
  refine (same_is (r := true) i8 j8 rfl rfl (by simp) (by decide)).mono ?_
  rintro e w' ⟨rfl, m, rfl⟩
  have s9 := s8.drewN m
  have b10 := below_drewN b9 m
  clear s8 b9 i8 j8
  generalize (w7.alloc (.cells #[.int .i64 8, .int .i64 9] 3)).drewN m = w9 at *
  go_wp2_with fail
  refine (place_is (r := 1) s9 (by decide)).mono ?_
  rintro e w10 ⟨rfl, b11⟩
  have s10 := s9.chg (Chg.of_below (lo := 0) (hi := 0) b11) (by omega)
  have b12 := b10.trans (b11.mono b10.size)
  clear s9 b10 b11
  go_wp2_with fail
  refine (room_is s10).mono ?_
  rintro e w' ⟨rfl, rfl⟩
  go_wp2
  go_ret
  exact ⟨rfl, b12⟩
end Go.Proofs.Ythfochpaacjlcaa
