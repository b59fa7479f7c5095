/- Layer 6 (slots): the chapter's example: a contract of works. -/
import Derived.Test.YtoocdngaimneoaaSlotsTell
namespace Go.Proofs.Ytoocdngaimneoaa
open Go.RowKit Go.Maps

def TrueBelow (w : World) (e : Ending) (w' : World) : Prop := e = .returned (.bool true) ∧ Below w.heap.size w w'
section
variable {w : World} {S : Nat → Prop} {v : Value} {n : Nat} {s : St}
theorem open_is (h : SlotsAt w S v n s) {s1 : St} {p q : Nat} {r : Bool} (hs : s.openO n = s1) (hp : s.placeO n = p) (hq : s.genO n = q) (hr : s.more n = r) :
    Calls Try.prog 14 #[v] w (StepIn w S v n s1 (.tuple #[.int .i64 p, .int .i64 q, .bool r])) := by
  subst hs hp hq hr; exact open_at h
theorem close_is (h : SlotsAt w S v n s) {x y : Int} (hx : InInt x) {m : Nat} (hl : Low m s) (hm : m < 4611686018427387904) {s1 : St} {r : Bool} (hs : closeI s x y = s1) (hr : rightI s x y = r) :
    Calls Try.prog 12 #[v, .int .i64 x, .int .i64 y] w (StepIn w S v n s1 (.bool r)) := by
  subst hs hr; exact close_at h hx hl hm
end
def ex1 : St := St.none.openO 3
def ex2 : St := ex1.openO 3
def ex3 : St := closeI ex2 0 0
def ex4 : St := ex3.openO 3
theorem works_any {w : World} : Calls Try.prog 6 #[] w (TrueBelow w) := by
  have hnot := not_any
  have i0 : InInt 0 := ⟨by omega, by omega⟩
  have lw : Low 0 ex2 := (Low.new.openO (n := 3)).openO (n := 3)
  go_enter Try.func6, Try.ntmps6
  go_wp2_with fail
  refine (new_in (n := 3) w (by omega)).mono ?_
  rintro e w1 ⟨g, S1, rfl, s1, b1, l1⟩
  go_wp2_with fail
  refine (open_is (s1 := ex1) (p := 0) (q := 0) (r := true) s1 rfl (by decide) (by decide) (by decide)).mono ?_
  rintro e w2 ⟨S2, rfl, s2, m2⟩
  have b2 := m2.below b1 b1.size l1
  have l2 := m2.from_ l1 b1.size
  clear s1 m2 l1
  go_wp2_with fail
  refine (open_is (s1 := ex2) (p := 1) (q := 0) (r := true) s2 rfl (by decide) (by decide) (by decide)).mono ?_
  rintro e w3 ⟨S3, rfl, s3, m3⟩
  have b3 := m3.below b2 b2.size l2
  have l3 := m3.from_ l2 b2.size
  clear s2 m3 l2
  go_wp2_with fail
  refine (close_is (s1 := ex3) (r := true) s3 i0 lw (by omega) rfl (by decide)).mono ?_
  rintro e w4 ⟨S4, rfl, s4, m4⟩
  have b4 := m4.below b3 b3.size l3
  have l4 := m4.from_ l3 b3.size
  clear s3 m4 l3
  go_wp2_with fail
  refine (open_is (s1 := ex4) (p := 0) (q := 1) (r := true) s4 rfl (by decide) (by decide) (by decide)).mono ?_
  rintro e w5 ⟨S5, rfl, s5, m5⟩
  have b5 := m5.below b4 b4.size l4
  clear s4 m5 l4
  go_wp2_with fail
  refine (right_at s5 i0 (r := false) (by decide)).mono ?_
  rintro e w6 ⟨rfl, b6⟩
  have s6 := s5.below b6
  have b7 := b5.trans (b6.mono b5.size)
  go_wp2_with fail
  refine (right_at s6 i0 (r := true) (by decide)).mono ?_
  rintro e w7 ⟨rfl, b8⟩
  have s7 := s6.below b8
  have b9 := b7.trans (b8.mono b7.size)
  go_wp2_with fail
  refine (len_at s7 (r := 2) (by decide)).mono ?_
  rintro e w8 ⟨rfl, rfl⟩
  go_wp2
  go_ret
  exact ⟨rfl, b9⟩
end Go.Proofs.Ytoocdngaimneoaa
