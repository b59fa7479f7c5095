/- Layer 5 (chain): the chapter's example: a contract of works. -/
import Derived.Test.YtffpnpcbfogemaaChainNew
import Derived.Test.YtffpnpcbfogemaaChainJoin
import Derived.Test.YtffpnpcbfogemaaBaseSame
import Derived.Test.YtffpnpcbfogemaaBaseZs
namespace Go.Proofs.Ytffpnpcbfogemaa
open Go.RowKit

theorem ints_get {l : List Nat} {k : Nat} {y : Nat} (h : l[k]? = some y) : (ints l)[k]? = some (y : Int) := by unfold ints; rw [List.getElem?_map, h]; rfl
theorem IntsAt.nat {w : World} {A : Option Addr} {l : List Nat} {k y : Nat} (h : IntsAt w A (ints l)) (hy : l[k]? = some y) : ∃ b off, A = some ⟨b, off, none⟩ ∧ w.cell? ⟨b, off + k, none⟩ = some (.int .i64 y) := by
  rcases h with h | ⟨b, off, e, _, hc⟩
  · have : l = [] := by
      unfold ints at h
      exact List.map_eq_nil_iff.1 h
    subst this
    simp at hy
  · exact ⟨b, off, e, hc k _ (ints_get hy)⟩
def TrueBelow (w : World) (e : Ending) (w' : World) : Prop := e = .returned (.bool true) ∧ Below w.heap.size w w'
/-- List 0 has l, no other has any. -/
def one (l : List Nat) : Nat → List Nat := fun i => if i = 0 then l else []
theorem one_upd (l l' : List Nat) : upd (one l) 0 l' = one l' := by
  funext i
  unfold upd one
  split <;> rfl
theorem one_nil : (fun _ => []) = one [] := by
  funext i
  unfold one
  split <;> rfl
theorem one_out {l : List Nat} {x : Int} (h : ∀ k ∈ l, (k : Int) ≠ x) : Out (one l) x := fun i k e hk => by
  unfold one at hk
  split at hk
  · exact h k hk e
  · cases hk
theorem nil_chain (w : World) (lo : Nat) (h : lo ≤ w.heap.size) : ChainIn w lo lo (.pointer none) 0 0 (fun _ => []) := ⟨Inv.empty 0 0, h, .inl ⟨rfl, rfl, rfl⟩⟩
theorem zero_chain (w : World) : ChainIn (w.alloc (.cells #[.slice none 0 0, .slice none 0 0] 44)) w.heap.size (w.heap.size + 1) (.pointer (some ⟨w.heap.size, 0, none⟩)) 0 0 (fun _ => []) := by
  refine ⟨Inv.empty 0 0, by simp, .inr ⟨w.heap.size, none, none, _, _, _, _, _, _, rfl, ⟨?_, .inl ⟨rfl, rfl⟩, .inl ⟨rfl, rfl⟩, by omega, by omega⟩, Rep.empty 0 0, ⟨⟨Nat.le_refl _, by omega⟩, fun b e => by (cases e), fun b e => by (cases e)⟩⟩⟩
  exact World.rowIs_alloc w _ _ _ (by
    intro i hi
    match i, hi with
    | 0, _ => rfl
    | 1, _ => rfl)
set_option maxHeartbeats 800000 in
theorem works_any {w : World} : Calls Try.prog 7 #[] w (TrueBelow w) := by
  have hnot := not_any
  go_enter Try.func7, Try.ntmps7
  go_wp2_with fail
  refine (new_in (L := 2) (N := 6) (by omega) (by omega)).mono ?_
  rintro e w1 ⟨g, rfl, s1, b1⟩
  have s1 := s1.like one_nil
  go_wp2_with fail
  refine (add_yes s1 (i := 0) (x := 5) (by omega) (by omega) (one_out (by simp))).mono ?_
  rintro e w2 ⟨rfl, s2, c2⟩
  have s2 := s2.like (one_upd _ _)
  go_wp2_with fail
  refine (add_yes s2 (i := 0) (x := 3) (by omega) (by omega) (one_out (by simp [one]))).mono ?_
  rintro e w3 ⟨rfl, s3, c3⟩
  have s3 : ChainIn w3 _ _ _ 2 6 (one [5, 3]) := s3.like (one_upd _ _)
  go_wp2_with fail
  refine (add_no s3 (i := 1) (x := 5) (fun h => h.2.2 0 5 rfl (by simp [one]))).mono ?_
  rintro e w4 ⟨rfl, s4, c4⟩
  go_wp2_with fail
  refine (drop_yes s4 (i := 0) (x := 5) (a := []) (b := [3]) rfl).mono ?_
  rintro e w5 ⟨rfl, s5, c5⟩
  have s5 : ChainIn w5 _ _ _ 2 6 (one [3]) := s5.like (one_upd _ _)
  have b5 : Below w.heap.size w w5 := (((c2.trans c3).trans c4).trans c5).below b1 b1.size (.inl (Nat.le_refl _))
  clear s1 s2 s3 s4 c2 c3 c4 c5
  go_wp2_with fail
  refine (list_is s5 (x := 0) (l := [3]) rfl).mono ?_
  rintro e w6 ⟨v6, rfl, ⟨A6, c6, rfl, _, i6, _⟩, b6⟩
  rw [show ([3] : List Nat).length = 1 from rfl, show ints [3] = [3] from rfl] at *
  have s6 := s5.below b6
  have b7 := b5.trans (b6.mono b5.size)
  have s7 := s6.alloc (.cells #[.int .i64 3] 3)
  have b8 := b7.alloc b7.size (.cells #[.int .i64 3] 3)
  have i7 := i6.alloc (.cells #[.int .i64 3] 3)
  have j7 : IntsAt (w6.alloc (.cells #[.int .i64 3] 3)) (some ⟨w6.heap.size, 0, none⟩) [3] := lit_ints w6 [3]
  clear s5 s6 b5 b6 b7 i6
  go_wp2_with fail
  refine (same_is (r := true) i7 j7 rfl rfl (by simp) (by decide)).mono ?_
  rintro e w' ⟨rfl, n, rfl⟩
  have s8 := s7.drewN n
  have b9 := below_drewN b8 n
  clear s7 b8 i7 j7
  generalize (w6.alloc (.cells #[.int .i64 3] 3)).drewN n = w8 at *
  go_wp2_with fail
  refine (of_is s8 (x := 3) (.at_ 0 [] 3 [] rfl rfl)).mono ?_
  rintro e w9 ⟨rfl, b10⟩
  have s9 := s8.below b10
  have b11 := b9.trans (b10.mono b9.size)
  clear s8 b9 b10
  go_wp2_with fail
  refine (of_is s9 (x := 5) (.out (one_out (by simp)))).mono ?_
  rintro e w10 ⟨rfl, b12⟩
  have s10 := s9.below b12
  have b13 := b11.trans (b12.mono b11.size)
  clear s9 b11 b12
  go_wp2_with fail
  refine (first_is s10 (x := 0) (r := 3) rfl).mono ?_
  rintro e w11 ⟨rfl, b14⟩
  have b15 := b13.trans (b14.mono b13.size)
  go_wp2
  go_ret
  exact ⟨rfl, b15⟩
end Go.Proofs.Ytffpnpcbfogemaa
