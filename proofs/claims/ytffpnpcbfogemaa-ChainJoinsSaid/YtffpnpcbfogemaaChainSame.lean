/- What the law's same returns: the chain and the document's own answer tell the same of a node and a list. (gen_same.py writes this text.) -/
import Derived.Test.YtffpnpcbfogemaaChainCuts
namespace Go.Proofs.Ytffpnpcbfogemaa
open Go.RowKit

set_option maxHeartbeats 1600000 in
theorem same_ok {w : World} {lo hi lo' L N : Nat} {v rv : Value} {m : Nat → List Nat} (h : ChainIn w lo hi v L N m) (hr : LsAt w lo' rv L m) (x i : Int) :
    Calls Try.prog 13 #[v, rv, .int .i64 x, .int .i64 i] w (TrueBelow w) := by
  have hI := h.1
  have hsm := h.small
  obtain ⟨o, b, n, hs⟩ := spot m x
  have HS := Lib.hid hs
  obtain ⟨l, el⟩ : ∃ l, rowOf m i = l := ⟨_, rfl⟩
  have hll : l.length ≤ 1048576 := by
    obtain ⟨j, ej⟩ := rowOf_ex hI i
    have := hI.len j
    rw [← el, ej]
    omega
  have HI := Lib.hid hI
  have HEL := Lib.hid el
  have hbo : (o == o) = true := by simp
  have hbb : (b == b) = true := by simp
  have hbn : (n == n) = true := by simp
  have hsame : sameInts (ints l) (ints l) = true := decide_eq_true rfl
  have HSA := Lib.hid hsame
  clear hs hI el hsame
  go_enter Try.func13, Try.ntmps13
  go_wp2_with fail
  refine (rrow hr HI.out i).mono ?_
  rintro e w' ⟨A, cc, rfl, hcc, hla, rfl⟩
  rw [HEL.out] at hla hcc ⊢
  obtain ⟨k, ek⟩ : ∃ k, l.length = k := ⟨_, rfl⟩
  rw [ek] at hla hcc hll ⊢
  have HK := Lib.hid ek
  have hkk : ((k : Int) == (k : Int)) = true := by simp
  clear ek
  by_cases hk0 : k = 0
  · subst hk0
    have hl0 : l = [] := List.eq_nil_of_length_eq_zero HK.out
    have HF : Hid (hd l (-1) = -1) := by show _ = _; rw [hl0]; rfl
    have HLa : Hid (lst l (-1) = -1) := by show _ = _; rw [hl0]; rfl
    clear hl0
    have bel0 : Below w.heap.size w w := Below.refl _ _
    go_wp2_with fail
    refine (of_is h HS.out).mono ?_
    rintro e v1 ⟨rfl, d1⟩
    replace h := h.below d1
    replace hr := hr.below d1
    replace hla := hla.below d1
    have bel1 := bel0.trans (d1.mono bel0.size)
    clear d1 bel0
    go_wp2_with fail
    refine (rof hr HI.out (by omega) (by omega) HS.out).mono ?_
    rintro e w' ⟨rfl, rfl⟩
    go_wp2_with fail
    refine (next_is h HS.out).mono ?_
    rintro e v3 ⟨rfl, d3⟩
    replace h := h.below d3
    replace hr := hr.below d3
    replace hla := hla.below d3
    have bel3 := bel1.trans (d3.mono bel1.size)
    clear d3 bel1
    go_wp2_with fail
    refine (rnext hr HI.out (by omega) (by omega) HS.out).mono ?_
    rintro e w' ⟨rfl, rfl⟩
    go_wp2_with fail
    refine (back_is h HS.out).mono ?_
    rintro e v5 ⟨rfl, d5⟩
    replace h := h.below d5
    replace hr := hr.below d5
    replace hla := hla.below d5
    have bel5 := bel3.trans (d5.mono bel3.size)
    clear d5 bel3
    go_wp2_with fail
    refine (rback hr HI.out (by omega) (by omega) HS.out).mono ?_
    rintro e w' ⟨rfl, rfl⟩
    go_wp2_with fail
    refine (len_is (r := 0) h (by rw [HEL.out]; exact HK.out)).mono ?_
    rintro e v7 ⟨rfl, d7⟩
    replace h := h.below d7
    replace hr := hr.below d7
    replace hla := hla.below d7
    have bel7 := bel5.trans (d7.mono bel5.size)
    clear d7 bel5
    go_wp2_with fail
    refine (list_is h HEL.out).mono ?_
    rintro e v8 ⟨u8, rfl, ⟨A8, c8, rfl, _, i8, _⟩, d8⟩
    rw [HK.out]
    replace h := h.below d8
    replace hla := hla.below d8
    have bel8 := bel7.trans (d8.mono bel7.size)
    have hib : IntsAt v8 A (ints l) := by
      obtain ⟨_, _, e, _, hia, _⟩ := hla
      injection e with e
      subst e
      exact hia
    clear d8 hr
    go_wp2_with fail
    refine (same_is (r := true) i8 hib (by rw [ints_length]; exact HK.out.symm) (by rw [ints_length]; exact HK.out.symm) (by rw [ints_length, HK.out]; omega) HSA.out).mono ?_
    rintro e w' ⟨rfl, t, rfl⟩
    replace h := h.drewN t
    have bel9 := below_drewN bel8 t
    clear hib i8
    go_wp2_with fail
    refine (first_is (r := -1) h (by rw [HEL.out]; exact HF.out)).mono ?_
    rintro e v10 ⟨rfl, d10⟩
    replace h := h.below d10
    have bel10 := bel9.trans (d10.mono bel9.size)
    clear d10 bel9
    go_wp2_with fail
    refine (last_is (r := -1) h (by rw [HEL.out]; exact HLa.out)).mono ?_
    rintro e v11 ⟨rfl, d11⟩
    replace h := h.below d11
    have bel11 := bel10.trans (d11.mono bel10.size)
    clear d11 bel10
    go_wp2
    go_ret
    exact ⟨rfl, bel11⟩
  · have hne : l ≠ [] := fun e => hk0 (by rw [← HK.out, e]; rfl)
    obtain ⟨y, HF, hy⟩ : ∃ y : Nat, Hid (hd l (-1) = (y : Int)) ∧ l[0]? = some y := by
      cases l with
      | nil => exact absurd rfl hne
      | cons y t => exact ⟨y, rfl, rfl⟩
    obtain ⟨z, HLa, hz⟩ : ∃ z : Nat, Hid (lst l (-1) = (z : Int)) ∧ l[k - 1]? = some z := by
      obtain ⟨l', z, rfl⟩ := lst_ne hne
      refine ⟨z, lst_push _ _ _, ?_⟩
      have := HK.out
      rw [List.length_append, List.length_singleton] at this
      rw [show k - 1 = l'.length by omega, List.getElem?_append_right (Nat.le_refl _), Nat.sub_self]
      rfl
    obtain ⟨c0, c1⟩ : (∃ b2 off, A = some ⟨b2, off, none⟩ ∧ w.cell? ⟨b2, off + 0, none⟩ = some (.int .i64 y)) ∧ (∃ b2 off, A = some ⟨b2, off, none⟩ ∧ w.cell? ⟨b2, off + (k - 1), none⟩ = some (.int .i64 z)) := by
      obtain ⟨_, _, e, _, hia, _⟩ := hla
      injection e with e
      subst e
      exact ⟨hia.nat hy, hia.nat hz⟩
    obtain ⟨b2, off, rfl, c0⟩ := c0
    obtain ⟨b3, off3, e3, c1⟩ := c1
    injection e3 with e3
    injection e3 with e3 e4
    subst e3 e4
    rw [Nat.add_zero] at c0
    have hkr : 0 ≤ (k : Int) - 1 ∧ (k : Int) - 1 < (k : Int) := by omega
    have hkp : 0 < (k : Int) := by omega
    have hws : IntKind.i64.wrap ((k : Int) - 1) = (k : Int) - 1 := IntWalk.i64_in _ (by omega)
    have hto : ((k : Int) - 1).toNat = k - 1 := by omega
    clear hne hy hz hk0
    go_wp2
    go_quiet (fail)
    replace h := h.drewN nq
    replace hr := hr.drewN nq
    replace hla := hla.drewN nq
    clear hws hto hkr hkp c0 c1
    have bel0 : Below w.heap.size w (w.drewN nq) := below_drewN (Below.refl _ _) nq
    go_wp2_with fail
    refine (of_is h HS.out).mono ?_
    rintro e v1 ⟨rfl, d1⟩
    replace h := h.below d1
    replace hr := hr.below d1
    replace hla := hla.below d1
    have bel1 := bel0.trans (d1.mono bel0.size)
    clear d1 bel0
    go_wp2_with fail
    refine (rof hr HI.out (by omega) (by omega) HS.out).mono ?_
    rintro e w' ⟨rfl, rfl⟩
    go_wp2_with fail
    refine (next_is h HS.out).mono ?_
    rintro e v3 ⟨rfl, d3⟩
    replace h := h.below d3
    replace hr := hr.below d3
    replace hla := hla.below d3
    have bel3 := bel1.trans (d3.mono bel1.size)
    clear d3 bel1
    go_wp2_with fail
    refine (rnext hr HI.out (by omega) (by omega) HS.out).mono ?_
    rintro e w' ⟨rfl, rfl⟩
    go_wp2_with fail
    refine (back_is h HS.out).mono ?_
    rintro e v5 ⟨rfl, d5⟩
    replace h := h.below d5
    replace hr := hr.below d5
    replace hla := hla.below d5
    have bel5 := bel3.trans (d5.mono bel3.size)
    clear d5 bel3
    go_wp2_with fail
    refine (rback hr HI.out (by omega) (by omega) HS.out).mono ?_
    rintro e w' ⟨rfl, rfl⟩
    go_wp2_with fail
    refine (len_is (r := k) h (by rw [HEL.out]; exact HK.out)).mono ?_
    rintro e v7 ⟨rfl, d7⟩
    replace h := h.below d7
    replace hr := hr.below d7
    replace hla := hla.below d7
    have bel7 := bel5.trans (d7.mono bel5.size)
    clear d7 bel5
    go_wp2_with fail
    refine (list_is h HEL.out).mono ?_
    rintro e v8 ⟨u8, rfl, ⟨A8, c8, rfl, _, i8, _⟩, d8⟩
    rw [HK.out]
    replace h := h.below d8
    replace hla := hla.below d8
    have bel8 := bel7.trans (d8.mono bel7.size)
    have hib : IntsAt v8 (some ⟨b2, off, none⟩) (ints l) := by
      obtain ⟨_, _, e, _, hia, _⟩ := hla
      injection e with e
      subst e
      exact hia
    clear d8 hr
    go_wp2_with fail
    refine (same_is (r := true) i8 hib (by rw [ints_length]; exact HK.out.symm) (by rw [ints_length]; exact HK.out.symm) (by rw [ints_length, HK.out]; omega) HSA.out).mono ?_
    rintro e w' ⟨rfl, t, rfl⟩
    replace h := h.drewN t
    have bel9 := below_drewN bel8 t
    clear hib i8
    go_wp2_with fail
    refine (first_is (r := (y : Int)) h (by rw [HEL.out]; exact HF.out)).mono ?_
    rintro e v10 ⟨rfl, d10⟩
    replace h := h.below d10
    have bel10 := bel9.trans (d10.mono bel9.size)
    clear d10 bel9
    go_wp2_with fail
    refine (last_is (r := (z : Int)) h (by rw [HEL.out]; exact HLa.out)).mono ?_
    rintro e v11 ⟨rfl, d11⟩
    replace h := h.below d11
    have bel11 := bel10.trans (d11.mono bel10.size)
    clear d11 bel10
    go_wp2
    go_ret
    exact ⟨rfl, bel11⟩
end Go.Proofs.Ytffpnpcbfogemaa
