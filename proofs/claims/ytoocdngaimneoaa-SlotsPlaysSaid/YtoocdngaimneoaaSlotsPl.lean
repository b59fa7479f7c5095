/- What the document's own answers for layer 6 (copyholdref06) return: Places, and Close and OpenOne in one form each: contracts. -/
import Derived.Test.YtoocdngaimneoaaSlotsOne
namespace Go.Proofs.Ytoocdngaimneoaa
open Go.RowKit Go.Maps
section
variable {w : World} {T : Nat → Prop} {v : Value} {n : Nat} {s : St}
theorem rclose_any (h : RAt w T v n s) (hT : InHeap T w) (hok : Ok n s) (hsm : n ≤ 1048576) {x y : Int} {m : Nat} (hl : Low m s) (hm : m < 4611686018427387904) {s1 : St} {r : Bool} (hs : closeI s x y = s1) (hr : rightI s x y = r) :
    Calls Try.prog 11 #[v, .int .i64 x, .int .i64 y] w (RStep w T n s1 [.bool r]) := by
  subst hs hr
  cases hr : rightI s x y with
  | false =>
    have e : closeI s x y = s := by unfold closeI; rw [hr]; rfl
    rw [e]
    exact rclose_no h hT hok hr
  | true =>
    have e : closeI s x y = s.shutP x.toNat := by unfold closeI; rw [hr]; rfl
    rw [e]
    obtain ⟨p, rfl, hp, rfl⟩ := rightI_true hr
    rw [Int.toNat_natCast]
    exact rclose_yes h hok hsm hp (Nat.lt_of_le_of_lt (hl p) hm)
theorem rone_any (h : RAt w T v n s) (hT : InHeap T w) (hok : Ok n s) (hsm : n ≤ 1048576) {s1 : St} {p q : Nat} {r : Bool} (hs : s.openO n = s1) (hp : s.placeO n = p) (hq : s.genO n = q) (hr : s.more n = r) :
    Calls Try.prog 13 #[v] w (RStep w T n s1 [.int .i64 p, .int .i64 q, .bool r]) := by
  subst hs hp hq hr
  cases hm : s.more n with
  | false =>
    have e1 : s.openO n = s := St.openO_no hm
    have e2 : s.placeO n = 0 := by unfold St.placeO; rw [hm]; rfl
    have e3 : s.genO n = 0 := by unfold St.genO; rw [hm]; rfl
    rw [e1, e2, e3]
    unfold St.more at hm
    rw [Bool.or_eq_false_iff, decide_eq_false_iff_not, decide_eq_false_iff_not] at hm
    exact rone_none h hT (List.eq_nil_of_length_eq_zero (by omega)) (by omega)
  | true =>
    rw [St.genO_at hm]
    by_cases hc : 0 < s.closed.length
    · have e1 : s.openO n = s.again := by unfold St.openO; rw [hm, if_pos rfl, if_pos hc]
      have e2 : s.placeO n = lastOf s.closed := by unfold St.placeO; rw [hm, if_pos rfl, if_pos hc]
      rw [e1]
      exact rone_again h hT hok hsm hc e2.symm rfl
    · have hc0 : s.closed = [] := List.eq_nil_of_length_eq_zero (by omega)
      have e1 : s.openO n = s.next := by unfold St.openO; rw [hm, if_pos rfl, if_neg hc]
      have e2 : s.placeO n = s.fresh := by unfold St.placeO; rw [hm, if_pos rfl, if_neg hc]
      have hf : s.fresh < n := by
        unfold St.more at hm
        simpa [hc] using hm
      rw [e1]
      exact rone_next h hT hsm hc0 hf e2.symm rfl
def MadeList (w : World) (l : List Nat) (e : Ending) (w' : World) : Prop := ∃ A c, e = .returned (.slice A l.length c) ∧ IntsAt w' A (ints l) ∧ (∀ b off, A = some ⟨b, off, none⟩ → w.heap.size ≤ b) ∧ Below w.heap.size w w'
set_option maxHeartbeats 1600000 in
theorem rplaces_any (h : RAt w T v n s) (hsm : n ≤ 1048576) : Calls Try.prog 17 #[v] w (MadeList w (placesOf n s.opn)) := by
  obtain ⟨Ao, co, Ag, cg, Ac, cc, rfl, _, h1, _, _⟩ := h
  obtain ⟨i0, hi0, hz0, hz1, hz2⟩ := info_parts int_info
  have HI := Lib.hid hi0
  have HZ0 := Lib.hid hz0
  have HZ1 := Lib.hid hz1
  have HZ2 := Lib.hid hz2
  generalize s.closed.length = m at *
  generalize s.fresh = f at *
  have r0 := row_lit4 w (.slice Ao n co) (.slice Ag n cg) (.slice Ac m cc) (.int .i64 f) 29
  have b0 : Below w.heap.size w (w.alloc (.cells #[.slice Ao n co, .slice Ag n cg, .slice Ac m cc, .int .i64 f] 29)) := (Below.refl _ _).alloc (Nat.le_refl _) _
  have k0 := h1.keep (.of_below T b0)
  clear h1 hi0 hz0 hz1 hz2
  go_enter Try.func17, Try.ntmps17
  go_upto_region 1 with fail
  generalize w.alloc (.cells #[.slice Ao n co, .slice Ag n cg, .slice Ac m cc, .int .i64 f] 29) = W at *
  have e0 := r0.cell (i := 0) (by omega)
  simp only [sF] at e0
  have hlt := r0.lt
  have K0 := Lib.hid k0
  have B0 := Lib.hid b0
  clear r0 k0 b0
  go_wp2
  go_loopw [3, 4] (fun o i wr => ∃ k : Nat, k ≤ n ∧ i = .int .i64 k ∧ wr.ownsRow W.heap.size 3 1 o (placesOf k s.opn).length (vals (placesOf k s.opn)) ∧ Below W.heap.size W wr) (fun _ i _ => n - (intOf i).toNat)
  case atStart => exact ⟨0, Nat.zero_le _, rfl, World.ownsRow_nil _ _ _ _, Below.refl _ _⟩
  case round =>
    obtain ⟨k, hk, rfl, hown, hbel⟩ := hrel
    have e0' : wr.cell? ⟨w.heap.size, 0, none⟩ = some (.slice Ao n co) := (hbel.cell (p := ⟨w.heap.size, 0, none⟩) hlt).trans e0
    have hpl := placesOf_le k s.opn
    by_cases hkn : k < n
    · have hkr : 0 ≤ (k : Int) ∧ (k : Int) < (n : Int) := by omega
      obtain ⟨bo, oo, rfl, hbo, _, hco⟩ := K0.out.at_ (opensL_at (s := s) hkn)
      have hco' : wr.cell? ⟨bo, oo + k, none⟩ = some (.bool (s.opn k)) := (hbel.cell (p := ⟨bo, oo + k, none⟩) hbo).trans hco
      have HPS : Hid (placesOf (k + 1) s.opn = placesOf k s.opn ++ if s.opn k = true then [k] else []) := placesOf_succ k s.opn
      cases hop : s.opn k with
      | false =>
        rw [hop] at hco' HPS
        have HP2 : Hid (placesOf (k + 1) s.opn = placesOf k s.opn) := by show _ = _; rw [HPS.out]; simp
        clear hop hco HPS e0
        go_wp2
        go_roundw
        case rel => exact ⟨k + 1, by omega, by go_num, by rw [HP2.out]; exact hown, hbel⟩
        case measure => simp [intOf]; omega
      | true =>
        rw [hop] at hco' HPS
        have HP2 : Hid (placesOf (k + 1) s.opn = placesOf k s.opn ++ [k]) := by show _ = _; rw [HPS.out]; simp
        have HOWN := Lib.hid hown
        have HBEL := Lib.hid hbel
        obtain ⟨lp, elp⟩ : ∃ lp, (placesOf k s.opn).length = lp := ⟨_, rfl⟩
        rw [elp] at HOWN hpl
        have HLP := Lib.hid elp
        clear hop hco HPS e0 hown hbel elp
        go_wp2_with (at_builtin; refine wpList_append_own _ rfl _ _ 27 rfl W.heap.size 3 i0 (.int .i64 0) 1 8 Try.underlying27 HI.out HZ0.out HZ1.out HZ2.out rfl (by decide) _ _ _ rfl (HOWN.out.alloc _) ⟨wr.heap.size, 0, none⟩ 1 1 [.int .i64 k] rfl rfl (new_one _ _ _) (one_int _ _) (by unfold maxLen; omega) (by omega) (by have := HBEL.out.size; simp; omega) ?_; intro v' w4 hown2 hgr2 _)
        have b5 := (HBEL.out.alloc HBEL.out.size (.cells #[.int .i64 (k : Int)] 3)).grown hgr2 (by have := HBEL.out.size; simp; omega) fun x hx => (HOWN.out.lt x hx).1
        rw [show vals (placesOf k s.opn) ++ [.int .i64 (k : Int)] = vals (placesOf k s.opn ++ [k]) by rw [vals_append]; rfl] at hown2
        have hown3 : w4.ownsRow W.heap.size 3 1 v' (placesOf (k + 1) s.opn).length (vals (placesOf (k + 1) s.opn)) := by
          rw [HP2.out, List.length_append, HLP.out]; exact hown2
        clear hown2 hgr2
        go_roundw
        case rel => exact ⟨k + 1, by omega, by go_num, hown3, b5⟩
        case measure => simp [intOf]; omega
    · obtain rfl : k = n := by omega
      have hs := B0.out.size
      obtain ⟨A, c, rfl, hi, hb⟩ := own_ints hown
      go_wp2
      go_ret
      exact ⟨A, c, rfl, hi, fun b off eb => Nat.le_trans hs (hb b off eb), B0.out.trans (hbel.mono hs)⟩
end
end Go.Proofs.Ytoocdngaimneoaa
