/- Layer 8 (spans): what Cut returns where nothing is cut; where the cuts lie. -/
import Derived.Test.YtppiibdeigjcjaaSpansAdd
import Derived.Deep.RegionHeld3
namespace Go.Proofs.Ytppiibdeigjcjaa
open Go.RowKit

theorem pairs_at2 {w : World} {b off k : Nat} {l : List Sp} {p : Sp} (h : PairsAt w (some ⟨b, off, none⟩) l) (hk : l[k]? = some p) : w.cell? ⟨b, off + k * 2, none⟩ = some (.int .i64 p.1) ∧ w.cell? ⟨b, off + k * 2 + 1, none⟩ = some (.int .i64 p.2) := by
  obtain ⟨b', off', e, _, h1, h2⟩ := h.one hk
  injection e with e
  injection e with e1 e2
  subst e1 e2
  exact ⟨h1, h2⟩
theorem first_top : ∀ {a : Int} {l : List Sp}, ordB a l = true → firstL 9223372036854775807 l = l.length
  | _, [], _ => rfl
  | a, p :: r, h => by
    obtain ⟨h1, h2⟩ := ordB_cons.1 h
    have k1 := okB_iff.1 h1
    rw [firstL, if_neg (by omega), first_top h2]; rfl
theorem cut_top : ∀ {a : Int} {l : List Sp}, ordB a l = true → cutL 9223372036854775807 9223372036854775807 l = l
  | _, [], _ => rfl
  | a, p :: r, h => by
    obtain ⟨h1, h2⟩ := ordB_cons.1 h
    have k1 := okB_iff.1 h1
    rw [cutL, headP, if_pos (by omega), tailP, if_neg (by omega), cut_top h2, show min p.2 (9223372036854775807 - p.1) = p.2 by omega]
    rfl
theorem stopI_le {x n : Int} (hx : x ≤ 9223372036854775807) (hn : 0 < n) : x < stopI x n ∨ (x = 9223372036854775807 ∧ stopI x n = 9223372036854775807) := by
  unfold stopI
  split <;> omega
theorem cut_any {x n : Int} {l : List Sp} (h : ordB 0 l = true) (hx : x ≤ 9223372036854775807) (hn : 0 < n) : l.take (firstL x l) ++ (leftA x l ++ leftB (stopI x n) l) ++ l.drop (toN (stopI x n) l) = cutL x (stopI x n) l := by
  rcases stopI_le hx hn with hlt | ⟨e1, e2⟩
  · exact cut_first hlt h
  · rw [e2, e1, cut_top h]
    have hf := first_top h
    have ha : leftA 9223372036854775807 l = [] := by unfold leftA; rw [hf, List.getElem?_eq_none (Nat.le_refl _)]
    have hb : leftB 9223372036854775807 l = [] := by unfold leftB; rw [hf, List.getElem?_eq_none (Nat.le_refl _)]
    rw [toN, ha, hb, hf]
    simp
theorem leftA_yes {x : Int} {l : List Sp} {k : Nat} {p : Sp} (hk : firstL x l = k) (hp : l[k]? = some p) (h : p.1 < x) : leftA x l = [(p.1, x - p.1)] := by
  unfold leftA
  rw [hk, hp]
  exact if_pos h
theorem leftA_no {x : Int} {l : List Sp} {k : Nat} {p : Sp} (hk : firstL x l = k) (hp : l[k]? = some p) (h : ¬ p.1 < x) : leftA x l = [] := by
  unfold leftA
  rw [hk, hp]
  exact if_neg h
theorem leftA_none {x : Int} {l : List Sp} {k : Nat} (hk : firstL x l = k) (hp : l[k]? = none) : leftA x l = [] := by
  unfold leftA
  rw [hk, hp]
theorem leftB_yes {x : Int} {l : List Sp} {k : Nat} {p : Sp} (hk : firstL x l = k) (hp : l[k]? = some p) (h : p.1 < x) : leftB x l = [(x, p.1 + p.2 - x)] := by
  unfold leftB
  rw [hk, hp]
  exact if_pos h
theorem leftB_no {x : Int} {l : List Sp} {k : Nat} {p : Sp} (hk : firstL x l = k) (hp : l[k]? = some p) (h : ¬ p.1 < x) : leftB x l = [] := by
  unfold leftB
  rw [hk, hp]
  exact if_neg h
theorem leftB_none {x : Int} {l : List Sp} {k : Nat} (hk : firstL x l = k) (hp : l[k]? = none) : leftB x l = [] := by
  unfold leftB
  rw [hk, hp]
def cutV (l : List Sp) (x n : Int) (b : Bool) : List Sp := if b = true then cutR l x n else []
theorem cut_no {w : World} {v : Value} {l : List Sp} {x nn : Int} (h : SpansIn w v l) (hs : l.length ≤ 1048576) (hx : InInt x) (hn : InInt nn) (hb : cutB l x nn = false) : Calls Try.prog 26 #[v, .int .i64 x, .int .i64 nn] w (MadeB w [] false) := by
  have h0 := h
  obtain ⟨⟨A, c, rfl, h1, h2, h3⟩, hi⟩ := h
  have hnot := not_any
  obtain ⟨n, en⟩ : ∃ n, l.length = n := ⟨_, rfl⟩
  obtain ⟨o, eo⟩ : ∃ o, ordB 0 l = o := ⟨_, rfl⟩
  have RS : Hid (Calls Try.prog 13 #[.slice A l.length c] w fun e w' => e = .returned (.bool o) ∧ Below w.heap.size w w') := right_spans h0 eo
  have HS0 : Hid (∀ W, Below w.heap.size w W → SpansIn W (.slice A n c) l) := fun W hW => by have := h0.below hW; rwa [en] at this
  have HS := Lib.hid hs
  rw [en] at RS ⊢
  have HP3 := Lib.hid h3
  have HN := Lib.hid en
  have HO := Lib.hid eo
  have HII := Lib.hid hi
  have HX := Lib.hid hx
  have HNN := Lib.hid hn
  have HB' : Hid (cutB l x nn = false) := hb
  clear h0 h1 h2 h3 hi eo hb hx hn en hs
  go_enter Try.func26, Try.ntmps26
  go_wp2_with fail
  refine RS.out.mono ?_
  rintro e0 w1 ⟨rfl, b1⟩
  cases o with
  | false =>
    go_wp2
    go_ret2
    exact ⟨_, rfl, SpansIn.nil _, b1⟩
  | true =>
    by_cases hx0 : x < 0
    · have hd1 : decide (x < 0) = true := decide_eq_true hx0
      go_wp2
      go_ret2
      exact ⟨_, rfl, SpansIn.nil _, b1⟩
    · have hd1 : decide (x < 0) = false := decide_eq_false hx0
      have hn0 : nn < 0 := by
        by_cases hn0 : nn < 0
        · exact hn0
        · have := cutB_iff.2 ⟨HO.out, (by omega : 0 ≤ x), (by omega : 0 ≤ nn)⟩
          rw [HB'.out] at this
          cases this
      have hd2 : decide (nn < 0) = true := decide_eq_true hn0
      go_wp2
      go_ret2
      exact ⟨_, rfl, SpansIn.nil _, b1⟩
theorem cut_zero {w : World} {v : Value} {l : List Sp} {x : Int} (h : SpansIn w v l) (hs : l.length ≤ 1048576) (hx0 : 0 ≤ x) (hb : ordB 0 l = true) : Calls Try.prog 26 #[v, .int .i64 x, .int .i64 0] w (MadeB w l true) := by
  have h0 := h
  obtain ⟨⟨A, c, rfl, h1, h2, h3⟩, hi⟩ := h
  have hnot := not_any
  obtain ⟨n, en⟩ : ∃ n, l.length = n := ⟨_, rfl⟩
  obtain ⟨o, eo⟩ : ∃ o, ordB 0 l = o := ⟨_, rfl⟩
  have RS : Hid (Calls Try.prog 13 #[.slice A l.length c] w fun e w' => e = .returned (.bool o) ∧ Below w.heap.size w w') := right_spans h0 eo
  have HS0 : Hid (∀ W, Below w.heap.size w W → SpansIn W (.slice A n c) l) := fun W hW => by have := h0.below hW; rwa [en] at this
  have HS := Lib.hid hs
  rw [en] at RS ⊢
  have HP3 := Lib.hid h3
  have HN := Lib.hid en
  have HO := Lib.hid eo
  have HII := Lib.hid hi
  obtain rfl : o = true := eo.symm.trans hb
  clear h0 h1 h2 h3 hi eo hb en hs
  go_enter Try.func26, Try.ntmps26
  go_wp2_with fail
  refine RS.out.mono ?_
  rintro e0 w1 ⟨rfl, b1⟩
  have hd1 : decide (x < 0) = false := decide_eq_false (by omega)
  have HL := Lib.hid (HS0.out _ b1)
  have B1 := Lib.hid b1
  go_wp2_with fail
  refine (clone_is HL.out (by have := HS.out; omega)).mono ?_
  rintro e6 w6 ⟨v6, rfl, hv, b6⟩
  go_wp2
  go_ret2
  exact ⟨_, rfl, hv, step_below B1.out b6⟩
end Go.Proofs.Ytppiibdeigjcjaa
