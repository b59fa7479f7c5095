/- What the document's own answers for layer 5 (copyholdref05) tell of lists: contracts of Row, Beside. -/
import Derived.Test.YtffpnpcbfogemaaChainRefs
namespace Go.Proofs.Ytffpnpcbfogemaa
open Go.RowKit
variable {w w' : World} {L N : Nat} {lo hi : Nat} {v : Value} {m : Nat → List Nat}

def RRow (w : World) (lo : Nat) (l : List Nat) (e : Ending) (w' : World) : Prop := ∃ A c, e = .returned (.slice A l.length c) ∧ l.length ≤ c ∧ ListAt w lo (.slice A l.length c) l ∧ w = w'
theorem rrow (h : LsAt w lo v L m) (hI : Inv L N m) (x : Int) :
    Calls Try.prog 36 #[v, .int .i64 x] w (RRow w lo (rowOf m x)) := by
  cases hb : hasB L x with
  | false =>
    rw [rowOf_out hI hb]
    obtain ⟨A, c, rfl⟩ := h.form
    by_cases h0 : x < 0
    · clear h
      go_enter Try.func36, Try.ntmps36
      go_wp2
      go_ret
      exact ⟨none, 0, rfl, Nat.le_refl _, ListAt.nil _ _, rfl⟩
    · have h1 : ¬ x < (L : Int) := fun hx => of_decide_eq_false hb ⟨by omega, hx⟩
      clear h
      go_enter Try.func36, Try.ntmps36
      go_wp2
      go_ret
      exact ⟨none, 0, rfl, Nat.le_refl _, ListAt.nil _ _, rfl⟩
  | true =>
    obtain ⟨k, rfl, hk⟩ := hasB_nat hb
    rw [rowOf_nat]
    obtain ⟨b, c, A, d, rfl, hc, hd, hl⟩ := h.at_ hk
    have hir : 0 ≤ (k : Int) ∧ (k : Int) < (L : Int) := by omega
    have HL := Lib.hid hl
    clear h hl hb
    obtain ⟨n, en⟩ : ∃ n, (m k).length = n := ⟨_, rfl⟩
    rw [en] at hc hd HL
    have EN := Lib.hid en
    clear en
    go_enter Try.func36, Try.ntmps36
    go_wp2
    go_ret
    have e := EN.out
    subst e
    exact ⟨A, d, rfl, hd, HL.out, rfl⟩
/-- What stands so many places further. -/
def FarIs (l : List Nat) (j r : Int) : Prop := (r = -1 ∧ (j < 0 ∨ (l.length : Int) ≤ j)) ∨ ∃ q y : Nat, j = (q : Int) ∧ l[q]? = some y ∧ r = (y : Int)
set_option maxHeartbeats 800000 in
theorem rbeside_at (h : LsAt w lo v L m) (hI : Inv L N m) (hL : L ≤ 1048576) (hN : N ≤ 1048576) {i k : Nat} {a b : List Nat} (e : m i = a ++ k :: b) {by_ r : Int} (hby : by_ = 1 ∨ by_ = -1) (hr : FarIs (m i) ((a.length : Int) + by_) r) :
    Calls Try.prog 37 #[v, .int .i64 k, .int .i64 by_] w fun e w' => e = .returned (.int .i64 r) ∧ w = w' := by
  have hil : i < L := hI.il (x := k) (by rw [e]; simp)
  have hn := hI.nodup i
  rw [e] at hn
  have HP : Hid (PlaceIs (m i) (k : Int) (a.length : Int)) := by show PlaceIs _ _ _; rw [e]; exact place_cut (nodup_cut hn).2.1
  have HS : Hid (Spot m (k : Int) (i : Int) (lst a (-1)) (hd b (-1))) := .at_ i a k b rfl e
  have H := Lib.hid h
  have HI := Lib.hid hI
  have hml := hI.len i
  have hal : a.length < (m i).length := by rw [e]; simp
  obtain ⟨b', c, A, d, rfl, hc, hd, hl⟩ := h.at_ hil
  have HL := Lib.hid hl
  have HLen : Hid ((m i).length ≤ 1048576) := by show _ ≤ _; omega
  have hir : 0 ≤ (i : Int) ∧ (i : Int) < (L : Int) := by omega
  obtain ⟨n, en⟩ : ∃ n, (m i).length = n := ⟨_, rfl⟩
  obtain ⟨p, ep⟩ : ∃ p, a.length = p := ⟨_, rfl⟩
  unfold FarIs at hr
  rw [en] at hc HL hr hal hml
  rw [ep] at HP hr hal
  clear h hI hn e hl ep hd
  obtain ⟨j, ej⟩ : ∃ j, (p : Int) + by_ = j := ⟨_, rfl⟩
  rw [ej] at hr
  have hjr : -1 ≤ j ∧ j ≤ 1048577 := by
    rcases hby with rfl | rfl <;> omega
  have hws : IntKind.i64.wrap j = j := IntWalk.i64_in _ (by omega)
  rcases hr with ⟨rfl, hr | hr⟩ | ⟨q, y, eq, hy, rfl⟩
  · clear hby en
    go_enter Try.func37, Try.ntmps37
    go_wp2_with fail
    refine (rof H.out HI.out hL hN HS.out).mono ?_
    rintro e w' ⟨rfl, rfl⟩
    go_wp2_with fail
    refine (rplace HL.out HLen.out HP.out).mono ?_
    rintro e w' ⟨rfl, rfl⟩
    go_wp2
    go_ret
    exact ⟨rfl, rfl⟩
  · have hj0 : ¬ j < 0 := by omega
    clear hby en
    go_enter Try.func37, Try.ntmps37
    go_wp2_with fail
    refine (rof H.out HI.out hL hN HS.out).mono ?_
    rintro e w' ⟨rfl, rfl⟩
    go_wp2_with fail
    refine (rplace HL.out HLen.out HP.out).mono ?_
    rintro e w' ⟨rfl, rfl⟩
    go_wp2
    go_ret
    exact ⟨rfl, rfl⟩
  · subst eq
    obtain ⟨A2, c2, e2, _, hi2, _⟩ := HL.out
    injection e2 with e3 e4 e5
    subst e3
    obtain ⟨b2, off, rfl, hc2⟩ := hi2.nat hy
    have hqn : q < n := by have := (List.getElem?_eq_some_iff.1 hy).1; omega
    clear en
    have hqr : 0 ≤ (q : Int) ∧ (q : Int) < (n : Int) := by omega
    clear hby hi2 hy e4 e5
    go_enter Try.func37, Try.ntmps37
    go_wp2_with fail
    refine (rof H.out HI.out hL hN HS.out).mono ?_
    rintro e w' ⟨rfl, rfl⟩
    go_wp2_with fail
    refine (rplace HL.out HLen.out HP.out).mono ?_
    rintro e w' ⟨rfl, rfl⟩
    go_wp2
    go_ret
    exact ⟨rfl, rfl⟩
theorem rbeside_out (h : LsAt w lo v L m) (hI : Inv L N m) (hL : L ≤ 1048576) (hN : N ≤ 1048576) {x by_ : Int} (hs : Out m x) :
    Calls Try.prog 37 #[v, .int .i64 x, .int .i64 by_] w fun e w' => e = .returned (.int .i64 (-1)) ∧ w = w' := by
  go_enter Try.func37, Try.ntmps37
  go_wp2_with fail
  refine (rof h hI hL hN (.out hs)).mono ?_
  rintro e w' ⟨rfl, rfl⟩
  go_wp2
  go_ret
  exact ⟨rfl, rfl⟩
theorem rnext (h : LsAt w lo v L m) (hI : Inv L N m) (hL : L ≤ 1048576) (hN : N ≤ 1048576) {x o b n : Int} (hs : Spot m x o b n) :
    Calls Try.prog 37 #[v, .int .i64 x, .int .i64 1] w fun e w' => e = .returned (.int .i64 n) ∧ w = w' := by
  rcases hs with hs | ⟨i, a, k, b, rfl, e⟩
  · exact rbeside_out h hI hL hN hs
  · refine rbeside_at h hI hL hN e (.inl rfl) ?_
    rw [e]
    cases b with
    | nil => exact .inl ⟨rfl, .inr (by simp)⟩
    | cons y t =>
      refine .inr ⟨a.length + 1, y, by omega, ?_, rfl⟩
      rw [List.getElem?_append_right (by omega), show a.length + 1 - a.length = 1 by omega]
      rfl
theorem rback (h : LsAt w lo v L m) (hI : Inv L N m) (hL : L ≤ 1048576) (hN : N ≤ 1048576) {x o b n : Int} (hs : Spot m x o b n) :
    Calls Try.prog 37 #[v, .int .i64 x, .int .i64 (-1)] w fun e w' => e = .returned (.int .i64 b) ∧ w = w' := by
  rcases hs with hs | ⟨i, a, k, b, rfl, e⟩
  · exact rbeside_out h hI hL hN hs
  · refine rbeside_at h hI hL hN e (.inr rfl) ?_
    rw [e]
    by_cases ha : a = []
    · subst ha; exact .inl ⟨rfl, .inl (by simp)⟩
    · obtain ⟨a', y, rfl⟩ := lst_ne ha
      rw [lst_push]
      refine .inr ⟨a'.length, y, by rw [List.length_append]; simp; omega, ?_, rfl⟩
      rw [List.append_assoc, List.getElem?_append_right (Nat.le_refl _), Nat.sub_self]
      rfl
end Go.Proofs.Ytffpnpcbfogemaa
