/- What the document's own answers for layer 5 (copyholdref05) return: contracts of Place, Of, Row, Beside. -/
import Derived.Test.YtffpnpcbfogemaaChainDo
namespace Go.Proofs.Ytffpnpcbfogemaa
open Go.RowKit
variable {w w' : World} {L N : Nat} {lo hi : Nat} {v : Value} {m : Nat → List Nat}

/-- v is a slice of L slices; they read as m, and all lies from block lo on. -/
def LsAt (w : World) (lo : Nat) (v : Value) (L : Nat) (m : Nat → List Nat) : Prop :=
  ∃ A c, v = .slice A L c ∧ (L = 0 ∨ ∃ b, A = some ⟨b, 0, none⟩ ∧ lo ≤ b ∧ b < w.heap.size ∧ ∀ k, k < L → ∃ u, w.cell? ⟨b, k, none⟩ = some u ∧ ListAt w lo u (m k))
theorem LsAt.chg {lo' hi' : Nat} (h : LsAt w lo v L m) (hc : Chg lo' hi' w w') (hd : hi' ≤ lo ∨ hi' ≤ lo') : LsAt w' lo v L m := by
  obtain ⟨A, c, e, h | ⟨b, eb, h1, h2, h3⟩⟩ := h
  · exact ⟨A, c, e, .inl h⟩
  · refine ⟨A, c, e, .inr ⟨b, eb, h1, Nat.lt_of_lt_of_le h2 hc.size, fun k hk => ?_⟩⟩
    obtain ⟨u, h4, h5⟩ := h3 k hk
    exact ⟨u, (World.cell?_of_block (w := w) (a := ⟨b, k, none⟩) (hc.block b h2 (by omega))).trans h4, h5.chg hc hd⟩
theorem LsAt.below (h : LsAt w lo v L m) (hb : Below w.heap.size w w') : LsAt w' lo v L m := h.chg (Chg.of_below (lo := 0) (hi := 0) hb) (by omega)
theorem LsAt.drewN (h : LsAt w lo v L m) (n : Nat) : LsAt (w.drewN n) lo v L m := h.chg (Chg.drewN 0 0 w n) (by omega)
theorem LsAt.alloc (h : LsAt w lo v L m) (o : Obj) : LsAt (w.alloc o) lo v L m := h.chg (Chg.alloc 0 0 w o) (by omega)
theorem LsAt.like {m' : Nat → List Nat} (h : LsAt w lo v L m) (e : m = m') : LsAt w lo v L m' := by subst e; exact h
theorem LsAt.at_ (h : LsAt w lo v L m) {i : Nat} (hi : i < L) : ∃ b c A d, v = .slice (some ⟨b, 0, none⟩) L c ∧ w.cell? ⟨b, i, none⟩ = some (.slice A (m i).length d) ∧ (m i).length ≤ d ∧ ListAt w lo (.slice A (m i).length d) (m i) := by
  obtain ⟨A, c, rfl, h | ⟨b, rfl, _, _, h3⟩⟩ := h
  · omega
  · obtain ⟨u, h4, h5⟩ := h3 i hi
    obtain ⟨A', d, rfl, h6, h7⟩ := h5
    exact ⟨b, c, A', d, rfl, h4, h6, A', d, rfl, h6, h7⟩
theorem LsAt.form (h : LsAt w lo v L m) : ∃ A c, v = .slice A L c := by
  obtain ⟨A, c, e, _⟩ := h
  exact ⟨A, c, e⟩

/-! ### Place -/
/-- Where x first stands in l. -/
def PlaceIs (l : List Nat) (x r : Int) : Prop := (r = -1 ∧ ∀ y ∈ l, (y : Int) ≠ x) ∨ ∃ j : Nat, r = (j : Int) ∧ (∃ y : Nat, l[j]? = some y ∧ (y : Int) = x) ∧ ∀ (q y : Nat), q < j → l[q]? = some y → (y : Int) ≠ x
theorem place_cut {a b : List Nat} {k : Nat} (h : k ∉ a) : PlaceIs (a ++ k :: b) (k : Int) (a.length : Int) := by
  refine .inr ⟨a.length, rfl, ⟨k, by rw [List.getElem?_append_right (Nat.le_refl _), Nat.sub_self]; rfl, rfl⟩, fun q y hq hy e => h ?_⟩
  rw [List.getElem?_append_left hq] at hy
  obtain rfl : y = k := by omega
  exact List.mem_of_getElem? hy
theorem rplace {A : Option Addr} {len c : Nat} {l : List Nat} (h : ListAt w lo (.slice A len c) l) (hl : l.length ≤ 1048576) {x r : Int} (hr : PlaceIs l x r) :
    Calls Try.prog 31 #[.slice A len c, .int .i64 x] w fun e w' => e = .returned (.int .i64 r) ∧ w = w' := by
  obtain ⟨A', c', e, _, hi, _⟩ := h
  injection e with e1 e2 e3
  subst e1 e3
  obtain rfl : l.length = len := e2.symm
  have H := Lib.hid hi
  have HR := Lib.hid hr
  obtain ⟨n, en⟩ : ∃ n, l.length = n := ⟨_, rfl⟩
  have HN := Lib.hid en
  rw [en] at hl ⊢
  clear hi hr en e2
  go_enter Try.func31, Try.ntmps31
  go_wp2
  go_loop [5] (fun k => ∃ j : Nat, j ≤ n ∧ k = .int .i64 j ∧ Hid (∀ (q y : Nat), q < j → l[q]? = some y → (y : Int) ≠ x)) (fun k => n - (intOf k).toNat)
  case atStart => exact ⟨0, by omega, rfl, fun q y hq => by omega⟩
  case round =>
    obtain ⟨j, hj, rfl, hh⟩ := hrel
    by_cases hlt : j < n
    · have hjl : j < l.length := by have := HN.out; omega
      have HQ : Hid (l[j]? = some (l[j]'hjl)) := List.getElem?_eq_getElem hjl
      generalize l[j]'hjl = y at *
      obtain ⟨b, off, rfl, hc⟩ := H.out.nat HQ.out
      have hi : 0 ≤ (j : Int) ∧ (j : Int) < (n : Int) := by omega
      by_cases hxy : (y : Int) = x
      · have hb2 : ((y : Int) == x) = true := by simp [hxy]
        have HE : Hid (r = (j : Int)) := by
          show _ = _
          rcases HR.out with ⟨_, h2⟩ | ⟨j', e, ⟨z, h2, h3⟩, h4⟩
          · exact absurd hxy (h2 y (List.mem_of_getElem? HQ.out))
          · rw [e]
            rcases Nat.lt_trichotomy j j' with h5 | h5 | h5
            · exact absurd hxy (h4 j y h5 HQ.out)
            · omega
            · exact absurd h3 (hh.out j' z h5 h2)
        clear hxy
        go_wp2
        go_ret
        exact ⟨ret_int HE.out.symm, rfl⟩
      · have hb2 : ((y : Int) == x) = false := by simp [hxy]
        have HXY : Hid ((y : Int) ≠ x) := hxy
        clear hxy
        go_wp2
        go_round
        case rel =>
          refine ⟨j + 1, by omega, by go_num, fun q z hq hz => ?_⟩
          by_cases e : q = j
          · subst e
            rw [HQ.out] at hz
            injection hz with hz
            rw [← hz]; exact HXY.out
          · exact hh.out q z (by omega) hz
        case measure => simp [intOf]; omega
    · go_wp2
      go_ret
      refine ⟨ret_int ?_, rfl⟩
      rcases HR.out with ⟨e, _⟩ | ⟨j', e, ⟨z, h2, h3⟩, _⟩
      · exact e.symm
      · have := (List.getElem?_eq_some_iff.1 h2).1
        have := HN.out
        exact absurd h3 (hh.out j' z (by omega) h2)

/-! ### Of -/
theorem rof (h : LsAt w lo v L m) (hI : Inv L N m) (hL : L ≤ 1048576) (hN : N ≤ 1048576) {x o b n : Int} (hs : Spot m x o b n) :
    Calls Try.prog 30 #[v, .int .i64 x] w fun e w' => e = .returned (.int .i64 o) ∧ w = w' := by
  have H := Lib.hid h
  obtain ⟨A, c, rfl⟩ := h.form
  have HI := Lib.hid hI
  clear h hI
  go_enter Try.func30, Try.ntmps30
  go_wp2
  go_loop [5] (fun k => ∃ j : Nat, j ≤ L ∧ k = .int .i64 j ∧ Hid (∀ q : Nat, q < j → o ≠ (q : Int))) (fun k => L - (intOf k).toNat)
  case atStart => exact ⟨0, by omega, rfl, fun q hq => by omega⟩
  case round =>
    obtain ⟨j, hj, rfl, hh⟩ := hrel
    by_cases hlt : j < L
    · obtain ⟨b', c', A', d, e, hc, hd, hl⟩ := H.out.at_ hlt
      injection e with e1 e2 e3
      subst e1 e3
      have hml := HI.out.len j
      have hir : 0 ≤ (j : Int) ∧ (j : Int) < (L : Int) := by omega
      by_cases ho : o = (j : Int)
      · have hp : ∃ k : Nat, PlaceIs (m j) x (k : Int) := by
          rcases hs with hs | ⟨i, a, k, b2, e, e2⟩
          · omega
          · obtain rfl : i = j := by omega
            subst e
            have hn := HI.out.nodup i
            rw [e2] at hn ⊢
            exact ⟨a.length, place_cut (nodup_cut hn).2.1⟩
        obtain ⟨k, hk⟩ := hp
        have HK := Lib.hid hk
        have HL := Lib.hid hl
        obtain ⟨q, eq⟩ : ∃ q, (m j).length = q := ⟨_, rfl⟩
        have HQ := Lib.hid eq
        rw [eq] at hc HL
        clear hk hl hd eq hml
        go_wp2_with fail
        refine (rplace HL.out (by have := HI.out.len j; omega) HK.out).mono ?_
        rintro e w' ⟨rfl, rfl⟩
        go_wp2
        go_ret
        exact ⟨ret_int ho.symm, rfl⟩
      · have hp : PlaceIs (m j) x (-1) := by
          refine .inl ⟨rfl, fun y hy e => ?_⟩
          rcases hs with hs | ⟨i, a, k, b2, e', e2⟩
          · exact hs j y e hy
          · obtain rfl : y = k := by omega
            exact ho (by rw [HI.out.apart i j y (by rw [e2]; simp) hy])
        have HK := Lib.hid hp
        have HL := Lib.hid hl
        obtain ⟨q, eq⟩ : ∃ q, (m j).length = q := ⟨_, rfl⟩
        rw [eq] at hc HL
        clear hp hl hd eq hml
        go_wp2_with fail
        refine (rplace HL.out (by have := HI.out.len j; omega) HK.out).mono ?_
        rintro e w' ⟨rfl, rfl⟩
        go_wp2
        go_round
        case rel =>
          refine ⟨j + 1, by omega, by go_num, fun q hq => ?_⟩
          by_cases e : q = j
          · subst e; exact ho
          · exact hh.out q (by omega)
        case measure => simp [intOf]; omega
    · go_wp2
      go_ret
      refine ⟨ret_int ?_, rfl⟩
      rcases hs with hs | ⟨i, a, k, b2, e', e2⟩
      · rfl
      · exact absurd rfl (hh.out i (by have := HI.out.il (i := i) (x := k) (by rw [e2]; simp); omega))
end Go.Proofs.Ytffpnpcbfogemaa
