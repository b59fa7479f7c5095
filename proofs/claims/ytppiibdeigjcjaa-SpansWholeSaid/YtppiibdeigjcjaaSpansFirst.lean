/- Layer 8 (spans): where the first one is that has a number, or one behind it (the library's search, its comparing a closure): a contract. -/
import Derived.Test.YtppiibdeigjcjaaSpansRight
import Derived.Test.YtppiibdeigjcjaaShelf
import Derived.Shelf.SlSortCmp.QuietGrown
namespace Go.Proofs.Ytppiibdeigjcjaa
open Go.RowKit Go.Sort

theorem count_first (n k : Nat) (p : Nat → Bool) (hk : k ≤ n) (h1 : ∀ i, i < k → p i = false) (h2 : ∀ i, k ≤ i → i < n → p i = true) : (List.range n).countP (fun i => !p i) = k := by
  have e : n = k + (n - k) := by omega
  rw [e, List.range_add, List.countP_append]
  have a1 : (List.range k).countP (fun i => !p i) = k := by
    have : (List.range k).countP (fun i => !p i) = (List.range k).length := List.countP_eq_length.2 fun i hi => by rw [h1 i (List.mem_range.1 hi)]; rfl
    rwa [List.length_range] at this
  have a2 : ((List.range (n - k)).map (k + ·)).countP (fun i => !p i) = 0 := List.countP_eq_zero.2 fun i hi => by
    obtain ⟨j, hj, rfl⟩ := List.mem_map.1 hi
    have := List.mem_range.1 hj
    rw [h2 (k + j) (by omega) (by omega)]
    decide
  rw [a1, a2]
  omega
/-- Does the one at place i end behind x? -/
def isB (l : List Sp) (x : Int) (i : Nat) : Bool := match l[i]? with
  | some p => decide (x < p.1 + p.2)
  | none => false
theorem isB_at {l : List Sp} {x : Int} {i : Nat} {p : Sp} (h : l[i]? = some p) : isB l x i = decide (x < p.1 + p.2) := by
  show (match l[i]? with | some p => decide (x < p.1 + p.2) | none => false) = _
  rw [h]
theorem count_is {l : List Sp} (x : Int) (h : ordB 0 l = true) : (List.range l.length).countP (fun i => !isB l x i) = firstL x l := by
  refine count_first _ _ _ (firstL_le x l) (fun i hi => ?_) fun i hi hn => ?_
  · have := firstL_le x l
    obtain ⟨p, hp⟩ : ∃ p, l[i]? = some p := ⟨_, List.getElem?_eq_getElem (by omega)⟩
    rw [isB_at hp]
    exact decide_eq_false (firstL_below x l i p hi hp)
  · obtain ⟨p, hp⟩ : ∃ p, l[i]? = some p := ⟨_, List.getElem?_eq_getElem hn⟩
    rw [isB_at hp]
    exact decide_eq_true (firstL_from i p h hi hp)
theorem isB_mono {l : List Sp} {x : Int} (h : ordB 0 l = true) : ∀ a b, a ≤ b → b < l.length → isB l x a = true → isB l x b = true := by
  intro a b hab hb ha
  obtain ⟨p, hp⟩ : ∃ p, l[a]? = some p := ⟨_, List.getElem?_eq_getElem (by omega)⟩
  obtain ⟨q, hq⟩ : ∃ q, l[b]? = some q := ⟨_, List.getElem?_eq_getElem hb⟩
  rw [isB_at hp] at ha
  rw [isB_at hq]
  have ha := of_decide_eq_true ha
  refine decide_eq_true (firstL_from (a := 0) b q h ?_ hq)
  have hf : firstL x l ≤ a := by
    rcases Nat.lt_or_ge a (firstL x l) with h1 | h1
    · exact absurd ha (firstL_below x l a p h1 hp)
    · exact h1
  omega
set_option maxHeartbeats 800000 in
theorem closure_at {l : List Sp} {b2 b3 : Nat} {x : Int} {A : Option Addr} {c : Nat} (W : World) (h2 : b2 < W.heap.size) (h3 : b3 < W.heap.size) (c2 : W.cell? ⟨b2, 0, none⟩ = some (.slice A l.length c)) (c3 : W.cell? ⟨b3, 0, none⟩ = some (.int .i64 x)) (hl : PairsAt W A l) (ho : ordB 0 l = true) {i : Nat} (hi : i < l.length) :
    Calls Try.prog 39 #[.int .i64 i, .pointer (some ⟨b2, 0, none⟩), .pointer (some ⟨b3, 0, none⟩)] W fun e w' => e = .returned (.bool (isB l x i)) ∧ ∃ q os', w' = grow (W.drewN q) os' := by
  obtain ⟨p, hp⟩ : ∃ p, l[i]? = some p := ⟨_, List.getElem?_eq_getElem hi⟩
  rw [isB_at hp]
  have hpo := ordB_mem ho p (List.mem_of_getElem? hp)
  obtain ⟨b, off, rfl, hbl, d0, d1⟩ := hl.one hp
  obtain ⟨u, t⟩ := p
  simp only at d0 d1 hpo
  obtain ⟨m, em⟩ : ∃ m, l.length = m := ⟨_, rfl⟩
  rw [em] at c2 hi
  have g2 := cell_grown h2 c2
  have g3 := cell_grown h3 c3
  have g4 := cell_grown (a := ⟨b, off + i * 2, none⟩) hbl d0
  have g5 := cell_grown (a := ⟨b, off + i * 2 + 1, none⟩) hbl d1
  have hik : 0 ≤ (i : Int) ∧ (i : Int) < (m : Int) := by omega
  have B1 : Hid (∀ W : World, Calls Try.prog 34 #[.agg #[.int .i64 u, .int .i64 t]] W fun e w' => e = .returned (.int .i64 (u + t)) ∧ ∃ q os', w' = grow (W.drewN q) os') := fun W => (behind_at u t W ⟨by omega, by omega⟩).mono fun e w' ⟨he, hw⟩ => ⟨he, 0, #[.cells #[.int .i64 u, .int .i64 t] 24], hw.trans (alloc_eq_grow W _)⟩
  have hmx : Try.prog.follows .mixedOrders = true := by kernel_rfl
  clear c2 c3 d0 d1 hp hl ho hpo em h2 h3 hbl
  go_enter Try.func39, Try.ntmps39
  go_wp2
  go_quiet_grown ((go_at_call 34; with_reducible refine Calls.grown_of (B1.out _)))
  go_wp2
  go_ret
  exact ⟨rfl, nq, osq, rfl⟩
set_option maxHeartbeats 800000 in
theorem first_is {w : World} {v : Value} {l : List Sp} {x : Int} {r : Nat} (h : SpansIn w v l) (ho : ordB 0 l = true) (hs : l.length ≤ 1048576) (hr : firstL x l = r) : Calls Try.prog 31 #[v, .int .i64 x] w fun e w' => e = .returned (.int .i64 (r : Nat)) ∧ Below w.heap.size w w' := by
  subst hr
  obtain ⟨⟨A, c, rfl, h1, h2, h3⟩, hi⟩ := h
  have b0 : Below w.heap.size w ((w.alloc (.cells #[.slice A l.length c] 22)).alloc (.cells #[.int .i64 x] 3)) := ((Below.refl _ _).alloc (Nat.le_refl _) _).alloc (by simp) _
  have c2 : ((w.alloc (.cells #[.slice A l.length c] 22)).alloc (.cells #[.int .i64 x] 3)).cell? ⟨w.heap.size, 0, none⟩ = some (.slice A l.length c) := Go.Proofs.cell_alloc_sl _ (Go.Proofs.cell_new_sl _ _ _)
  have c3 : ((w.alloc (.cells #[.slice A l.length c] 22)).alloc (.cells #[.int .i64 x] 3)).cell? ⟨w.heap.size + 1, 0, none⟩ = some (.int .i64 x) := by
    have := Go.Proofs.cell_new_sl (w.alloc (.cells #[.slice A l.length c] 22)) (.int .i64 x) 3
    rwa [show (w.alloc (.cells #[.slice A l.length c] 22)).heap.size = w.heap.size + 1 by simp] at this
  have hz : ((w.alloc (.cells #[.slice A l.length c] 22)).alloc (.cells #[.int .i64 x] 3)).heap.size = w.heap.size + 2 := by simp
  have s2 : w.heap.size < ((w.alloc (.cells #[.slice A l.length c] 22)).alloc (.cells #[.int .i64 x] 3)).heap.size := by rw [hz]; omega
  have s3 : w.heap.size + 1 < ((w.alloc (.cells #[.slice A l.length c] 22)).alloc (.cells #[.int .i64 x] 3)).heap.size := by rw [hz]; omega
  have hp := h3.below b0
  have HW : Hid (∀ w', (∃ q os, w' = grow (((w.alloc (.cells #[.slice A l.length c] 22)).alloc (.cells #[.int .i64 x] 3)).drewN q) os) → Below w.heap.size w w') := fun w' ⟨q, os, e⟩ => by
    rw [e]
    exact b0.trans (Go.Proofs.below_grown_sl w.heap.size _ q os (by rw [hz]; omega))
  have hcon := Go.Proofs.Any.sort_Search Try.searchA 39 #[.pointer (some ⟨w.heap.size, 0, none⟩), .pointer (some ⟨w.heap.size + 1, 0, none⟩)] l.length (isB l x) ((w.alloc (.cells #[.slice A l.length c] 22)).alloc (.cells #[.int .i64 x] 3))
    (enter_any Try.func39 (by kernel_rfl) rfl) (by omega)
    (fun m os i hi' => closure_at _ (Nat.lt_of_lt_of_le (show w.heap.size < w.heap.size + 2 by omega) (by rw [← hz]; simp [grow])) (Nat.lt_of_lt_of_le (show w.heap.size + 1 < w.heap.size + 2 by omega) (by rw [← hz]; simp [grow]))
      (cell_grown (a := ⟨w.heap.size, 0, none⟩) s2 c2 m os) (cell_grown (a := ⟨w.heap.size + 1, 0, none⟩) s3 c3 m os)
      (hp.below (Go.Proofs.below_grown_sl _ _ m os (Nat.le_refl _))) ho hi') (isB_mono ho)
  rw [count_is x ho] at hcon
  change Calls Try.prog 38 _ _ _ at hcon
  have HCON := Lib.hid hcon
  clear hcon hp hz s2 s3 c2 c3 b0 h1 h2 h3 hi ho hs
  go_enter Try.func31, Try.ntmps31
  go_wp2_with fail
  refine HCON.out.mono ?_
  rintro e w' ⟨rfl, hg⟩
  have HB := Lib.hid (HW.out w' hg)
  go_wp2
  go_ret
  exact ⟨rfl, HB.out⟩
end Go.Proofs.Ytppiibdeigjcjaa
