/- Layer 10 (bytes): the runs with one place more: a contract. -/
import Derived.Test.YtcfnnchbnlcppaaBytesSpans
import Derived.Test.YtcfnnchbnlcppaaBytesRRuns
import Derived.Laws.Rows
namespace Go.Proofs.Ytcfnnchbnlcppaa
open Go.RowKit

theorem own_put {w : World} {base n z : Nat} {t : TypeId} {g cap : Nat} {xs : List Value} (h : w.ownsRow base t z (.slice (some ⟨g, 0, none⟩) n cap) n xs) (i : Nat) (u : Value) : (w.setCell ⟨g, i, none⟩ u).ownsRow base t z (.slice (some ⟨g, 0, none⟩) n cap) n (xs.set i u) := by
  have hl := h.1
  rcases h.2 with ⟨e, _⟩ | ⟨g', cap', cur, e, hb, hg, h1, h2, h3, h4⟩
  · cases e
  · injection e with e1 e2 e3
    injection e1 with e1
    injection e1 with e1
    subst e1 e3
    refine ⟨by rw [List.length_set]; exact hl, .inr ⟨g, cap, cur.setIfInBounds i u, rfl, hb, ?_, h1, h2, by simpa using h3, ?_⟩⟩
    · simp [World.setCell, Array.getElem?_modify, hg]
    · rw [Array.toList_setIfInBounds, List.take_set, h4]
theorem cells_last (l : List Sp) (a m : Int) : (cellsL (l ++ [(a, m)])).set (l.length * 2 + 1) (.int .i64 (m + 1)) = cellsL (l ++ [(a, m + 1)]) := by
  rw [cellsL_append, cellsL_append, List.set_append_right _ _ (by rw [cellsL_length]; omega), cellsL_length, show l.length * 2 + 1 - l.length * 2 = 1 by omega]
  rfl
theorem own_last {w : World} {base : Nat} {v : Value} {l : List Sp} {a m : Int} (h : Own w base v (l ++ [(a, m)])) : ∃ gb c, v = .slice (some ⟨gb, 0, none⟩) (l.length + 1) c ∧ base ≤ gb ∧ gb < w.heap.size ∧ w.cell? ⟨gb, l.length * 2, none⟩ = some (.int .i64 a) ∧ w.cell? ⟨gb, l.length * 2 + 1, none⟩ = some (.int .i64 m) ∧ w.frozen? ⟨gb, l.length * 2 + 1, none⟩ = false := by
  have hn : (l ++ [(a, m)]).length = l.length + 1 := by simp
  unfold Own at h
  rw [hn] at h
  rcases h.2 with ⟨_, e⟩ | ⟨g, cap, cur, rfl, hb, hg, _⟩
  · omega
  · have hat := cellsL_at (l := l ++ [(a, m)]) (k := l.length) (p := (a, m)) (by simp)
    exact ⟨g, cap, rfl, hb, (Array.getElem?_eq_some_iff.1 hg).1, by rw [h.cellAt _ (by omega)]; exact hat.1, by rw [h.cellAt _ (by omega)]; exact hat.2, frozen_of_row _ _ _ _ _ hg⟩
def WithIn (w : World) (base : Nat) (l : List Sp) (e : Ending) (w' : World) : Prop := ∃ v, e = .returned v ∧ Own w' base v l ∧ Below base w w'
set_option maxHeartbeats 2000000 in
theorem with_at {w : World} {base : Nat} {v : Value} {l : List Sp} (hown : Own w base v l) (hbase : base ≤ w.heap.size) {p : Nat} (hp : p ≤ 1048576) (hl : l.length ≤ 1048576) (hbd : ∀ q ∈ l, 0 ≤ q.1 ∧ 0 ≤ q.2 ∧ q.1 + q.2 ≤ p) :
    Calls Try.prog 37 #[v, .int .i64 p] w (WithIn w base (withP l p)) := by
  have HO := Lib.hid hown
  have hb1 := Below.refl w.heap.size w
  rcases l.eq_nil_or_concat with rfl | ⟨r, q, hr⟩
  · obtain ⟨A, c, rfl⟩ := own_val hown
    have hw : IntKind.i64.wrap ((0 : Int) - 1) = -1 := by rw [IntKind.wrap_i64]; omega
    have d1 : decide ((0 : Int) ≤ -1) = false := by decide
    have e : withP [] p = [] ++ [((p : Int), 1)] := rfl
    rw [e]
    have HO2 : Hid (Own w base (.slice A 0 c) []) := hown
    clear hown hl hbd hp e HO
    simp only [List.length_nil]
    go_enter Try.func37, Try.ntmps37
    go_wp2
    refine wp_region_from (w0 := w) (by kernel_rfl) (by kernel_rfl) hb1 ?_
    repeat (go_big_quiet_step (fail))
    refine wpQuiet_nil ?_
    intro wq hw'
    obtain ⟨⟨wy, hq⟩, hw''⟩ := hw'
    subst hw''
    have own1 := Lib.hid (HO2.out.below hq)
    have HS := Lib.hid hq.size
    have HQ := Lib.hid hq
    clear hq
    go_wp2_with (at_builtin; refine wpList_one (by rfl) (.tmp 35) (.tmp 38) (by rfl) (base := base) (v := _) (xs := []) (by rfl) (own1.out.below (new_below wq _)) (by have := HS.out; simp; omega) ⟨wq.heap.size, 0, none⟩ 1 (z := ((p : Int), 1)) (by rfl) (one_pairs wq _ _) (by simp) ?_; intro v2 w2 own2 hb2 hg2)
    go_ret
    exact ⟨_, rfl, own2, ((HQ.out.mono hbase).alloc (Nat.le_trans hbase HS.out) _).trans hb2⟩
  · obtain ⟨a, m⟩ := q
    subst hr
    rw [List.concat_eq_append] at *
    obtain ⟨gb, c, rfl, hgb, hgl, k0, k1, kf⟩ := own_last hown
    obtain ⟨n, hn⟩ : ∃ n, r.length + 1 = n := ⟨_, rfl⟩
    obtain ⟨k, hk⟩ : ∃ k, r.length = k := ⟨_, rfl⟩
    have hbm := hbd (a, m) (by simp)
    simp only at hbm
    have hll : k + 1 ≤ 1048576 := by rw [List.length_append] at hl; simp at hl; omega
    have hnb : n ≤ 1048576 := by omega
    have hw : IntKind.i64.wrap ((n : Int) - 1) = (k : Int) := by rw [IntKind.wrap_i64]; omega
    have d1 : decide ((0 : Int) ≤ (k : Int)) = true := decide_eq_true (by omega)
    have hkn : 0 ≤ (k : Int) ∧ (k : Int) < (n : Int) := by omega
    have hs : IntKind.i64.wrap (a + m) = a + m := by rw [IntKind.wrap_i64]; omega
    rw [hk] at k0 k1 kf
    rw [hn]
    have c0 : ∀ q : From w, q.W.cell? ⟨gb, k * 2, none⟩ = some (.int .i64 a) := fun q => (q.bel.cell (p := ⟨gb, k * 2, none⟩) hgl).trans k0
    have c1 : ∀ q : From w, q.W.cell? ⟨gb, k * 2 + 1, none⟩ = some (.int .i64 m) := fun q => (q.bel.cell (p := ⟨gb, k * 2 + 1, none⟩) hgl).trans k1
    have HF : Hid (∀ W, Below w.heap.size w W → W.frozen? ⟨gb, k * 2 + 1, none⟩ = false) := fun W hb => by
      have h1 := hb.block gb hgl
      unfold World.frozen? at kf ⊢
      simp only at kf ⊢
      rw [h1]
      exact kf
    have HO3 : Hid (∀ W, Below w.heap.size w W → Own W base (.slice (some ⟨gb, 0, none⟩) n c) (r ++ [(a, m)])) := fun W hb => by
      rw [← hn]
      exact hown.below hb
    have HLn : Hid ((r ++ [(a, m)]).length = n) := by show _ = _; simp; omega
    have HK := Lib.hid hk
    have HN := Lib.hid hn
    clear HO hown k0 k1 kf hbd hl hk hn
    by_cases he : a + m = (p : Int)
    · have HE : Hid (withP (r ++ [(a, m)]) p = r ++ [(a, m + 1)]) := by
        show _ = _
        unfold withP
        rw [List.getLast?_concat]
        simp only
        rw [if_pos he, List.dropLast_concat]
      rw [HE.out]
      have he1 : ((a + m) == (p : Int)) = true := by rw [beq_iff_eq]; exact he
      have hm1 : IntKind.i64.wrap (m + 1) = m + 1 := by rw [IntKind.wrap_i64]; omega
      clear HE he
      go_enter Try.func37, Try.ntmps37
      go_wp2
      refine wp_region_from (w0 := w) (by kernel_rfl) (by kernel_rfl) hb1 ?_
      repeat (go_big_quiet_step (fail))
      refine wpQuiet_nil ?_
      intro wq hw'
      obtain ⟨⟨wy, hq⟩, hw''⟩ := hw'
      subst hw''
      have n0 : wq.cell? ⟨gb, k * 2 + 1, none⟩ = some (.int .i64 m) := c1 ⟨wq, hq⟩
      have n1 := HF.out wq hq
      have HQ := Lib.hid hq
      clear hq c0 c1
      go_wp2
      go_ret
      refine ⟨_, rfl, ?_, ((HQ.out.mono hbase).setCell (p := ⟨gb, k * 2 + 1, none⟩) hgb _)⟩
      have h1 := HO3.out wq HQ.out
      unfold Own at h1 ⊢
      rw [HLn.out] at h1
      have h2 := own_put h1 (k * 2 + 1) (.int .i64 (m + 1))
      rw [← HK.out, cells_last] at h2
      rw [show (r ++ [(a, m + 1)]).length = n by simp; exact HN.out, ← HK.out]
      exact h2
    · have HE : Hid (withP (r ++ [(a, m)]) p = (r ++ [(a, m)]) ++ [((p : Int), 1)]) := by
        show _ = _
        unfold withP
        rw [List.getLast?_concat]
        simp only
        rw [if_neg he]
      rw [HE.out]
      have he1 : ((a + m) == (p : Int)) = false := by rw [beq_eq_false_iff_ne]; exact he
      clear HE he
      generalize r ++ [(a, m)] = R at *
      go_enter Try.func37, Try.ntmps37
      go_wp2
      refine wp_region_from (w0 := w) (by kernel_rfl) (by kernel_rfl) hb1 ?_
      repeat (go_big_quiet_step (fail))
      refine wpQuiet_nil ?_
      intro wq hw'
      obtain ⟨⟨wy, hq⟩, hw''⟩ := hw'
      subst hw''
      have own1 := Lib.hid (HO3.out wq hq)
      have HS := Lib.hid hq.size
      have HQ := Lib.hid hq
      clear hq c0 c1
      go_wp2_with (at_builtin; refine wpList_one (by rfl) (.tmp 35) (.tmp 38) (by rfl) (base := base) (v := _) (xs := R) (by rfl) (own1.out.below (new_below wq _)) (by have := HS.out; simp; omega) ⟨wq.heap.size, 0, none⟩ 1 (z := ((p : Int), 1)) (by rfl) (one_pairs wq _ _) (by have := HLn.out; omega) ?_; intro v2 w2 own2 hb2 hg2)
      go_ret
      exact ⟨_, rfl, own2, ((HQ.out.mono hbase).alloc (Nat.le_trans hbase HS.out) _).trans hb2⟩
end Go.Proofs.Ytcfnnchbnlcppaa
