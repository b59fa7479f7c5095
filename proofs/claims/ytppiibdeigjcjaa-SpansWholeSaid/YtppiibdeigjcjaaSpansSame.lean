/- Layer 8 (spans): two spans compared, and what SameSpans returns: contracts. -/
import Derived.Test.YtppiibdeigjcjaaSpansRight
import Derived.ChangeKeysEq
import Derived.Laws.StructEq
namespace Go.Proofs.Ytppiibdeigjcjaa
open Go.RowKit

theorem eql_span (w : World) (a b x y : Int) :
    (Op.equalIn 10000 24 (.agg #[.int .i64 a, .int .i64 b]) (.agg #[.int .i64 x, .int .i64 y])).run Try.prog w = .ok (decide ((a, b) = (x, y))) w := by
  have u3 := Try.underlying3
  have a3 := Try.isAgg3
  have z3 := Try.sizeOf3
  have hS : Try.prog.underlying 24 = some (.struct (Try.prog.fieldsOf 24)) := by kernel_rfl
  have hp : Try.prog.stoodInHeld 24 = false := by kernel_rfl
  rw [show (10000 : Nat) = 9999 + 1 from rfl, run_equalIn_struct w 9999 24 _ _ hS hp]
  simp only [Program.fieldsOf, Try.underlying24]
  go_simp
  by_cases h1 : a = x <;> by_cases h2 : b = y <;> simp [h1, h2]
theorem eql_span_is (w : World) {a b x y : Int} {r : Bool} (h : decide ((a, b) = (x, y)) = r) :
    (Op.equalIn 10000 24 (.agg #[.int .i64 a, .int .i64 b]) (.agg #[.int .i64 x, .int .i64 y])).run Try.prog w = .ok r w := by
  rw [← h]; exact eql_span w a b x y
set_option maxHeartbeats 800000 in
theorem same_is {w : World} {v u : Value} {xs ys : List Sp} {r : Bool} (hx : SpansIn w v xs) (hy : SpansIn w u ys) (hr : decide (xs = ys) = r) : Calls Try.prog 15 #[v, u] w fun e w' => e = .returned (.bool r) ∧ Below w.heap.size w w' := by
  obtain ⟨⟨A, c, rfl, h1, h2, h3⟩, _⟩ := hx
  obtain ⟨⟨B, d, rfl, g1, g2, g3⟩, _⟩ := hy
  by_cases he : xs.length = ys.length
  · obtain ⟨n, en⟩ : ∃ n, xs.length = n := ⟨_, rfl⟩
    have em : ys.length = n := he.symm.trans en
    rw [en] at h1 ⊢
    rw [em] at g1 ⊢
    have hbb : ((n : Int) != (n : Int)) = false := by simp
    have hn63 : n ≤ 9223372036854775807 := by unfold maxLen at h2; omega
    have HX := Lib.hid h3
    have HY := Lib.hid g3
    have HN := Lib.hid en
    have HM := Lib.hid em
    have HR := Lib.hid hr
    clear h1 h2 h3 g1 g2 g3 he en em hr
    go_enter Try.func15, Try.ntmps15
    go_wp2
    go_loopw [5] (fun i wr => ∃ k : Nat, k ≤ n ∧ i = .int .i64 k ∧ Below w.heap.size w wr ∧ Hid (∀ j, j < k → xs[j]? = ys[j]?)) (fun i _ => n - (intOf i).toNat)
    case atStart => exact ⟨0, by omega, rfl, Below.refl _ _, fun j hj => by omega⟩
    case round =>
      obtain ⟨k, hk, rfl, hb, hh⟩ := hrel
      by_cases hlt : k < n
      · obtain ⟨p, hp⟩ : ∃ p, xs[k]? = some p := ⟨_, List.getElem?_eq_getElem (by rw [HN.out]; exact hlt)⟩
        obtain ⟨q, hq0⟩ : ∃ q, ys[k]? = some q := ⟨_, List.getElem?_eq_getElem (by rw [HM.out]; exact hlt)⟩
        obtain ⟨b, off, rfl, hc⟩ := (HX.out.below hb).all (by rw [HN.out]; omega)
        obtain ⟨b', off', rfl, hc'⟩ := (HY.out.below hb).all (by rw [HM.out]; omega)
        have c0 : ∀ q : From wr, q.W.cell? ⟨b, off + k * 2, none⟩ = some (.int .i64 p.1) := fun q => (hc q.W q.bel k p hp).1
        have c1 : ∀ q : From wr, q.W.cell? ⟨b, off + k * 2 + 1, none⟩ = some (.int .i64 p.2) := fun q => (hc q.W q.bel k p hp).2
        have c2 : ∀ q' : From wr, q'.W.cell? ⟨b', off' + k * 2, none⟩ = some (.int .i64 q.1) := fun q' => (hc' q'.W q'.bel k q hq0).1
        have c3 : ∀ q' : From wr, q'.W.cell? ⟨b', off' + k * 2 + 1, none⟩ = some (.int .i64 q.2) := fun q' => (hc' q'.W q'.bel k q hq0).2
        have hik : 0 ≤ (k : Int) ∧ (k : Int) < (n : Int) := by omega
        have hb1 := Below.refl wr.heap.size wr
        have HP := Lib.hid hp
        have HQ := Lib.hid hq0
        clear hp hq0 hc hc'
        obtain ⟨x, y⟩ := p
        obtain ⟨a, m⟩ := q
        simp only at c0 c1 c2 c3
        by_cases hxy : (x, y) = (a, m)
        · have z : ∀ W, (Op.equalIn 10000 24 (.agg #[.int .i64 x, .int .i64 y]) (.agg #[.int .i64 a, .int .i64 m])).run Try.prog W = .ok true W := fun W => eql_span_is W (decide_eq_true hxy)
          have HXY := Lib.hid hxy
          clear hxy
          go_wp2
          refine wp_region_from (w0 := wr) (by kernel_rfl) (by kernel_rfl) hb1 ?_
          repeat (go_big_quiet_step (fail))
          refine wpQuiet_nil ?_
          intro wq hw'
          obtain ⟨⟨wy, hq⟩, hw''⟩ := hw'
          subst hw''
          go_wp2
          go_roundw
          case rel =>
            refine ⟨k + 1, by omega, by go_num, step_below hb hq, fun j hj => ?_⟩
            by_cases e : j = k
            · rw [e, HP.out, HQ.out, HXY.out]
            · exact hh.out j (by omega)
          case measure => simp [intOf]; omega
        · have z : ∀ W, (Op.equalIn 10000 24 (.agg #[.int .i64 x, .int .i64 y]) (.agg #[.int .i64 a, .int .i64 m])).run Try.prog W = .ok false W := fun W => eql_span_is W (decide_eq_false hxy)
          have HE : Hid (false = r) := by
            show _ = _
            rw [← HR.out, eq_comm, decide_eq_false_iff_not]
            intro e
            rw [e, HQ.out] at HP
            have := HP.out
            injection this with this
            exact hxy this.symm
          clear hxy
          go_wp2
          refine wp_region_from (w0 := wr) (by kernel_rfl) (by kernel_rfl) hb1 ?_
          repeat (go_big_quiet_step (fail))
          refine wpQuiet_nil ?_
          intro wq hw'
          obtain ⟨⟨wy, hq⟩, hw''⟩ := hw'
          subst hw''
          go_wp2
          go_ret
          exact ⟨ret_bool HE.out, step_below hb hq⟩
      · have HE : Hid (true = r) := by
          show _ = _
          rw [← HR.out, eq_comm, decide_eq_true_iff]
          refine List.ext_getElem? fun j => ?_
          by_cases hj : j < k
          · exact hh.out j hj
          · rw [List.getElem?_eq_none (by rw [HN.out]; omega), List.getElem?_eq_none (by rw [HM.out]; omega)]
        go_wp2
        go_ret
        exact ⟨ret_bool HE.out, hb⟩
  · have hbb : ((xs.length : Int) != (ys.length : Int)) = true := by simp; omega
    have HE : Hid (false = r) := by
      show _ = _
      rw [← hr, eq_comm, decide_eq_false_iff_not]
      intro e
      exact he (by rw [e])
    clear hr h1 h2 h3 g1 g2 g3
    go_enter Try.func15, Try.ntmps15
    go_wp2
    go_ret
    exact ⟨ret_bool HE.out, Below.refl _ _⟩
end Go.Proofs.Ytppiibdeigjcjaa
