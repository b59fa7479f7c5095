/- Layer 8 (spans): slices of spans in memory; what Right and the document's Right return: contracts. -/
import Derived.Test.YtppiibdeigjcjaaSpansOne
import Derived.Deep.CutRange
namespace Go.Proofs.Ytppiibdeigjcjaa
open Go.RowKit

/-- A slice whose elements read as l. -/
structure SpansIn (w : World) (v : Value) (l : List Sp) : Prop where
  ex : ∃ A c, v = .slice A l.length c ∧ l.length ≤ c ∧ c ≤ maxLen ∧ PairsAt w A l
  ints : ∀ p ∈ l, InInt p.1 ∧ InInt p.2
theorem SpansIn.below {w w' : World} {v : Value} {l : List Sp} (h : SpansIn w v l) (hb : Below w.heap.size w w') : SpansIn w' v l := by
  obtain ⟨⟨A, c, e, h1, h2, h3⟩, hi⟩ := h
  exact ⟨⟨A, c, e, h1, h2, h3.below hb⟩, hi⟩
/-- Its element number k. -/
theorem PairsAt.one {w : World} {A : Option Addr} {l : List Sp} {k : Nat} {p : Sp} (h : PairsAt w A l) (hk : l[k]? = some p) : ∃ b off, A = some ⟨b, off, none⟩ ∧ b < w.heap.size ∧ w.cell? ⟨b, off + k * 2, none⟩ = some (.int .i64 p.1) ∧ w.cell? ⟨b, off + k * 2 + 1, none⟩ = some (.int .i64 p.2) := by
  rcases h with h | ⟨b, off, e, hlt, hc⟩
  · rw [h] at hk; simp at hk
  · exact ⟨b, off, e, hlt, hc k p hk⟩
theorem drop_at {l : List Sp} {k : Nat} {p : Sp} (h : l[k]? = some p) : l.drop k = p :: l.drop (k + 1) := by
  obtain ⟨hk, e⟩ := List.getElem?_eq_some_iff.1 h
  rw [List.drop_eq_getElem_cons hk, e]
set_option maxHeartbeats 800000 in
theorem right_spans {w : World} {v : Value} {l : List Sp} {r : Bool} (h : SpansIn w v l) (hr : ordB 0 l = r) : Calls Try.prog 13 #[v] w fun e w' => e = .returned (.bool r) ∧ Below w.heap.size w w' := by
  obtain ⟨⟨A, c, rfl, h1, h2, h3⟩, hi⟩ := h
  obtain ⟨n, en⟩ : ∃ n, l.length = n := ⟨_, rfl⟩
  rw [en] at h1 ⊢
  have hnot := not_any
  have hn63 : n ≤ 9223372036854775807 := by unfold maxLen at h2; omega
  have H3 := Lib.hid h3
  have HI := Lib.hid hi
  have HN := Lib.hid en
  have HR := Lib.hid hr
  clear h1 h2 h3 hi en hr
  go_enter Try.func13, Try.ntmps13
  go_wp2
  go_loopw [3, 8] (fun u i wr => ∃ (k : Nat) (a : Int), k ≤ n ∧ i = .int .i64 k ∧ u = .int .i64 a ∧ Below w.heap.size w wr ∧ Hid (0 ≤ a) ∧ Hid (ordB a (l.drop k) = r)) (fun _ i _ => n - (intOf i).toNat)
  case atStart => exact ⟨0, 0, by omega, rfl, rfl, Below.refl _ _, Int.le_refl 0, HR⟩
  case round =>
    obtain ⟨k, a, hk, rfl, rfl, hb, ha, hh⟩ := hrel
    by_cases hlt : k < n
    · obtain ⟨p, hp⟩ : ∃ p, l[k]? = some p := ⟨_, List.getElem?_eq_getElem (by rw [HN.out]; exact hlt)⟩
      obtain ⟨b, off, rfl, hbl, c0, c1⟩ := (H3.out.below hb).one hp
      obtain ⟨x, y⟩ := p
      have hxy := HI.out _ (List.mem_of_getElem? hp)
      have HD : Hid ((okB a (x, y) && ordB (x + y) (l.drop (k + 1))) = r) := by
        have := hh.out
        rw [drop_at hp] at this
        exact this
      have hik : 0 ≤ (k : Int) ∧ (k : Int) < (n : Int) := by omega
      simp only at c0 c1
      clear hp hh
      obtain ⟨q, eq⟩ : ∃ q, okB a (x, y) = q := ⟨_, rfl⟩
      go_upto_region 5 with fail
      have v0 := two_lit wr (.int .i64 x) (.int .i64 y) 24
      have v1 := step_below hb (new_below wr (.cells #[.int .i64 x, .int .i64 y] 24))
      obtain ⟨d0, d1⟩ := two_any v0 (Below.refl _ _)
      simp only [twoF] at d0 d1
      clear c0 c1
      generalize wr.alloc (.cells #[.int .i64 x, .int .i64 y] 24) = W1 at *
      have V0 := Lib.hid v0
      have V1 := Lib.hid v1
      have EQ := Lib.hid eq
      clear v0 v1 eq
      go_wp2_with fail
      refine (right_is _ ha.out hxy.1 hxy.2 EQ.out).mono ?_
      rintro e w2 ⟨rfl, b2⟩
      obtain ⟨d2, d3⟩ := two_any V0.out b2
      simp only [twoF] at d2 d3
      have B2 := Lib.hid (step_below V1.out b2)
      clear d0 d1 b2
      cases q with
      | false =>
        go_wp2
        go_ret
        exact ⟨ret_bool (by rw [← HD.out, EQ.out]; rfl), B2.out⟩
      | true =>
        have k1 := okB_iff.1 EQ.out
        simp only at k1
        have ha' := ha.out
        go_wp2_with fail
        refine (behind_is (x := x + y) _ ⟨by omega, by omega⟩ rfl).mono ?_
        rintro e w3 ⟨rfl, b3⟩
        clear d2 d3
        go_wp2
        go_roundw
        case rel => exact ⟨k + 1, x + y, by omega, by go_num, rfl, step_below B2.out b3, by show 0 ≤ x + y; omega, by have := HD.out; rw [EQ.out] at this; exact this⟩
        case measure => simp [intOf]; omega
    · have HE : Hid (true = r) := by
        show _ = _
        rw [← hh.out, List.drop_eq_nil_of_le (by rw [HN.out]; omega)]
        rfl
      go_wp2
      go_ret
      exact ⟨ret_bool HE.out, hb⟩
theorem PairsAt.all {w : World} {A : Option Addr} {l : List Sp} (h : PairsAt w A l) (h0 : 0 < l.length) : ∃ b off, A = some ⟨b, off, none⟩ ∧ ∀ W, Below w.heap.size w W → ∀ (k : Nat) (p : Sp), l[k]? = some p → W.cell? ⟨b, off + k * 2, none⟩ = some (.int .i64 p.1) ∧ W.cell? ⟨b, off + k * 2 + 1, none⟩ = some (.int .i64 p.2) := by
  rcases h with h | ⟨b, off, e, hlt, hc⟩
  · rw [h] at h0; simp at h0
  · exact ⟨b, off, e, fun W hb k p hk => ⟨(hb.cell (p := ⟨b, off + k * 2, none⟩) hlt).trans (hc k p hk).1, (hb.cell (p := ⟨b, off + k * 2 + 1, none⟩) hlt).trans (hc k p hk).2⟩⟩
/-- Where the numbers of the one ahead end. -/
def ahead (l : List Sp) : Nat → Int
  | 0 => 0
  | k + 1 => match l[k]? with
    | some p => p.1 + p.2
    | none => 0
theorem ahead_next {l : List Sp} {k : Nat} {p : Sp} (h : l[k]? = some p) : ahead l (k + 1) = p.1 + p.2 := by show (match l[k]? with | some p => p.1 + p.2 | none => 0) = _; rw [h]
set_option maxHeartbeats 1600000 in
theorem rright_spans {w : World} {v : Value} {l : List Sp} {r : Bool} (h : SpansIn w v l) (hr : ordB 0 l = r) : Calls Try.prog 14 #[v] w fun e w' => e = .returned (.bool r) ∧ Below w.heap.size w w' := by
  obtain ⟨⟨A, c, rfl, h1, h2, h3⟩, hi⟩ := h
  obtain ⟨n, en⟩ : ∃ n, l.length = n := ⟨_, rfl⟩
  rw [en] at h1 ⊢
  have hnot := not_any
  have hn63 : n ≤ 9223372036854775807 := by unfold maxLen at h2; omega
  have H3 := Lib.hid h3
  have HI := Lib.hid hi
  have HN := Lib.hid en
  have HR := Lib.hid hr
  clear h1 h2 h3 hi en hr
  go_enter Try.func14, Try.ntmps14
  go_wp2
  go_loopw [3] (fun i wr => ∃ (k : Nat), k ≤ n ∧ i = .int .i64 k ∧ Below w.heap.size w wr ∧ Hid (∀ j q, j < k → l[j]? = some q → okB 0 q = true) ∧ Hid (ordB (ahead l k) (l.drop k) = r)) (fun i _ => n - (intOf i).toNat)
  case atStart => exact ⟨0, by omega, rfl, Below.refl _ _, fun j q h => by omega, HR⟩
  case round =>
    obtain ⟨k, hk, rfl, hb, hall, hh⟩ := hrel
    by_cases hlt : k < n
    · obtain ⟨p, hp⟩ : ∃ p, l[k]? = some p := ⟨_, List.getElem?_eq_getElem (by rw [HN.out]; exact hlt)⟩
      obtain ⟨b, off, rfl, hc⟩ := (H3.out.below hb).all (by rw [HN.out]; omega)
      have hxy := HI.out _ (List.mem_of_getElem? hp)
      have c0 : ∀ q : From wr, q.W.cell? ⟨b, off + k * 2, none⟩ = some (.int .i64 p.1) := fun q => (hc q.W q.bel k p hp).1
      have c1 : ∀ q : From wr, q.W.cell? ⟨b, off + k * 2 + 1, none⟩ = some (.int .i64 p.2) := fun q => (hc q.W q.bel k p hp).2
      have HD : Hid ((okB (ahead l k) p && ordB (ahead l (k + 1)) (l.drop (k + 1))) = r) := by
        have := hh.out
        rw [drop_at hp] at this
        rw [ahead_next hp]
        exact this
      have HNX : Hid (okB 0 p = true → ∀ j q, j < k + 1 → l[j]? = some q → okB 0 q = true) := fun h0 j q hj hq => by
        by_cases e : j = k
        · rw [e, hp] at hq
          injection hq with hq
          rw [← hq]; exact h0
        · exact hall.out j q (by omega) hq
      have hik : 0 ≤ (k : Int) ∧ (k : Int) < (n : Int) := by omega
      have hb1 := Below.refl wr.heap.size wr
      obtain ⟨x, y⟩ := p
      simp only at c0 c1 hxy
      obtain ⟨o, eo⟩ : ∃ o, okB 0 (x, y) = o := ⟨_, rfl⟩
      have O1 : Hid (∀ W, Calls Try.prog 33 #[.agg #[.int .i64 x, .int .i64 y]] W fun e w' => e = .returned (.bool o) ∧ Below W.heap.size W w') := fun W => one_is W hxy.1 hxy.2 eo
      have EO := Lib.hid eo
      have HBB := Lib.hid hb
      clear hh eo hb
      by_cases h0 : k = 0
      · subst h0
        have HA : Hid (ahead l 0 = 0) := rfl
        simp only [Nat.zero_mul, Nat.add_zero] at c0 c1
        clear hp hc
        cases o with
        | false =>
          have HV : Hid (false = r) := by show _ = _; rw [← HD.out, HA.out, EO.out]; rfl
          go_wp2
          refine wp_region_from (w0 := wr) (by kernel_rfl) (by kernel_rfl) hb1 ?_
          repeat (go_big_quiet_step (first | (go_at_call 33; with_reducible refine from_of (O1.out _))))
          refine wpQuiet_nil ?_
          intro _ hw'
          obtain ⟨⟨wq, hq⟩, hw''⟩ := hw'
          subst hw''
          go_wp2
          go_ret
          exact ⟨ret_bool HV.out, step_below HBB.out hq⟩
        | true =>
          go_wp2
          refine wp_region_from (w0 := wr) (by kernel_rfl) (by kernel_rfl) hb1 ?_
          repeat (go_big_quiet_step (first | (go_at_call 33; with_reducible refine from_of (O1.out _))))
          refine wpQuiet_nil ?_
          intro _ hw'
          obtain ⟨⟨wq, hq⟩, hw''⟩ := hw'
          subst hw''
          go_wp2
          go_roundw
          case rel => exact ⟨1, by omega, by go_num, step_below HBB.out hq, HNX.out EO.out, by have := HD.out; rw [HA.out, EO.out] at this; exact this⟩
          case measure => simp [intOf]; omega
      · obtain ⟨q, hq0⟩ : ∃ q, l[k - 1]? = some q := ⟨_, List.getElem?_eq_getElem (by rw [HN.out]; omega)⟩
        have hoq := hall.out (k - 1) q (by omega) hq0
        have HA : Hid (ahead l k = q.1 + q.2) := by
          have := ahead_next hq0
          rw [show k - 1 + 1 = k by omega] at this
          exact this
        have huv := HI.out _ (List.mem_of_getElem? hq0)
        have c2 : ∀ q' : From wr, q'.W.cell? ⟨b, off + (k - 1) * 2, none⟩ = some (.int .i64 q.1) := fun q' => (hc q'.W q'.bel (k - 1) q hq0).1
        have c3 : ∀ q' : From wr, q'.W.cell? ⟨b, off + (k - 1) * 2 + 1, none⟩ = some (.int .i64 q.2) := fun q' => (hc q'.W q'.bel (k - 1) q hq0).2
        obtain ⟨u, t⟩ := q
        simp only at c2 c3 huv
        have k2 := okB_iff.1 hoq
        simp only at k2
        obtain ⟨m, em⟩ : ∃ m, meetB (u, t) (x, y) = m := ⟨_, rfl⟩
        have M1 : Hid (∀ W, Calls Try.prog 17 #[.agg #[.int .i64 u, .int .i64 t], .agg #[.int .i64 x, .int .i64 y]] W fun e w' => e = .returned (.bool m) ∧ Below W.heap.size W w') := fun W => rmeet_is W huv.1 huv.2 hxy.1 hxy.2 em
        have hw : IntKind.i64.wrap ((k : Int) - 1) = (k : Int) - 1 := i64_is (by omega)
        have hk1 : 0 ≤ (k : Int) - 1 ∧ (k : Int) - 1 < (n : Int) := by omega
        have hk2 : ((k : Int) - 1).toNat = k - 1 := by omega
        have hpos : decide (0 < k) = true := decide_eq_true (by omega)
        have EM := Lib.hid em
        have HOQ := Lib.hid hoq
        have HK2 : Hid (0 ≤ u ∧ 1 ≤ t ∧ u + t ≤ 9223372036854775807) := k2
        clear hp hc hq0 em hoq k2
        cases o with
        | false =>
          have HV : Hid (false = r) := by
            show _ = _
            rw [← HD.out, HA.out]
            cases e : okB (u + t) (x, y) with
            | false => rfl
            | true =>
              have k3 := okB_iff.1 e
              have k4 := HK2.out
              rw [okB_iff.2 (show (0 : Int) ≤ (x, y).1 ∧ _ by simp only at k3 ⊢; omega)] at EO
              exact absurd EO.out (by decide)
          go_wp2
          refine wp_region_from (w0 := wr) (by kernel_rfl) (by kernel_rfl) hb1 ?_
          repeat (go_big_quiet_step (first | (go_at_call 33; with_reducible refine from_of (O1.out _)) | (go_at_call 17; with_reducible refine from_of (M1.out _))))
          refine wpQuiet_nil ?_
          intro _ hw'
          obtain ⟨⟨wq, hq⟩, hw''⟩ := hw'
          subst hw''
          go_wp2
          go_ret
          exact ⟨ret_bool HV.out, step_below HBB.out hq⟩
        | true =>
          have k1 := okB_iff.1 EO.out
          have k2 := HK2.out
          simp only at k1
          by_cases hxu : x < u
          · have HV : Hid (false = r) := by
              show _ = _
              rw [← HD.out, HA.out]
              cases e : okB (u + t) (x, y) with
              | false => rfl
              | true =>
                have k3 := okB_iff.1 e
                simp only at k3
                omega
            have hd : decide (x < u) = true := decide_eq_true hxu
            clear k1 k2 hxu
            go_wp2
            refine wp_region_from (w0 := wr) (by kernel_rfl) (by kernel_rfl) hb1 ?_
            repeat (go_big_quiet_step (first | (go_at_call 33; with_reducible refine from_of (O1.out _)) | (go_at_call 17; with_reducible refine from_of (M1.out _))))
            refine wpQuiet_nil ?_
            intro _ hw'
            obtain ⟨⟨wq, hq⟩, hw''⟩ := hw'
            subst hw''
            go_wp2
            go_ret
            exact ⟨ret_bool HV.out, step_below HBB.out hq⟩
          · have hd : decide (x < u) = false := decide_eq_false hxu
            cases m with
            | true =>
              have HV : Hid (false = r) := by
                show _ = _
                rw [← HD.out, HA.out]
                cases e : okB (u + t) (x, y) with
                | false => rfl
                | true =>
                  have k3 := okB_iff.1 e
                  have k4 := meetB_iff.1 EM.out
                  simp only at k3 k4
                  omega
              clear k1 k2 hxu
              go_wp2
              refine wp_region_from (w0 := wr) (by kernel_rfl) (by kernel_rfl) hb1 ?_
              repeat (go_big_quiet_step (first | (go_at_call 33; with_reducible refine from_of (O1.out _)) | (go_at_call 17; with_reducible refine from_of (M1.out _))))
              refine wpQuiet_nil ?_
              intro _ hw'
              obtain ⟨⟨wq, hq⟩, hw''⟩ := hw'
              subst hw''
              go_wp2
              go_ret
              exact ⟨ret_bool HV.out, step_below HBB.out hq⟩
            | false =>
              have HV : Hid (okB (u + t) (x, y) = true) := by
                have k4 := meetB_off HOQ.out EO.out EM.out
                simp only at k4
                exact okB_iff.2 (by simp only; omega)
              clear k1 k2 hxu
              go_wp2
              refine wp_region_from (w0 := wr) (by kernel_rfl) (by kernel_rfl) hb1 ?_
              repeat (go_big_quiet_step (first | (go_at_call 33; with_reducible refine from_of (O1.out _)) | (go_at_call 17; with_reducible refine from_of (M1.out _))))
              refine wpQuiet_nil ?_
              intro _ hw'
              obtain ⟨⟨wq, hq⟩, hw''⟩ := hw'
              subst hw''
              go_wp2
              go_roundw
              case rel => exact ⟨k + 1, by omega, by go_num, step_below HBB.out hq, HNX.out EO.out, by have := HD.out; rw [HA.out, HV.out] at this; exact this⟩
              case measure => simp [intOf]; omega
    · have HE : Hid (true = r) := by
        show _ = _
        rw [← hh.out, List.drop_eq_nil_of_le (by rw [HN.out]; omega)]
        rfl
      go_wp2
      go_ret
      exact ⟨ret_bool HE.out, hb⟩
end Go.Proofs.Ytppiibdeigjcjaa
