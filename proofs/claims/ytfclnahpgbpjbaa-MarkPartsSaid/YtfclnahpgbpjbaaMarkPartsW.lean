/- Layer 13 (mark): the walk of MarkParts. -/
import Derived.Test.YtfclnahpgbpjbaaMarkW
import Derived.Test.YtfclnahpgbpjbaaBaseNest
namespace Go.Proofs.Ytfclnahpgbpjbaa
open Go.RowKit

/-- What the rows ahead of one hold, one behind the other. -/
def flatM (M : List (List Int)) (i : Nat) : List Int := (M.take i).flatten
theorem flatM_more {M : List (List Int)} {i : Nat} (h : i < M.length) : flatM M (i + 1) = flatM M i ++ M[i]'h := by
  unfold flatM
  rw [List.take_succ_eq_append_getElem h, List.flatten_append]
  simp
theorem own_not_mark {w : World} {base m : Nat} {v : Value} {xs : List Value} {q : Nat} {b : Bool} {h : Nat} (ho : w.ownsRow base 3 1 v m xs) (hM : MarkAt w q b h) : some q ≠ v.ownBlock := by
  intro e
  obtain ⟨c, hb, _⟩ := hM
  rcases ho.2 with ⟨rfl, _⟩ | ⟨g, cap, cur, rfl, _, hg, _⟩
  · cases e
  · injection e with e
    simp only at e
    subst e
    rw [hb] at hg
    injection hg with hg
    injection hg with _ hg
    exact absurd hg (by decide)
/-- What the loop keeps: the mark, the zero one, and all numbers. -/
structure Kept (w wr : World) (q z : Nat) (A : Option Addr) (n c : Nat) (l : List Int) : Prop where
  mark : MarkAt wr q true (marksM firstM l)
  zero : MarkAt wr z false 0
  own : wr.ownsRow w.heap.size 3 1 (.slice A n c) n (zs l)
  len : l.length = n
  below : Below w.heap.size w wr

set_option maxHeartbeats 1600000 in
theorem parts_any {w : World} {A : Option Addr} {n c : Nat} {M : List (List Int)} (hM : RowsAt w A M) (hn : M.length = n) : Calls Try.prog 4 #[.slice A n c] w (TrueBelow w) := by
  by_cases hn2 : n ≤ 20
  · have d1 : ¬ 20 < (n : Int) := by omega
    obtain ⟨i0, hi, hz0, hz1, hz2⟩ := info_parts int_info
    have HW := Lib.hid fun W => works_is W
    have HM := Lib.hid hM
    have HN := Lib.hid hn
    have HN2 := Lib.hid hn2
    clear hM hn hn2
    go_enter Try.func4, Try.ntmps4
    go_wp2_with fail
    refine (new_is w).mono ?_
    rintro e w1 ⟨q, rfl, hq, M1, b1⟩
    have HK : Hid (Kept w (w1.alloc (.cells #[.bool false, .int .u64 0] 37)) q w1.heap.size none 0 0 []) :=
      ⟨M1.below (new_below _ _), mark_lit w1 false 0, World.ownsRow_nil _ _ _ _, rfl, step_below b1 (new_below _ _)⟩
    have hqz : q ≠ w1.heap.size := Nat.ne_of_lt M1.lt
    obtain ⟨z, hz⟩ : ∃ z, w1.heap.size = z := ⟨_, rfl⟩
    have hzw : w.heap.size ≤ z := by rw [← hz]; exact b1.size
    have HQ := Lib.hid hq
    have HZ := Lib.hid hzw
    have HQZ : Hid (q ≠ z) := by rw [← hz]; exact hqz
    clear M1 b1 hq hzw hqz
    go_wp2_with fail
    generalize w1.alloc (.cells #[.bool false, .int .u64 0] 37) = wa at *
    rw [hz] at HK
    clear hz
    go_loopw [4, 7] (fun va vi wr => ∃ (i : Nat) (A1 : Option Addr) (n1 c1 : Nat), va = .slice A1 n1 c1 ∧ vi = .int .i64 i ∧ i ≤ n ∧ n1 ≤ 40 * i ∧ Hid (Kept w wr q z A1 n1 c1 (flatM M i))) (fun _ vi _ => n - (RowKit.intOf vi).toNat)
    case atStart => exact ⟨0, none, 0, 0, rfl, rfl, by omega, by omega, HK.out⟩
    case round =>
      clear HK
      obtain ⟨i, A1, n1, c1, rfl, rfl, hin, hsz, HK⟩ := hrel
      by_cases hlt : i < n
      · have hil : i < M.length := by rw [HN.out]; exact hlt
        obtain ⟨b, off, A2, c2, rfl, hc0, hI0⟩ := HM.out.at_ hil
        have hbl : b < w.heap.size := World.block_lt_of_cell? w _ hc0
        have hfl := flatM_more hil
        obtain ⟨l, hl⟩ : ∃ l, M[i]'hil = l := ⟨_, rfl⟩
        rw [hl] at hc0 hI0 hfl
        obtain ⟨m, hm⟩ : ∃ m, l.length = m := ⟨_, rfl⟩
        rw [hm] at hc0
        have HC : Hid (∀ W, Below w.heap.size w W → W.cell? ⟨b, off + i, none⟩ = some (.slice A2 m c2) ∧ IntsAt W A2 l) := fun W hB => ⟨(hB.cell (p := ⟨b, off + i, none⟩) hbl).trans hc0, hI0.below hB⟩
        have HM' := Lib.hid hm
        have HFL := Lib.hid hfl
        have hi1 : 0 ≤ (i : Int) ∧ (i : Int) < (n : Int) := by omega
        clear hc0 hI0 hbl hfl hl hm hil
        by_cases h40 : m ≤ 40
        · have d2 : ¬ 40 < (m : Int) := by omega
          have HN40 : n ≤ 20 := HN2.out
          have hc := (HC.out _ HK.out.below).1
          have HA := Lib.hid (add_is wr HK.out.mark (marks_lt _ (by decide)) (c := c2) (HC.out _ HK.out.below).2 HM'.out (by omega) rfl)
          go_wp2_with fail
          refine HA.out.mono ?_
          rintro e w2 ⟨rfl, M2, g2⟩
          clear HA hc
          have B2 : Hid (Below w.heap.size w w2) := Below.grown HK.out.below g2 HK.out.below.size (fun k e => by injection e with e; rw [← e]; exact HQ.out)
          have Z2 : Hid (MarkAt w2 z false 0) := HK.out.zero.of_block (g2.block z HK.out.zero.lt (fun e => HQZ.out (by injection e with e; exact e.symm)))
          have O2 : Hid (w2.ownsRow w.heap.size 3 1 (.slice A1 n1 c1) n1 (zs (flatM M i))) := HK.out.own.kept g2 (by
            have h := own_not_mark HK.out.own HK.out.mark
            cases hb : (Value.slice A1 n1 c1).ownBlock with
            | none => exact .inl rfl
            | some k => exact .inr fun e => h (by rw [hb]; exact e.symm))
          have M2 := Lib.hid M2
          have hL := HK.out.len
          clear g2 HK
          have hc := (HC.out _ B2.out).1
          go_wp2_with fail
          refine (add_nil w2 _).mono ?_
          rintro e w3 ⟨rfl, rfl⟩
          go_wp2_with fail
          refine (add_zero w2 Z2.out _).mono ?_
          rintro e w3 ⟨rfl, rfl⟩
          have HLL := Lib.hid hL
          clear hL
          go_wp2_with (at_builtin; refine wpList_append_ints _ rfl _ _ 22 rfl w.heap.size 3 i0 Try.underlying22 hi hz0 hz1 hz2 _ _ _ rfl O2.out _ _ _ l rfl (HC.out _ B2.out).2 HM'.out.symm (by omega) (by omega) B2.out.size ?_; intro v3 w3 hown3 hgrow3)
          have hm3 : MarkAt w3 q true (marksM firstM (flatM M (i + 1))) := by
            rw [HFL.out, marks_append]
            exact M2.out.of_block (hgrow3.block q M2.out.lt (own_not_mark O2.out M2.out))
          have hz3 : MarkAt w3 z false 0 := Z2.out.of_block (hgrow3.block z Z2.out.lt (own_not_mark O2.out Z2.out))
          have hb3 : Below w.heap.size w w3 := Below.grown B2.out hgrow3 B2.out.size (fun j hj => (O2.out.lt _ hj).1)
          have hown3' : w3.ownsRow w.heap.size 3 1 v3 (n1 + m) (zs (flatM M (i + 1))) := by rw [HFL.out, zs_append]; exact hown3
          have hlen3 : (flatM M (i + 1)).length = n1 + m := by rw [HFL.out, List.length_append, HLL.out, HM'.out]
          obtain ⟨A3, c3, rfl, _⟩ := own_slice hown3'
          have K3 : Hid (Kept w w3 q z A3 (n1 + m) c3 (flatM M (i + 1))) := ⟨hm3, hz3, hown3', hlen3, hb3⟩
          obtain ⟨A3', c3', e3, _, hI3, _⟩ := own_zs hown3' hlen3.symm
          injection e3 with e1 e2 e3
          subst e1 e3
          obtain ⟨t, ht⟩ : ∃ t, toldM (marksM firstM (flatM M (i + 1))) = t := ⟨_, rfl⟩
          have HS3 := Lib.hid (sum_is w3 hm3 ht)
          have HR3 := Lib.hid (rof_is w3 (c := c3) hI3 hlen3 (by omega) ht)
          have zz : ((t : Int) != (t : Int)) = false := by simp
          have zz2 : ((t : Int) == (t : Int)) = true := by simp
          clear hm3 hz3 hb3 hown3' hown3 hgrow3 hlen3 hI3 ht e2 hc M2 Z2 O2 B2
          refine HS3.out.mono ?_
          rintro e w4 ⟨rfl, rfl⟩
          go_wp2_with fail
          refine HR3.out.mono ?_
          rintro e w4 ⟨rfl, rfl⟩
          clear HS3 HR3
          go_wp2
          go_roundw
          case rel => exact ⟨i + 1, A3, n1 + m, c3, rfl, by go_num, by omega, by omega, K3⟩
          case measure => simp [RowKit.intOf]; omega
        · have d2 : 40 < (m : Int) := by omega
          have hc := (HC.out _ HK.out.below).1
          go_wp2_with fail
          refine (HW.out _).mono ?_
          rintro e w2 ⟨rfl, b2⟩
          have B2 : Hid (Below w.heap.size w w2) := step_below HK.out.below b2
          clear b2 hc
          go_wp2
          go_ret
          exact ⟨rfl, B2.out⟩
      · obtain rfl : i = n := by omega
        have HZS := Lib.hid (sum_zero wr HK.out.zero told_none)
        have HNS := Lib.hid (sum_nil wr told_none)
        have HR := Lib.hid (rof_is wr (A := none) (n := 0) (c := 0) (l := []) (.inl rfl) rfl (by omega) told_none)
        have HB := Lib.hid HK.out.below
        clear HK
        go_wp2_with fail
        refine HNS.out.mono ?_
        rintro e w2 ⟨rfl, rfl⟩
        go_wp2_with fail
        refine HR.out.mono ?_
        rintro e w2 ⟨rfl, rfl⟩
        go_wp2_with fail
        refine HZS.out.mono ?_
        rintro e w2 ⟨rfl, rfl⟩
        go_wp2_with fail
        refine HR.out.mono ?_
        rintro e w2 ⟨rfl, rfl⟩
        go_wp2_with fail
        refine (HW.out _).mono ?_
        rintro e w2 ⟨rfl, b2⟩
        have B2 : Hid (Below w.heap.size w w2) := step_below HB.out b2
        clear b2
        go_wp2
        go_ret
        exact ⟨rfl, B2.out⟩
  · have d1 : 20 < (n : Int) := by omega
    clear hM hn hn2
    go_enter Try.func4, Try.ntmps4
    go_wp2_with fail
    refine (works_is _).mono ?_
    rintro e w3 ⟨rfl, b3⟩
    have B3 := Lib.hid b3
    clear b3
    go_wp2
    go_ret
    exact ⟨rfl, B3.out⟩
end Go.Proofs.Ytfclnahpgbpjbaa
