/- Layer 14 (count): the walk of CountPlays. -/
import Derived.Test.YtmgfbofaihbfnaaCountWorks
import Derived.Test.YtmgfbofaihbfnaaBaseRecs
import Derived.Deep.RegionHeld3
namespace Go.Proofs.Ytmgfbofaihbfnaa
open Go.RowKit

theorem plays_out {w : World} {A : Option Addr} {len c : Nat} {n : Int} (h : 60 < len) : Calls Try.prog 3 #[.int .i64 n, .slice A len c] w (TrueBelow w) := by
  have d1 : 60 < (len : Int) := by omega
  clear h
  go_enter Try.func3, Try.ntmps3
  go_wp2_with fail
  refine (works_is _).mono ?_
  rintro e w3 ⟨rfl, b3⟩
  have B3 := Lib.hid b3
  clear b3
  go_wp2
  go_ret
  exact ⟨rfl, B3.out⟩
theorem plays_none {w : World} {A : Option Addr} {len c : Nat} {n : Int} (h : ¬ 60 < len) (hn : n < 1 ∨ 64 < n) : Calls Try.prog 3 #[.int .i64 n, .slice A len c] w (TrueBelow w) := by
  have d1 : ¬ 60 < (len : Int) := by omega
  have HN := Lib.hid hn
  clear h
  rcases hn with h | h
  · go_enter Try.func3, Try.ntmps3
    go_wp2_with fail
    refine (new_no w HN.out).mono ?_
    rintro e w2 ⟨rfl, rfl⟩
    go_wp2_with fail
    refine (works_is _).mono ?_
    rintro e w3 ⟨rfl, b3⟩
    have B3 := Lib.hid b3
    clear b3
    go_wp2
    go_ret
    exact ⟨rfl, B3.out⟩
  · have h1 : ¬ n < 1 := by omega
    go_enter Try.func3, Try.ntmps3
    go_wp2_with fail
    refine (new_no w HN.out).mono ?_
    rintro e w2 ⟨rfl, rfl⟩
    go_wp2_with fail
    refine (works_is _).mono ?_
    rintro e w3 ⟨rfl, b3⟩
    have B3 := Lib.hid b3
    clear b3
    go_wp2
    go_ret
    exact ⟨rfl, B3.out⟩
theorem made_list (w : World) (n : Nat) : IntsF (w.alloc (.cells (madeCells #[.int .i64 0] n) 3)) (fun k => k = w.heap.size) (some ⟨w.heap.size, 0, none⟩) (ints (List.replicate n 0)) := by
  have h := World.rowIs_made w (.int .i64 0) n 3
  refine .inr ⟨w.heap.size, 0, rfl, rfl, World.rowIs.lt h, fun k x hx => ?_⟩
  have hk : k < n := by
    have := (List.getElem?_eq_some_iff.1 hx).1
    rw [ints_length, List.length_replicate] at this
    exact this
  rw [Nat.zero_add, World.rowIs.cell h hk]
  unfold ints at hx
  rw [List.getElem?_map, List.getElem?_replicate, if_pos hk] at hx
  injection hx with hx
  rw [← hx]
  rfl
/-- What the loop keeps. -/
def Kept (w wr : World) (S T : Nat → Prop) (q : Nat) (A : Option Addr) (n : Nat) (L : List Nat) : Prop := Both w wr S T q A L L ∧ L.length = n
set_option maxRecDepth 100000 in
set_option maxHeartbeats 3200000 in
theorem plays_in {w : World} {A : Option Addr} {xs : List (Int × Int)} {len c n : Nat} (h : PairsAt w A xs) (hlen : len = xs.length) (hle : ¬ 60 < len) (h1 : 1 ≤ n) (h64 : n ≤ 64) :
    Calls Try.prog 3 #[.int .i64 n, .slice A len c] w (TrueBelow w) := by
  have hnot := not_any
  have d1 : ¬ 60 < (len : Int) := by omega
  have d2 : ¬ (n : Int) < 1 := by omega
  have d3 : ¬ 64 < (n : Int) := by omega
  have hmk := fun W => run_make_row' (P := Try.prog) 26 3 (.int .i64 0) 8 Try.underlying26 int_info rfl .i64 .i64 n (by omega) (by omega) W
  have HN := Lib.hid hlen
  have HP := Lib.hid h
  have HW := Lib.hid fun W => works_is W
  clear h hlen
  go_enter Try.func3, Try.ntmps3
  go_wp2_with fail
  refine (new_is w h1 h64).mono ?_
  rintro e w1 ⟨q, rfl, hq, hb, hB⟩
  have HK : Hid (Kept w (w1.alloc (.cells (madeCells #[.int .i64 0] n) 3)) (fun k => k = q) (fun k => k = w1.heap.size) q (some ⟨w1.heap.size, 0, none⟩) n (List.replicate n 0)) :=
    ⟨(Both.start hb hB (by rintro k rfl; exact hq)).turn (made_list w1 n) (by rintro k rfl; simp) (by rintro k rfl; exact .inr (Nat.le_refl _)) (new_below _ _), List.length_replicate ..⟩
  clear hq hb hB
  go_wp2_with fail
  generalize w1.alloc (.cells (madeCells #[.int .i64 0] n) 3) = wa at *
  generalize w1.heap.size = b1 at *
  clear hmk
  go_loopw [6, 7] (fun v i wr => ∃ (k : Nat) (S T : Nat → Prop) (B : Option Addr) (cb : Nat) (L : List Nat), k ≤ len ∧ v = .slice B n cb ∧ i = .int .i64 k ∧ Hid (Kept w wr S T q B n L)) (fun _ i _ => len - (RowKit.intOf i).toNat)
  case atStart => exact ⟨0, _, _, _, n, _, by omega, rfl, rfl, HK⟩
  case round =>
    clear HK
    obtain ⟨k, S, T, B, cb, L, hk, rfl, rfl, HK⟩ := hrel
    by_cases hlt : k < len
    · have hxl : k < xs.length := by have := HN.out; omega
      obtain ⟨b, off, rfl, hc1, hc2⟩ := HP.out.at_ hxl
      have hbl : b < w.heap.size := World.block_lt_of_cell? w _ hc1
      generalize xs[k]'hxl = p at *
      obtain ⟨x, y⟩ := p
      simp only at hc1 hc2
      have HC : Hid (∀ W, Below w.heap.size w W → W.cell? ⟨b, off + k * 2, none⟩ = some (.int .i64 x) ∧ W.cell? ⟨b, off + k * 2 + 1, none⟩ = some (.int .i64 y)) := fun W hW =>
        ⟨(hW.cell (p := ⟨b, off + k * 2, none⟩) hbl).trans hc1, (hW.cell (p := ⟨b, off + k * 2 + 1, none⟩) hbl).trans hc2⟩
      clear hc1 hc2 hbl hxl
      have hi : 0 ≤ (k : Int) ∧ (k : Int) < (len : Int) := by omega
      obtain ⟨r, hr⟩ : ∃ r, addE L x y = r := ⟨_, rfl⟩
      obtain ⟨M, hM⟩ : ∃ M, addV L x y = M := ⟨_, rfl⟩
      have HD : Hid (Both w wr.drew S T q B L L) := HK.out.1.below (drew_below wr)
      have HA := Lib.hid (radd_is wr.drew HD.out.list (c := cb) HD.out.heap HK.out.2 h64 HD.out.book.len.2.2 hr hM)
      obtain ⟨e0, e1⟩ := HC.out wr HK.out.1.bel
      go_upto_region 12 with fail
      go_region_held3 (fun W => W.cell? ⟨b, off + k * 2, none⟩ = some (.int .i64 x) ∧ W.cell? ⟨b, off + k * 2 + 1, none⟩ = some (.int .i64 y))
        (first | (refine ⟨?_, ?_⟩ <;> with_reducible assumption) | exact ⟨e0, e1⟩)
        (first
          | (go_at_call 8
             refine HA.out.mono ?_
             rintro e w2 ⟨T2, A2, c2, rfl, i2, hh2, hn2, b2⟩
             have HB2 : Hid (Both w w2 S T2 q A2 L M) := HD.out.turn i2 hh2 hn2 b2
             clear i2 hh2 hn2 b2
             obtain ⟨q0, q1⟩ := HC.out w2 HB2.out.bel))
      have HKL : Hid (M.length = n) := by rw [← hM, add_length]; exact HK.out.2
      clear HA e0 e1 HK HD
      have HD2 : Hid (Both w w2.drew S T2 q A2 L M) := HB2.out.below (drew_below w2)
      have HA2 := Lib.hid (k_add HD2.out x y hr hM)
      have HM := Lib.hid hM
      have zz : ((r : Int) != (r : Int)) = false := by simp
      clear hr hM HB2
      go_upto_region 13 with fail
      go_region_held3 (fun W => W.cell? ⟨b, off + k * 2, none⟩ = some (.int .i64 x) ∧ W.cell? ⟨b, off + k * 2 + 1, none⟩ = some (.int .i64 y))
        (first | (refine ⟨?_, ?_⟩ <;> with_reducible assumption) | exact ⟨q0, q1⟩)
        (first
          | (go_at_call 9
             refine HA2.out.mono ?_
             rintro e w3 ⟨S3, rfl, h3⟩
             have HB3 := Lib.hid h3
             clear h3
             obtain ⟨q0, q1⟩ := HC.out w3 HB3.out.bel))
      all_goals
        obtain ⟨g, hg⟩ : ∃ g, getV M x = g := ⟨_, rfl⟩
        have HG := Lib.hid hg
        have z2 : ((g : Int) != (g : Int)) = false := by simp
        clear HA2 HD2 zz
        by_cases hx : 0 ≤ x ∧ x < (n : Int)
        · obtain ⟨hx0, hxn⟩ := hx
          obtain ⟨kx, rfl⟩ := Int.eq_ofNat_of_zero_le hx0
          obtain ⟨bm, om, rfl, hcm⟩ := ints_cell HB3.out.list.ints (k := kx) (by rw [HKL.out]; omega)
          rw [← get_in, hg] at hcm
          have hxi : 0 ≤ (kx : Int) ∧ (kx : Int) < (n : Int) := ⟨hx0, hxn⟩
          clear hg hx0
          go_wp2_with fail
          refine (k_get HB3.out _ HG.out).mono ?_
          rintro e w4 ⟨S4, rfl, h4⟩
          have HK4 : Hid (Kept w w4 S4 T2 q (some ⟨bm, om, none⟩) n M) := ⟨h4, HKL.out⟩
          clear h4 HB3 q0 q1
          go_wp2
          go_roundw
          case rel => exact ⟨k + 1, S4, T2, (some ⟨bm, om, none⟩), c2, M, by omega, rfl, by go_num, HK4⟩
          case measure => simp [RowKit.intOf]; omega
        · have hg0 := get_out (L := M) (i := x) (by rw [HKL.out]; exact hx)
          rw [hg] at hg0
          subst hg0
          clear hg
          by_cases hx0 : 0 ≤ x
          · have hxn : ¬ x < (n : Int) := fun h => hx ⟨hx0, h⟩
            clear hx
            go_wp2_with fail
            refine (k_get HB3.out _ HG.out).mono ?_
            rintro e w4 ⟨S4, rfl, h4⟩
            have HK4 : Hid (Kept w w4 S4 T2 q A2 n M) := ⟨h4, HKL.out⟩
            clear h4 HB3 q0 q1
            go_wp2
            go_roundw
            case rel => exact ⟨k + 1, S4, T2, A2, c2, M, by omega, rfl, by go_num, HK4⟩
            case measure => simp [RowKit.intOf]; omega
          · clear hx
            go_wp2_with fail
            refine (k_get HB3.out _ HG.out).mono ?_
            rintro e w4 ⟨S4, rfl, h4⟩
            have HK4 : Hid (Kept w w4 S4 T2 q A2 n M) := ⟨h4, HKL.out⟩
            clear h4 HB3 q0 q1
            go_wp2
            go_roundw
            case rel => exact ⟨k + 1, S4, T2, A2, c2, M, by omega, rfl, by go_num, HK4⟩
            case measure => simp [RowKit.intOf]; omega
    · obtain rfl : k = len := by omega
      obtain ⟨s, hs⟩ : ∃ s, sumV L = s := ⟨_, rfl⟩
      obtain ⟨r, hr⟩ : ∃ r, sumB L = r := ⟨_, rfl⟩
      have HS := Lib.hid hs
      have HR := Lib.hid hr
      have HKL := Lib.hid HK.out.2
      have HB := Lib.hid HK.out.1
      have z1 : ((s : Int) == (s : Int)) = true := by simp
      have z2 : (r == r) = true := by simp
      clear hs hr HK
      go_wp2_with fail
      refine (k_sum HB.out HS.out HR.out).mono ?_
      rintro e w2 ⟨S2, rfl, h2⟩
      have HB2 := Lib.hid h2
      clear h2 HB
      go_wp2_with fail
      refine (rsum_is w2 (c := cb) HB2.out.list.ints HKL.out h64 HB2.out.book.len.2.2 HS.out HR.out).mono ?_
      rintro e w3 ⟨rfl, rfl⟩
      go_wp2_with fail
      refine (k_all HB2.out HKL.out).mono ?_
      rintro e w3 ⟨S3, B3, c3, rfl, i3, h3⟩
      have HI3 := Lib.hid i3
      have HB3 := Lib.hid h3
      clear i3 h3 HB2
      go_wp2_with fail
      refine (same_is (r := true) (c := c3) (d := cb) HI3.out HB3.out.list.ints (by rw [ints_length, HKL.out]) (by rw [ints_length, HKL.out]) (by rw [ints_length, HKL.out]; omega) (by unfold sameInts; simp)).mono ?_
      rintro e w4 ⟨rfl, m, rfl⟩
      have HB4 := Lib.hid (HB3.out.below (below_drewN (Below.refl _ _) m))
      clear HB3 HI3
      generalize w3.drewN m = w4 at *
      go_wp2_with fail
      refine (k_top HB4.out).mono ?_
      rintro e w5 ⟨S5, t, rfl, ht, h5⟩
      have HT := Lib.hid ht
      have HB5 := Lib.hid h5
      have z3 : ((t : Int) == (t : Int)) = true := by simp
      clear ht h5 HB4
      go_wp2_with fail
      refine (rtop_is w5 (c := cb) HB5.out.list.ints HKL.out h1 h64 HT.out).mono ?_
      rintro e w6 ⟨rfl, m6, rfl⟩
      have B6 := Lib.hid (HB5.out.below (below_drewN (Below.refl _ _) m6)).bel
      clear HB5
      go_wp2_with fail
      refine (HW.out _).mono ?_
      rintro e w7 ⟨rfl, b7⟩
      have B7 := Lib.hid (step_below B6.out b7)
      clear b7 B6
      go_wp2
      go_ret
      exact ⟨rfl, B7.out⟩
theorem plays_any {w : World} {A : Option Addr} {xs : List (Int × Int)} {len c : Nat} {n : Int} (h : PairsAt w A xs) (hlen : len = xs.length) :
    Calls Try.prog 3 #[.int .i64 n, .slice A len c] w (TrueBelow w) := by
  by_cases h1 : 60 < len
  · exact plays_out h1
  · by_cases h2 : n < 1 ∨ 64 < n
    · exact plays_none h1 h2
    · obtain ⟨k, rfl⟩ := Int.eq_ofNat_of_zero_le (show 0 ≤ n by omega)
      exact plays_in h hlen h1 (by omega) (by omega)
end Go.Proofs.Ytmgfbofaihbfnaa
