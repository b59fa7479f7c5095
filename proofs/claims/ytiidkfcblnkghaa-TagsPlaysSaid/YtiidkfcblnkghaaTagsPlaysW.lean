/- Layer 16 (tags): the walk of TagsPlays. -/
import Derived.Test.YtiidkfcblnkghaaTagsWorks
import Derived.Test.YtiidkfcblnkghaaBaseTriples
import Derived.Deep.RegionHeld3
import Derived.Deep.CutBlock
namespace Go.Proofs.Ytiidkfcblnkghaa
open Go.RowKit

set_option maxRecDepth 100000 in
theorem plays_out {w : World} {A : Option Addr} {len c : Nat} {n x : Int} (h : 60 < len ∨ (300 < n ∧ n ≤ 1048576)) : Calls Try.prog 3 #[.int .i64 n, .slice A len c, .int .i64 x] w (TrueBelow w) := by
  by_cases h1 : 60 < len
  · have d1 : 60 < (len : Int) := by omega
    clear h h1
    go_enter Try.func3, Try.ntmps3
    go_wp2_with fail
    refine (works_is _).mono ?_
    rintro e w3 ⟨rfl, b3⟩
    have B3 := Lib.hid b3
    clear b3
    go_wp2
    go_ret
    exact ⟨rfl, B3.out⟩
  · have d1 : ¬ 60 < (len : Int) := by omega
    obtain ⟨d2, d3⟩ := h.resolve_left h1
    clear h h1
    go_enter Try.func3, Try.ntmps3
    go_wp2_with fail
    refine (works_is _).mono ?_
    rintro e w3 ⟨rfl, b3⟩
    have B3 := Lib.hid b3
    clear b3
    go_wp2
    go_ret
    exact ⟨rfl, B3.out⟩
set_option maxRecDepth 100000 in
theorem plays_none {w : World} {A : Option Addr} {len c : Nat} {n x : Int} (h : ¬ 60 < len) (hn : n < 0 ∨ 1048576 < n) : Calls Try.prog 3 #[.int .i64 n, .slice A len c, .int .i64 x] w (TrueBelow w) := by
  have d1 : ¬ 60 < (len : Int) := by omega
  have HN := Lib.hid (new_no w hn)
  clear h
  rcases hn with h | h
  · have d2 : ¬ 300 < n := by omega
    go_enter Try.func3, Try.ntmps3
    go_wp2_with fail
    refine HN.out.mono ?_
    rintro e w2 ⟨rfl, rfl⟩
    go_wp2_with fail
    refine (works_is _).mono ?_
    rintro e w3 ⟨rfl, b3⟩
    have B3 := Lib.hid b3
    clear b3
    go_wp2
    go_ret
    exact ⟨rfl, B3.out⟩
  · have d2 : 300 < n := by omega
    have d3 : ¬ n ≤ 1048576 := by omega
    have d4 : ¬ n < 0 := by omega
    go_enter Try.func3, Try.ntmps3
    go_wp2_with fail
    refine HN.out.mono ?_
    rintro e w2 ⟨rfl, rfl⟩
    go_wp2_with fail
    refine (works_is _).mono ?_
    rintro e w3 ⟨rfl, b3⟩
    have B3 := Lib.hid b3
    clear b3
    go_wp2
    go_ret
    exact ⟨rfl, B3.out⟩
theorem Two.ext {w0 w w' : World} {q rb n : Nat} {A B : Option Addr} {c d : Nat} {O G P H O' G' P' H' : List Nat} (h : Two w0 w q rb n A B c d O G P H) (e1 : O = O') (e2 : G = G') (e3 : P = P') (e4 : H = H') (e5 : w = w') : Two w0 w' q rb n A B c d O' G' P' H' := by subst e1 e2 e3 e4 e5; exact h
set_option maxRecDepth 100000 in
set_option maxHeartbeats 6400000 in
theorem plays_in {w : World} {A : Option Addr} {xs : List (Int × Int × Int)} {len c n : Nat} {ow : Int} (h : TriplesAt w A xs) (hlen : len = xs.length) (hle : ¬ 60 < len) (hn : n ≤ 300) (how : InInt ow) :
    Calls Try.prog 3 #[.int .i64 n, .slice A len c, .int .i64 ow] w (TrueBelow w) := by
  have d1 : ¬ 60 < (len : Int) := by omega
  have d2 : ¬ 300 < (n : Int) := by omega
  have d3 : ¬ (n : Int) < 0 := by omega
  have d4 : ¬ 1048576 < (n : Int) := by omega
  have HN := Lib.hid hlen
  have HP := Lib.hid h
  have HW := Lib.hid fun W => works_is W
  have HOW := Lib.hid how
  clear h hlen how
  go_enter Try.func3, Try.ntmps3
  go_wp2_with fail
  refine (new_is w (n := n) (by omega)).mono ?_
  rintro e w1 ⟨rfl, ht, hB, hz⟩
  unfold ptrAt
  go_wp2_with fail
  refine (rnew_is w1 (T := fun k => w1.heap.size ≤ k) (fun k hk => hk) (n := n) (by omega)).mono ?_
  rintro e w2 ⟨A2, c2, B2, e2, rfl, i2, j2, b2⟩
  have H2 : Hid (Two w (w2.alloc (.cells #[.slice A2 n c2, .slice B2 n e2] 28)) w.heap.size w2.heap.size n A2 B2 c2 e2 _ _ _ _) := Two.start ht hB (Nat.le_refl _) (by omega) b2 i2 j2 (List.length_replicate ..).symm (List.length_replicate ..).symm
  obtain ⟨q, hq⟩ : ∃ q, w.heap.size = q := ⟨_, rfl⟩
  have HQ := Lib.hid hq
  clear ht hB hz i2 j2 b2
  rw [hq] at H2 ⊢
  clear hq
  go_upto_region 9 with fail
  generalize w2.alloc (.cells #[.slice A2 n c2, .slice B2 n e2] 28) = w3 at *
  generalize w2.heap.size = rb at *
  go_wp2
  go_loopw [9] (fun vi wr => ∃ (k : Nat) (A' B' : Option Addr) (c' d' : Nat) (O G : List Nat), k ≤ len ∧ vi = .int .i64 k ∧ Hid (Two w wr q rb n A' B' c' d' O G O G)) (fun vi _ => len - (RowKit.intOf vi).toNat)
  case atStart => exact ⟨0, A2, B2, c2, e2, _, _, by omega, rfl, H2⟩
  case round =>
    clear H2 d1 d2 d3 d4
    obtain ⟨k, A', B', c', d', O, G, hk, rfl, H3⟩ := hrel
    by_cases hlt : k < len
    · have hkx : k < xs.length := by have := HN.out; omega
      have hi : 0 ≤ (k : Int) ∧ (k : Int) < (len : Int) := by omega
      obtain ⟨b, off, x, y, z, rfl, hbl, e0, e1, e2', hx, hy, hz⟩ := HP.out.at_ hkx
      have f0 := (H3.out.bel.cell (p := ⟨b, off + k * 3, none⟩) hbl).trans e0
      have f1 := (H3.out.bel.cell (p := ⟨b, off + k * 3 + 1, none⟩) hbl).trans e1
      have f2 := (H3.out.bel.cell (p := ⟨b, off + k * 3 + 2, none⟩) hbl).trans e2'
      have HY := Lib.hid hy
      have HZ := Lib.hid hz
      have R4 : Hid ((wr.alloc (.cells #[.int .i64 x, .int .i64 y, .int .i64 z] 31)).rowIs wr.heap.size 31 3 (trioF (.int .i64 x) (.int .i64 y) (.int .i64 z))) := trio_lit wr _ _ _ _
      have H4 := Lib.hid (H3.out.below (new_below wr (.cells #[.int .i64 x, .int .i64 y, .int .i64 z] 31)))
      have hrb : rb ≠ wr.heap.size := by have := H3.out.box.lt; omega
      have hqb : q + 3 ≤ wr.heap.size := by have := H3.out.box.lt; have := H3.out.up; omega
      clear e0 e1 e2' hbl hx hy hz H3
      go_upto_region 13 with fail
      generalize wr.alloc (.cells #[.int .i64 x, .int .i64 y, .int .i64 z] 31) = w4 at *
      generalize wr.heap.size = ab at *
      clear f0 f1 f2
      obtain ⟨a0, a1, a2⟩ := trio_any R4.out
      obtain ⟨⟨b0, b1⟩, _⟩ := duo_any H4.out.box
      have HAB : Hid (rb ≠ ab) := hrb
      have HQB : Hid (q + 3 ≤ ab) := hqb
      clear hrb hqb
      go_upto_block 2 with fail
      go_cut [11, 12] from 44 to 150 (fun ve vf wx => ∃ (r : Nat) (A5 B5 : Option Addr) (c5 d5 : Nat) (O5 G5 : List Nat), ve = .int .i64 r ∧ vf = .int .i64 r ∧ Hid (Two w wx q rb n A5 B5 c5 d5 O5 G5 O5 G5) ∧ Hid (wx.rowIs ab 31 3 (trioF (.int .i64 x) (.int .i64 y) (.int .i64 z))))
      case first =>
        clear a0
        by_cases x0 : x = 0
        · have z0 : (x == 0) = true := by simp [x0]
          clear x0
          obtain ⟨r, hr⟩ : ∃ r, ownE O y z = r := ⟨_, rfl⟩
          obtain ⟨O5, hO⟩ : ∃ O5, ownV O y z = O5 := ⟨_, rfl⟩
          have HR := Lib.hid hr
          have HO := Lib.hid hO
          clear hr hO
          go_wp2_with fail
          refine (d_own H4.out y z HR.out HO.out).mono ?_
          rintro e w5 ⟨A5, c5, B5, d5, rfl, b5, h5⟩
          obtain ⟨⟨g0, g1⟩, t0, t1⟩ := duo_any (duo_keep H4.out.box b5)
          have R5 : Hid (((w5.setCell ⟨rb, 0, none⟩ (.slice A5 n c5)).setCell ⟨rb, 1, none⟩ (.slice B5 n d5)).rowIs ab 31 3 (trioF (.int .i64 x) (.int .i64 y) (.int .i64 z))) := by
            have r5 := R4.out.of_block (b5.block ab R4.out.lt)
            exact r5.of_block ((duo_turn (S := fun k => k = rb) w5 rfl _ _).block ab r5.lt (fun e => HAB.out e.symm))
          have H5 := Lib.hid h5
          obtain ⟨_, q1, q2⟩ := trio_any R5.out
          clear h5 b5 b0 b1 a1 a2 H4
          go_wp2_with fail
          generalize (w5.setCell ⟨rb, 0, none⟩ (.slice A5 n c5)).setCell ⟨rb, 1, none⟩ (.slice B5 n d5) = w6 at *
          refine (k_own H5.out y z HZ.out HR.out HO.out).mono ?_
          rintro e w7 ⟨rfl, h7, t7⟩
          have R7 : Hid (w7.rowIs ab 31 3 (trioF (.int .i64 x) (.int .i64 y) (.int .i64 z))) := R5.out.of_block (t7.block ab R5.out.lt (fun e => by have := e.2; have := HQB.out; omega))
          have H7 := Lib.hid h7
          clear h7 t7 H5 R5 q1 q2
          go_wp2_with fail
          go_meet
          case rel => exact ⟨_, A5, B5, c5, d5, O5, G, rfl, rfl, H7, R7⟩
        · have z0 : (x == 0) = false := by simp [x0]
          by_cases x1 : x = 1
          · have z1 : (x == 1) = true := by simp [x1]
            clear x0 x1
            obtain ⟨r, hr⟩ : ∃ r, leaveE O y = r := ⟨_, rfl⟩
            obtain ⟨O5, hO⟩ : ∃ O5, leaveV O y = O5 := ⟨_, rfl⟩
            have HR := Lib.hid hr
            have HO := Lib.hid hO
            clear hr hO
            go_wp2_with fail
            refine (d_leave H4.out y HR.out HO.out).mono ?_
            rintro e w5 ⟨A5, c5, B5, d5, rfl, b5, h5⟩
            obtain ⟨⟨g0, g1⟩, t0, t1⟩ := duo_any (duo_keep H4.out.box b5)
            have R5 : Hid (((w5.setCell ⟨rb, 0, none⟩ (.slice A5 n c5)).setCell ⟨rb, 1, none⟩ (.slice B5 n d5)).rowIs ab 31 3 (trioF (.int .i64 x) (.int .i64 y) (.int .i64 z))) := by
              have r5 := R4.out.of_block (b5.block ab R4.out.lt)
              exact r5.of_block ((duo_turn (S := fun k => k = rb) w5 rfl _ _).block ab r5.lt (fun e => HAB.out e.symm))
            have H5 := Lib.hid h5
            obtain ⟨_, q1, q2⟩ := trio_any R5.out
            clear h5 b5 b0 b1 a1 a2 H4
            go_wp2_with fail
            generalize (w5.setCell ⟨rb, 0, none⟩ (.slice A5 n c5)).setCell ⟨rb, 1, none⟩ (.slice B5 n d5) = w6 at *
            refine (k_leave H5.out y HR.out HO.out).mono ?_
            rintro e w7 ⟨rfl, h7, t7⟩
            have R7 : Hid (w7.rowIs ab 31 3 (trioF (.int .i64 x) (.int .i64 y) (.int .i64 z))) := R5.out.of_block (t7.block ab R5.out.lt (fun e => by have := e.2; have := HQB.out; omega))
            have H7 := Lib.hid h7
            clear h7 t7 H5 R5 q1 q2
            go_wp2_with fail
            go_meet
            case rel => exact ⟨_, A5, B5, c5, d5, O5, G, rfl, rfl, H7, R7⟩
          · have z1 : (x == 1) = false := by simp [x1]
            by_cases x2 : x = 2
            · have z2 : (x == 2) = true := by simp [x2]
              clear x0 x1 x2
              obtain ⟨r, hr⟩ : ∃ r, raiseE O G y = r := ⟨_, rfl⟩
              obtain ⟨G5, hO⟩ : ∃ G5, raiseV O G y = G5 := ⟨_, rfl⟩
              have HR := Lib.hid hr
              have HO := Lib.hid hO
              clear hr hO
              go_wp2_with fail
              refine (d_raise H4.out y HR.out HO.out).mono ?_
              rintro e w5 ⟨A5, c5, B5, d5, rfl, b5, h5⟩
              obtain ⟨⟨g0, g1⟩, t0, t1⟩ := duo_any (duo_keep H4.out.box b5)
              have R5 : Hid (((w5.setCell ⟨rb, 0, none⟩ (.slice A5 n c5)).setCell ⟨rb, 1, none⟩ (.slice B5 n d5)).rowIs ab 31 3 (trioF (.int .i64 x) (.int .i64 y) (.int .i64 z))) := by
                have r5 := R4.out.of_block (b5.block ab R4.out.lt)
                exact r5.of_block ((duo_turn (S := fun k => k = rb) w5 rfl _ _).block ab r5.lt (fun e => HAB.out e.symm))
              have H5 := Lib.hid h5
              obtain ⟨_, q1, q2⟩ := trio_any R5.out
              clear h5 b5 b0 b1 a1 a2 H4
              go_wp2_with fail
              generalize (w5.setCell ⟨rb, 0, none⟩ (.slice A5 n c5)).setCell ⟨rb, 1, none⟩ (.slice B5 n d5) = w6 at *
              refine (k_raise H5.out y HR.out HO.out).mono ?_
              rintro e w7 ⟨rfl, h7, t7⟩
              have R7 : Hid (w7.rowIs ab 31 3 (trioF (.int .i64 x) (.int .i64 y) (.int .i64 z))) := R5.out.of_block (t7.block ab R5.out.lt (fun e => by have := e.2; have := HQB.out; omega))
              have H7 := Lib.hid h7
              clear h7 t7 H5 R5 q1 q2
              go_wp2_with fail
              go_meet
              case rel => exact ⟨_, A5, B5, c5, d5, O, G5, rfl, rfl, H7, R7⟩
            · have z2 : (x == 2) = false := by simp [x2]
              clear x0 x1 x2 a1 a2 b0 b1
              go_wp2_with fail
              go_meet
              case rel => exact ⟨0, A', B', c', d', O, G, rfl, rfl, H4, R4⟩
      case rest =>
        as_aux_lemma =>
        obtain ⟨r, A5, B5, c5, d5, O5, G5, rfl, rfl, H5, R5⟩ := hcut
        clear H4 R4 a0 a1 a2 b0 b1
        have hrr : ((r : Int) != (r : Int)) = false := by simp
        obtain ⟨av, hav⟩ : ∃ av, ownerV O5 y = av := ⟨_, rfl⟩
        obtain ⟨gv, hgv⟩ : ∃ gv, genV G5 y = gv := ⟨_, rfl⟩
        obtain ⟨cv, hcv⟩ : ∃ cv, cntV O5 z = cv := ⟨_, rfl⟩
        have hlv : (ofV O5 z).length = cv := by rw [ofV_length, hcv]
        have HAV := Lib.hid hav
        have HGV := Lib.hid hgv
        have HCV := Lib.hid hcv
        have HLV := Lib.hid hlv
        have haa : ((av : Int) != (av : Int)) = false := by simp
        have hgg : (gv != gv) = false := by simp
        have hcc : ((cv : Int) != (cv : Int)) = false := by simp
        clear hcv hlv
        obtain ⟨_, a1, a2⟩ := trio_any R5.out
        by_cases hy0 : 0 ≤ y
        · by_cases hyn : y < (n : Int)
          · obtain ⟨p, rfl⟩ := Int.eq_ofNat_of_zero_le hy0
            have hpn : p < n := by omega
            obtain ⟨lO, lG, _⟩ := H5.out.tags.len
            obtain ⟨ao, hao⟩ : ∃ ao, O5[p]? = some ao := ⟨_, List.getElem?_eq_getElem (by omega)⟩
            obtain ⟨ag, hag⟩ : ∃ ag, G5[p]? = some ag := ⟨_, List.getElem?_eq_getElem (by omega)⟩
            have e1 : av = ao := by
              rw [← hav]
              unfold ownerV
              rw [lO, if_pos (isIn_iff.2 ⟨hy0, hyn⟩), atI_nat, hao]
              rfl
            have e2 : gv = (ag : Int) := by
              rw [← hgv]
              unfold genV
              rw [lG, if_pos (isIn_iff.2 ⟨hy0, hyn⟩), atI_nat, hag]
              rfl
            subst e1 e2
            obtain ⟨bo, oo, rfl, _, hbo, co⟩ := ints_cellF H5.out.docO hao
            obtain ⟨bg, og, rfl, _, hbg, cg⟩ := ints_cellF H5.out.docG hag
            obtain ⟨⟨b0, b1⟩, _⟩ := duo_any H5.out.box
            have hpi : 0 ≤ (p : Int) ∧ (p : Int) < (n : Int) := by omega
            have b0' : ∀ j, (wc.drewN j).cell? ⟨rb, 0, none⟩ = some (.slice (some ⟨bo, oo, none⟩) n c5) := fun j => b0
            have b1' : ∀ j, (wc.drewN j).cell? ⟨rb, 1, none⟩ = some (.slice (some ⟨bg, og, none⟩) n d5) := fun j => b1
            have a1' : ∀ j, (wc.drewN j).cell? ⟨ab, 1, none⟩ = some (.int .i64 p) := fun j => a1
            have co' : ∀ j, (wc.drewN j).cell? ⟨bo, oo + p, none⟩ = some (.int .i64 av) := fun j => co
            have cg' : ∀ j, (wc.drewN j).cell? ⟨bg, og + p, none⟩ = some (.int .i64 ag) := fun j => cg
            clear hav hgv hao hag lO lG hpn hbo hbg co cg b0 b1
            go_upto_region 26 with fail
            go_quiet (fail)
            have H6 := Lib.hid (H5.out.below (below_drewN (Below.refl _ _) nq))
            have R6' := Lib.hid (R5.out.of_block (w' := wc.drewN nq) rfl)
            clear H5 R5 b0' b1' a1' co' cg' a1 a2
            generalize wc.drewN nq = w6 at *
            go_upto_region 27 with fail
            obtain ⟨_, a1, a2⟩ := trio_any R6'.out
            obtain ⟨⟨b0, b1⟩, _⟩ := duo_any H6.out.box
            have HTT : Hid (∀ X, Below w6.heap.size w6 X → Two w X q rb n (some ⟨bo, oo, none⟩) (some ⟨bg, og, none⟩) c5 d5 O5 G5 O5 G5) := fun X hX => H6.out.below hX
            have HCQ : Hid (∀ X, Below w6.heap.size w6 X → (X.cell? ⟨rb, 0, none⟩ = some (.slice (some ⟨bo, oo, none⟩) n c5) ∧ X.cell? ⟨rb, 1, none⟩ = some (.slice (some ⟨bg, og, none⟩) n d5)) ∧ X.cell? ⟨ab, 1, none⟩ = some (.int .i64 p) ∧ X.cell? ⟨ab, 2, none⟩ = some (.int .i64 z)) := fun X hX =>
              ⟨(duo_any (H6.out.below hX).box).1, (trio_any (R6'.out.of_block (hX.block ab R6'.out.lt))).2⟩
            have hbl := drew_below w6
            clear H6 R6'
            go_region_held3 (fun X => X.cell? ⟨rb, 0, none⟩ = some (.slice (some ⟨bo, oo, none⟩) n c5) ∧ X.cell? ⟨rb, 1, none⟩ = some (.slice (some ⟨bg, og, none⟩) n d5) ∧ X.cell? ⟨ab, 1, none⟩ = some (.int .i64 p) ∧ X.cell? ⟨ab, 2, none⟩ = some (.int .i64 z))
              (first | (refine ⟨?_, ?_, ?_, ?_⟩ <;> with_reducible assumption) | exact ⟨b0, b1, a1, a2⟩)
              (first
                | (go_at_call 15; refine (owner_is (HTT.out _ (by with_reducible assumption)).tags HAV.out).mono ?_; rintro e w' ⟨rfl, rfl⟩)
                | (go_at_call 16; refine (gen_is (HTT.out _ (by with_reducible assumption)).tags HGV.out).mono ?_; rintro e w' ⟨rfl, rfl⟩)
                | (go_at_call 17; refine (count_is (HTT.out _ (by with_reducible assumption)).tags HZ.out HCV.out).mono ?_; rintro e w' ⟨rfl, rfl⟩)
                | (go_at_call 18
                   refine (d_of (HTT.out _ (by with_reducible assumption)) rfl HLV.out).mono ?_
                   rintro e w7 ⟨A7, c7, rfl, _, b7⟩
                   have hbl := step_below (a := w6) (by with_reducible assumption) b7
                   obtain ⟨⟨p0, p1⟩, p2, p3⟩ := HCQ.out w7 hbl))
            all_goals
              have H7 := Lib.hid (HTT.out _ hbl)
              clear HTT HCQ hbl b0 b1 a1 a2
              go_wp2
              go_roundw
              case rel => exact ⟨k + 1, _, _, c5, d5, O5, G5, by omega, by go_num, H7⟩
              case measure => simp [RowKit.intOf]; omega
          · have hyi : isIn n y = false := isIn_not.2 (.inr (by omega))
            obtain ⟨lO, lG, _⟩ := H5.out.tags.len
            have e1 : av = 0 := by rw [← hav]; unfold ownerV; rw [lO, hyi]; rfl
            have e2 : gv = -1 := by rw [← hgv]; unfold genV; rw [lG, hyi]; rfl
            subst e1 e2
            have H6 := H5
            have R6' := R5
            clear hav hgv hyi lO lG H5 R5
            go_upto_region 27 with fail
            clear a1 a2
            generalize wc = w6 at *
            obtain ⟨_, a1, a2⟩ := trio_any R6'.out
            obtain ⟨⟨b0, b1⟩, _⟩ := duo_any H6.out.box
            have HTT : Hid (∀ X, Below w6.heap.size w6 X → Two w X q rb n A5 B5 c5 d5 O5 G5 O5 G5) := fun X hX => H6.out.below hX
            have HCQ : Hid (∀ X, Below w6.heap.size w6 X → (X.cell? ⟨rb, 0, none⟩ = some (.slice A5 n c5) ∧ X.cell? ⟨rb, 1, none⟩ = some (.slice B5 n d5)) ∧ X.cell? ⟨ab, 1, none⟩ = some (.int .i64 y) ∧ X.cell? ⟨ab, 2, none⟩ = some (.int .i64 z)) := fun X hX =>
              ⟨(duo_any (H6.out.below hX).box).1, (trio_any (R6'.out.of_block (hX.block ab R6'.out.lt))).2⟩
            have hbl := drew_below w6
            clear H6 R6'
            go_region_held3 (fun X => X.cell? ⟨rb, 0, none⟩ = some (.slice A5 n c5) ∧ X.cell? ⟨rb, 1, none⟩ = some (.slice B5 n d5) ∧ X.cell? ⟨ab, 1, none⟩ = some (.int .i64 y) ∧ X.cell? ⟨ab, 2, none⟩ = some (.int .i64 z))
              (first | (refine ⟨?_, ?_, ?_, ?_⟩ <;> with_reducible assumption) | exact ⟨b0, b1, a1, a2⟩)
              (first
                | (go_at_call 15; refine (owner_is (HTT.out _ (by with_reducible assumption)).tags HAV.out).mono ?_; rintro e w' ⟨rfl, rfl⟩)
                | (go_at_call 16; refine (gen_is (HTT.out _ (by with_reducible assumption)).tags HGV.out).mono ?_; rintro e w' ⟨rfl, rfl⟩)
                | (go_at_call 17; refine (count_is (HTT.out _ (by with_reducible assumption)).tags HZ.out HCV.out).mono ?_; rintro e w' ⟨rfl, rfl⟩)
                | (go_at_call 18
                   refine (d_of (HTT.out _ (by with_reducible assumption)) rfl HLV.out).mono ?_
                   rintro e w7 ⟨A7, c7, rfl, _, b7⟩
                   have hbl := step_below (a := w6) (by with_reducible assumption) b7
                   obtain ⟨⟨p0, p1⟩, p2, p3⟩ := HCQ.out w7 hbl))
            all_goals
              have H7 := Lib.hid (HTT.out _ hbl)
              clear HTT HCQ hbl b0 b1 a1 a2
              go_wp2
              go_roundw
              case rel => exact ⟨k + 1, _, _, c5, d5, O5, G5, by omega, by go_num, H7⟩
              case measure => simp [RowKit.intOf]; omega
        · have hyi : isIn n y = false := isIn_not.2 (.inl (by omega))
          obtain ⟨lO, lG, _⟩ := H5.out.tags.len
          have e1 : av = 0 := by rw [← hav]; unfold ownerV; rw [lO, hyi]; rfl
          have e2 : gv = -1 := by rw [← hgv]; unfold genV; rw [lG, hyi]; rfl
          subst e1 e2
          have H6 := H5
          have R6' := R5
          clear hav hgv hyi lO lG H5 R5
          go_upto_region 27 with fail
          clear a1 a2
          generalize wc = w6 at *
          obtain ⟨_, a1, a2⟩ := trio_any R6'.out
          obtain ⟨⟨b0, b1⟩, _⟩ := duo_any H6.out.box
          have HTT : Hid (∀ X, Below w6.heap.size w6 X → Two w X q rb n A5 B5 c5 d5 O5 G5 O5 G5) := fun X hX => H6.out.below hX
          have HCQ : Hid (∀ X, Below w6.heap.size w6 X → (X.cell? ⟨rb, 0, none⟩ = some (.slice A5 n c5) ∧ X.cell? ⟨rb, 1, none⟩ = some (.slice B5 n d5)) ∧ X.cell? ⟨ab, 1, none⟩ = some (.int .i64 y) ∧ X.cell? ⟨ab, 2, none⟩ = some (.int .i64 z)) := fun X hX =>
            ⟨(duo_any (H6.out.below hX).box).1, (trio_any (R6'.out.of_block (hX.block ab R6'.out.lt))).2⟩
          have hbl := drew_below w6
          clear H6 R6'
          go_region_held3 (fun X => X.cell? ⟨rb, 0, none⟩ = some (.slice A5 n c5) ∧ X.cell? ⟨rb, 1, none⟩ = some (.slice B5 n d5) ∧ X.cell? ⟨ab, 1, none⟩ = some (.int .i64 y) ∧ X.cell? ⟨ab, 2, none⟩ = some (.int .i64 z))
            (first | (refine ⟨?_, ?_, ?_, ?_⟩ <;> with_reducible assumption) | exact ⟨b0, b1, a1, a2⟩)
            (first
              | (go_at_call 15; refine (owner_is (HTT.out _ (by with_reducible assumption)).tags HAV.out).mono ?_; rintro e w' ⟨rfl, rfl⟩)
              | (go_at_call 16; refine (gen_is (HTT.out _ (by with_reducible assumption)).tags HGV.out).mono ?_; rintro e w' ⟨rfl, rfl⟩)
              | (go_at_call 17; refine (count_is (HTT.out _ (by with_reducible assumption)).tags HZ.out HCV.out).mono ?_; rintro e w' ⟨rfl, rfl⟩)
              | (go_at_call 18
                 refine (d_of (HTT.out _ (by with_reducible assumption)) rfl HLV.out).mono ?_
                 rintro e w7 ⟨A7, c7, rfl, _, b7⟩
                 have hbl := step_below (a := w6) (by with_reducible assumption) b7
                 obtain ⟨⟨p0, p1⟩, p2, p3⟩ := HCQ.out w7 hbl))
          all_goals
            have H7 := Lib.hid (HTT.out _ hbl)
            clear HTT HCQ hbl b0 b1 a1 a2
            go_wp2
            go_roundw
            case rel => exact ⟨k + 1, _, _, c5, d5, O5, G5, by omega, by go_num, H7⟩
            case measure => simp [RowKit.intOf]; omega
    · obtain rfl : k = len := by omega
      obtain ⟨l, hl⟩ : ∃ l, ofV O ow = l := ⟨_, rfl⟩
      obtain ⟨m, hm⟩ : ∃ m, l.length = m := ⟨_, rfl⟩
      have hcm : cntV O ow = m := by rw [← hm, ← hl, ofV_length]
      have HL := Lib.hid hl
      have HM := Lib.hid hm
      have HCM := Lib.hid hcm
      have HLI : Hid (m = (ints l).length) := by show _ = _; rw [ints_length]; exact hm.symm
      have HLN : Hid ((ints l).length ≤ 9223372036854775807) := by
        have h1 := cntV_le O ow
        have h2 := H3.out.tags.len
        show _ ≤ _
        rw [ints_length]
        omega
      have HSM : Hid (sameInts (ints l) (ints l) = true) := decide_eq_true rfl
      have hmm : ((m : Int) == (m : Int)) = true := by simp
      have HTT : Hid (∀ X, Below wr.heap.size wr X → Two w X q rb n A' B' c' d' O G O G) := fun X hX => H3.out.below hX
      have HCQ : Hid (∀ X, Below wr.heap.size wr X → X.cell? ⟨rb, 0, none⟩ = some (.slice A' n c') ∧ X.cell? ⟨rb, 1, none⟩ = some (.slice B' n d')) := fun X hX => (duo_any (H3.out.below hX).box).1
      obtain ⟨b0, b1⟩ := HCQ.out _ (Below.refl _ _)
      have hbl := drew_below wr
      clear hl hm hcm H3
      go_upto_region 29 with fail
      go_region_held3 (fun X => X.cell? ⟨rb, 0, none⟩ = some (.slice A' n c') ∧ X.cell? ⟨rb, 1, none⟩ = some (.slice B' n d'))
        (first | (refine ⟨?_, ?_⟩ <;> with_reducible assumption) | exact ⟨b0, b1⟩)
        (first
          | (go_at_call 20
             refine (k_of (HTT.out _ (by with_reducible assumption)) HOW.out HL.out HM.out).mono ?_
             rintro e w7 ⟨A7, c7, rfl, i7, b7⟩
             have hbl := step_below (a := wr) (by with_reducible assumption) b7
             have I7 := Lib.hid i7
             clear i7
             obtain ⟨p0, p1⟩ := HCQ.out w7 hbl)
          | (go_at_call 18
             refine (d_of (HTT.out _ (by with_reducible assumption)) HL.out HM.out).mono ?_
             rintro e w8 ⟨A8, c8, rfl, i8, b8⟩
             have hbl := step_below (a := wr) (by with_reducible assumption) b8
             have I8 := Lib.hid i8
             have B8 := Lib.hid b8
             clear i8 b8
             obtain ⟨p0, p1⟩ := HCQ.out w8 hbl)
          | (go_at_call 19
             refine (same_is (r := true) (I7.out.below B8.out) I8.out HLI.out HLI.out HLN.out HSM.out).mono ?_
             rintro e w9 ⟨rfl, j9, rfl⟩
             have hbl := step_below (a := wr) (by with_reducible assumption) (below_drewN (Below.refl w8.heap.size w8) j9)
             obtain ⟨p0, p1⟩ := HCQ.out (w8.drewN j9) hbl)
          | (go_at_call 17; refine (count_is (HTT.out _ (by with_reducible assumption)).tags HOW.out HCM.out).mono ?_; rintro e w' ⟨rfl, rfl⟩)
          | (go_at_call 6
             refine (HW.out _).mono ?_
             rintro e w9 ⟨rfl, b9⟩
             have hbl := step_below (a := wr) (by with_reducible assumption) b9
             obtain ⟨p0, p1⟩ := HCQ.out w9 hbl))
      all_goals
        have B9 := Lib.hid (HTT.out _ hbl).bel
        clear HTT HCQ hbl b0 b1
        go_wp2
        go_ret
        exact ⟨rfl, B9.out⟩
theorem plays_any {w : World} {A : Option Addr} {xs : List (Int × Int × Int)} {len c : Nat} {n ow : Int} (h : TriplesAt w A xs) (hlen : len = xs.length) (how : InInt ow) :
    Calls Try.prog 3 #[.int .i64 n, .slice A len c, .int .i64 ow] w (TrueBelow w) := by
  by_cases h1 : 60 < len ∨ (300 < n ∧ n ≤ 1048576)
  · exact plays_out h1
  · have h0 : ¬ 60 < len := fun e => h1 (.inl e)
    by_cases h2 : n < 0 ∨ 1048576 < n
    · exact plays_none h0 h2
    · obtain ⟨k, rfl⟩ := Int.eq_ofNat_of_zero_le (show 0 ≤ n by omega)
      exact plays_in h hlen h0 (by omega) how
end Go.Proofs.Ytiidkfcblnkghaa
