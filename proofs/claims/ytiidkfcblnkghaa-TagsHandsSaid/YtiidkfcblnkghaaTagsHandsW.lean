/- Layer 16 (tags): the walk of TagsHands. -/
import Derived.Test.YtiidkfcblnkghaaTagsWorks
import Derived.Test.YtiidkfcblnkghaaBaseRows
import Derived.Test.YtiidkfcblnkghaaBaseRecs
import Derived.Deep.RegionHeld3
import Derived.Deep.RegionWith
import Derived.StillTailTactics
import Derived.Deep.CutRange
import Derived.Deep.CutBlock
namespace Go.Proofs.Ytiidkfcblnkghaa
open Go.RowKit

set_option maxRecDepth 100000 in
theorem hands_out {w : World} {A B : Option Addr} {len len2 c d : Nat} (h : 60 < len ∨ 20 < len2) : Calls Try.prog 5 #[.slice A len c, .slice B len2 d] w (TrueBelow w) := by
  by_cases h1 : 60 < len
  · have d1 : 60 < (len : Int) := by omega
    clear h h1
    go_enter Try.func5, Try.ntmps5
    go_wp2_with fail
    refine (works_is _).mono ?_
    rintro e w3 ⟨rfl, b3⟩
    have B3 := Lib.hid b3
    clear b3
    go_wp2
    go_ret
    exact ⟨rfl, B3.out⟩
  · have d1 : ¬ 60 < (len : Int) := by omega
    have d2 : 20 < (len2 : Int) := by have := h.resolve_left h1; omega
    clear h h1
    go_enter Try.func5, Try.ntmps5
    go_wp2_with fail
    refine (works_is _).mono ?_
    rintro e w3 ⟨rfl, b3⟩
    have B3 := Lib.hid b3
    clear b3
    go_wp2
    go_ret
    exact ⟨rfl, B3.out⟩
theorem part_g {w w' : World} {T : Nat → Prop} {A : Option Addr} {l : List Int} (h : IntsF w T A l) (hb : Below w.heap.size w w') : IntsF w' (fun k => T k ∧ k ≠ w.heap.size) A l := by
  rcases h with h | ⟨b, off, e, ht, hlt, hc⟩
  · exact .inl h
  · exact .inr ⟨b, off, e, ⟨ht, by omega⟩, Nat.lt_of_lt_of_le hlt hb.size, fun k x hx => (hb.cell (p := ⟨b, off + k, none⟩) hlt).trans (hc k x hx)⟩
set_option maxRecDepth 100000 in
set_option maxHeartbeats 6400000 in
theorem hands_in {w : World} {A B : Option Addr} {xs : List Nat} {ps : List (Int × Int)} {len len2 c d : Nat} (h : BytesAt w A xs) (hlen : len = xs.length) (h' : PairsAt w B ps) (hlen' : len2 = ps.length) (hint : ∀ p ∈ ps, InInt p.1 ∧ InInt p.2) (hle : ¬ 60 < len) (hle2 : ¬ 20 < len2) :
    Calls Try.prog 5 #[.slice A len c, .slice B len2 d] w (TrueBelow w) := by
  have d1 : ¬ 60 < (len : Int) := by omega
  have d2 : ¬ 20 < (len2 : Int) := by omega
  have HN := Lib.hid hlen
  have HP := Lib.hid h
  have HN2 := Lib.hid hlen'
  have HP2 := Lib.hid h'
  have HI2 := Lib.hid hint
  have HW := Lib.hid fun W => works_is W
  clear h hlen h' hlen' hint
  go_enter Try.func5, Try.ntmps5
  go_wp2_with fail
  refine (new_is w (n := 12) (by omega)).mono ?_
  rintro e w1 ⟨rfl, ht, hB, hz⟩
  unfold ptrAt
  go_wp2_with fail
  refine (rnew_is w1 (T := fun k => w1.heap.size ≤ k) (fun k hk => hk) (n := 12) (by omega)).mono ?_
  rintro e w2 ⟨A2, c2, B2, e2, rfl, i2, j2, b2⟩
  have H2 : Hid (Two w (w2.alloc (.cells #[.slice A2 12 c2, .slice B2 12 e2] 28)) w.heap.size w2.heap.size 12 A2 B2 c2 e2 _ _ _ _) := Two.start ht hB (Nat.le_refl _) (by omega) b2 i2 j2 (List.length_replicate ..).symm (List.length_replicate ..).symm
  obtain ⟨q, hq⟩ : ∃ q, w.heap.size = q := ⟨_, rfl⟩
  have HQ := Lib.hid hq
  clear ht hB hz i2 j2 b2
  rw [hq] at H2 ⊢
  clear hq
  go_upto_region 4 with fail
  generalize w2.alloc (.cells #[.slice A2 12 c2, .slice B2 12 e2] 28) = w3 at *
  generalize w2.heap.size = rb at *
  go_wp2
  go_loopw [7] (fun vi wr => ∃ (k : Nat) (A' B' : Option Addr) (c' d' : Nat) (O G : List Nat), k ≤ len ∧ vi = .int .i64 k ∧ Hid (Two w wr q rb 12 A' B' c' d' O G O G)) (fun vi _ => len - (RowKit.intOf vi).toNat)
  case atStart => exact ⟨0, A2, B2, c2, e2, _, _, by omega, rfl, H2⟩
  case round =>
    clear H2 d1 d2
    obtain ⟨k, A', B', c', d', O, G, hk, rfl, H3⟩ := hrel
    by_cases hlt : k < len
    · have hkx : k < xs.length := by have := HN.out; omega
      have hi : 0 ≤ (k : Int) ∧ (k : Int) < (len : Int) := by omega
      obtain ⟨b, off, rfl, hx8, hc⟩ := HP.out.at_ hkx
      have hbl := World.block_lt_of_cell? w _ hc
      generalize xs[k]'hkx = x at *
      have HC : Hid (∀ W, Below w.heap.size w W → W.cell? ⟨b, off + k, none⟩ = some (.int .u8 x)) := fun W hW => (hW.cell (p := ⟨b, off + k, none⟩) hbl).trans hc
      obtain ⟨p, ep⟩ : ∃ p, p = x % 12 := ⟨_, rfl⟩
      obtain ⟨dd, ed⟩ : ∃ dd, dd = x / 12 := ⟨_, rfl⟩
      obtain ⟨z, ez⟩ : ∃ z, z = dd % 5 := ⟨_, rfl⟩
      obtain ⟨o, eo⟩ : ∃ o, o = 1 + z := ⟨_, rfl⟩
      have hwx : IntKind.i64.wrap (x : Int) = (x : Int) := IntWalk.i64_in _ (by omega)
      have htm1 : Int.tmod (x : Int) 12 = (p : Int) := by rw [Int.tmod_eq_emod_of_nonneg (by omega), ep]; push_cast; rfl
      have hdv : Int.tdiv (x : Int) 12 = (dd : Int) := by rw [Int.tdiv_eq_ediv_of_nonneg (by omega), ed]; push_cast; rfl
      have htm2 : Int.tmod (dd : Int) 5 = (z : Int) := by rw [Int.tmod_eq_emod_of_nonneg (by omega), ez]; push_cast; rfl
      have hwp : IntKind.i64.wrap (p : Int) = (p : Int) := IntWalk.i64_in _ (by omega)
      have hwd : IntKind.i64.wrap (dd : Int) = (dd : Int) := IntWalk.i64_in _ (by omega)
      have hwz : IntKind.i64.wrap (z : Int) = (z : Int) := IntWalk.i64_in _ (by omega)
      have hwo : IntKind.i64.wrap (1 + (z : Int)) = (o : Int) := by rw [IntWalk.i64_in _ (by omega)]; omega
      have HX : Hid (InInt (o : Int)) := ⟨by omega, by omega⟩
      obtain ⟨r, hr⟩ : ∃ r, ownE O (p : Int) (o : Int) = r := ⟨_, rfl⟩
      obtain ⟨O5, hO⟩ : ∃ O5, ownV O (p : Int) (o : Int) = O5 := ⟨_, rfl⟩
      have HR := Lib.hid hr
      have HO := Lib.hid hO
      have hcr := HC.out _ H3.out.bel
      clear hc ep ed ez eo hbl hr hO
      go_wp2_with fail
      refine wp_region_still_tail 15 (by kernel_rfl) (by kernel_rfl) ?_
      simp only [List.take_succ_cons, List.take_zero, List.drop_succ_cons, List.drop_zero]
      change wpStill _ _ (wr.drewN 1) _ _ _
      repeat still_step
      refine wpStill_nil ?_
      change wpList _ _ _ _ _ (wr.drewN 1)
      have H4 := Lib.hid (H3.out.below (below_drewN (Below.refl _ _) 1))
      clear H3 hcr
      go_wp2_with fail
      refine (k_own H4.out (p : Int) (o : Int) HX.out HR.out HO.out).mono ?_
      rintro e w5 ⟨rfl, h5, _⟩
      have H5 := Lib.hid h5
      have c5 := HC.out _ H5.out.bel
      have H5d : Hid (Two w w5.drew q rb 12 A' B' c' d' O5 G O G) := H5.out.below (drew_below w5)
      obtain ⟨⟨b0, b1⟩, t0, t1⟩ := duo_any H5.out.box
      have c5d : w5.drew.cell? ⟨b, off + k, none⟩ = some (.int .u8 x) := c5
      have b0d : w5.drew.cell? ⟨rb, 0, none⟩ = some (.slice A' 12 c') := b0
      have b1d : w5.drew.cell? ⟨rb, 1, none⟩ = some (.slice B' 12 d') := b1
      have HD := Lib.hid (d_own H5d.out (p : Int) (o : Int) HR.out HO.out)
      clear h5 H4
      go_wp2_with fail
      go_region_with (first
        | (go_at_call 9
           (with_reducible refine HD.out.mono ?_)
           rintro e w7 ⟨A7, c7, B7, d7, rfl, b7, h7⟩
           obtain ⟨⟨g0, g1⟩, t0, t1⟩ := duo_any (duo_keep H5d.out.box b7)
           have H7 := Lib.hid h7
           clear h7 b7))
      all_goals
        go_wp2
        go_roundw
        case rel => exact ⟨k + 1, A7, B7, c7, d7, O5, G, by omega, by go_num, H7⟩
        case measure => simp [RowKit.intOf]; omega
    · obtain rfl : k = len := by omega
      clear HP HN
      go_wp2
      go_loopw [8] (fun vi wr => ∃ (j : Nat) (A' B' : Option Addr) (c' d' : Nat) (O G : List Nat), j ≤ len2 ∧ vi = .int .i64 j ∧ Hid (Two w wr q rb 12 A' B' c' d' O G O G)) (fun vi _ => len2 - (RowKit.intOf vi).toNat)
      case atStart => exact ⟨0, A', B', c', d', O, G, by omega, rfl, H3⟩
      case round =>
        clear H3
        obtain ⟨j, A', B', c', d', O, G, hj, rfl, H3⟩ := hrel
        by_cases hlt2 : j < len2
        · have hjx : j < ps.length := by have := HN2.out; omega
          have hji : 0 ≤ (j : Int) ∧ (j : Int) < (len2 : Int) := by omega
          obtain ⟨b, off, rfl, e0, e1⟩ := HP2.out.at_ hjx
          have hb0 := World.block_lt_of_cell? w _ e0
          obtain ⟨hf, ht⟩ := HI2.out _ (List.getElem_mem hjx)
          generalize ps[j]'hjx = pr at *
          obtain ⟨fr, th⟩ := pr
          simp only at e0 e1 hf ht
          have HC : Hid (∀ W, Below w.heap.size w W → W.cell? ⟨b, off + j * 2, none⟩ = some (.int .i64 fr) ∧ W.cell? ⟨b, off + j * 2 + 1, none⟩ = some (.int .i64 th)) := fun W hW =>
            ⟨(hW.cell (p := ⟨b, off + j * 2, none⟩) hb0).trans e0, (hW.cell (p := ⟨b, off + j * 2 + 1, none⟩) hb0).trans e1⟩
          have HF := Lib.hid hf
          have HTO := Lib.hid ht
          obtain ⟨r, hr⟩ : ∃ r, handE O fr th = r := ⟨_, rfl⟩
          obtain ⟨O5, hO⟩ : ∃ O5, handV O fr th = O5 := ⟨_, rfl⟩
          have HR := Lib.hid hr
          have HO := Lib.hid hO
          have HO5 : Hid (O5.length = O.length) := by show _ = _; rw [← hO, handV_length]
          clear e0 e1 hb0 hf ht hjx hr hO
          have HCQ : Hid (∀ X, Below wr.heap.size wr X → (X.cell? ⟨rb, 0, none⟩ = some (.slice A' 12 c') ∧ X.cell? ⟨rb, 1, none⟩ = some (.slice B' 12 d')) ∧ X.cell? ⟨b, off + j * 2, none⟩ = some (.int .i64 fr) ∧ X.cell? ⟨b, off + j * 2 + 1, none⟩ = some (.int .i64 th)) := fun X hX =>
            ⟨(duo_any (H3.out.below hX).box).1, HC.out X (step_below H3.out.bel hX)⟩
          have HTT : Hid (∀ X, Below wr.heap.size wr X → Two w X q rb 12 A' B' c' d' O G O G) := fun X hX => H3.out.below hX
          obtain ⟨⟨b0, b1⟩, b2, b3⟩ := HCQ.out _ (Below.refl _ _)
          have HKA := Lib.hid (rhand_is (c := c') (d := d') (HTT.out _ (drew_below wr)).docO (HTT.out _ (drew_below wr)).docG (HTT.out _ (drew_below wr)).above (by omega) (HTT.out _ (drew_below wr)).lp HR.out HO.out)
          have hBZ : Below wr.heap.size wr (wr.alloc (.cells #[.slice none 0 0, .slice none 0 0] 28)).drew := step_below (new_below wr _) (drew_below _)
          have HKB := Lib.hid (rhand_is (T := fun k => Out q rb k ∧ k ≠ wr.heap.size) (c := c') (d := d') (part_g H3.out.docO hBZ) (part_g H3.out.docG hBZ) (fun k hk => ⟨(HTT.out _ hBZ).above k hk, by
            have h1 : (wr.alloc (.cells #[.slice none 0 0, .slice none 0 0] 28)).drew.heap.size = wr.heap.size + 1 := by show (wr.alloc _).heap.size = _; simp
            omega⟩) (by omega) (HTT.out _ hBZ).lp HR.out HO.out)
          have rz : (wr.alloc (.cells #[.slice none 0 0, .slice none 0 0] 28)).drew.rowIs wr.heap.size 28 2 (duoF (.slice none 0 0) (.slice none 0 0)) := duo_lit wr (.slice none 0 0) (.slice none 0 0) 28
          obtain ⟨⟨z0, z1⟩, y0, y1⟩ := duo_any rz
          have RZ := Lib.hid rz
          have HBZ := Lib.hid hBZ
          have HRB : Hid (rb < wr.heap.size ∧ b < wr.heap.size ∧ q + 3 ≤ rb) := ⟨H3.out.box.lt, World.block_lt_of_cell? wr _ b2, H3.out.up⟩
          clear rz hBZ
          go_upto_region 12 with fail
          go_cut [9, 10] from 65 to 144 (fun vx vn wx => ∃ (A5 B5 : Option Addr) (c5 d5 xb : Nat), vx = .pointer (some ⟨xb, 0, none⟩) ∧ vn = .int .i64 r ∧ Hid (Below wr.heap.size wr wx) ∧ Hid (wx.rowIs xb 28 2 (duoF (.slice A5 12 c5) (.slice B5 12 d5))) ∧ Hid (IntsF wx (Out q rb) A5 (ints O5)) ∧ Hid (IntsF wx (Out q rb) B5 (ints G)) ∧ Hid (rb < xb))
          case first =>
            go_region_held3 (fun X => X.cell? ⟨rb, 0, none⟩ = some (.slice A' 12 c') ∧ X.cell? ⟨rb, 1, none⟩ = some (.slice B' 12 d') ∧ X.cell? ⟨b, off + j * 2, none⟩ = some (.int .i64 fr) ∧ X.cell? ⟨b, off + j * 2 + 1, none⟩ = some (.int .i64 th))
              (first | (refine ⟨?_, ?_, ?_, ?_⟩ <;> with_reducible assumption) | exact ⟨b0, b1, b2, b3⟩ | (refine ⟨(HCQ.out _ HBZ.out).1.1, (HCQ.out _ HBZ.out).1.2, (HCQ.out _ HBZ.out).2.1, (HCQ.out _ HBZ.out).2.2⟩) | exact ⟨(hAL _).1.1, (hAL _).1.2, (hAL _).2.1, (hAL _).2.2⟩ | exact ⟨duo_cell p0 hRX _ _, duo_cell p1 hRX _ _, duo_cell p2 hBX _ _, duo_cell p3 hBX _ _⟩)
              (first
                | (go_at_call 21
                   (with_reducible refine HKA.out.mono ?_)
                   rintro e w5 ⟨A5, c5, B5, d5, rfl, i5, j5, b5⟩
                   have hb5 : Below wr.heap.size wr w5 := step_below (drew_below wr) b5
                   have hAL := fun o => HCQ.out (w5.alloc o) (step_below hb5 (new_below w5 o))
                   have b6 := new_below w5 (.cells #[.slice A5 12 c5, .slice B5 12 d5] 28)
                   have HB6 : Hid (Below wr.heap.size wr (w5.alloc (.cells #[.slice A5 12 c5, .slice B5 12 d5] 28))) := step_below hb5 b6
                   have R6 := Lib.hid (duo_lit w5 (.slice A5 12 c5) (.slice B5 12 d5) 28)
                   have I6 := Lib.hid (i5.keep (.of_below _ b6))
                   have J6 := Lib.hid (j5.keep (.of_below _ b6))
                   have X6 : Hid (rb < w5.heap.size) := by show _ < _; have := HRB.out; have := hb5.size; omega
                   obtain ⟨⟨p0, p1⟩, p2, p3⟩ := HCQ.out w5 hb5
                   clear i5 j5 b5 b6 hb5)
                | (go_at_call 21
                   (with_reducible refine HKB.out.mono ?_)
                   rintro e w5 ⟨A5, c5, B5, d5, rfl, i5, j5, b5⟩
                   have hb5 : Below wr.heap.size wr w5 := step_below HBZ.out b5
                   have r5 := duo_keep RZ.out b5
                   obtain ⟨⟨g0, g1⟩, t0, t1⟩ := duo_any r5
                   have bt := duo_below hb5 (g := wr.heap.size) (Nat.le_refl _) (.slice A5 12 c5) (.slice B5 12 d5)
                   have HB6 := Lib.hid bt
                   have R6 := Lib.hid (duo_all r5 (.slice A5 12 c5) (.slice B5 12 d5))
                   have hRX : rb ≠ wr.heap.size := by have := HRB.out; omega
                   have hBX : b ≠ wr.heap.size := by have := HRB.out; omega
                   have bs : ∀ x y, Same (fun k => Out q rb k ∧ k ≠ wr.heap.size) w5 ((w5.setCell ⟨wr.heap.size, 0, none⟩ x).setCell ⟨wr.heap.size, 1, none⟩ y) := fun x y => (duo_turn (S := fun k => k = wr.heap.size) w5 rfl x y).same fun k h1 h2 => h2.2 h1
                   have I6 := Lib.hid ((i5.keep (bs (.slice A5 12 c5) (.slice B5 12 d5))).more (T' := Out q rb) fun k hk => hk.1)
                   have J6 := Lib.hid ((j5.keep (bs (.slice A5 12 c5) (.slice B5 12 d5))).more (T' := Out q rb) fun k hk => hk.1)
                   have X6 : Hid (rb < wr.heap.size) := HRB.out.1
                   obtain ⟨⟨p0, p1⟩, p2, p3⟩ := HCQ.out w5 hb5
                   clear i5 j5 b5 hb5 r5 bt bs))
            all_goals
              go_wp2_with fail
              go_meet
              case rel => exact ⟨A5, B5, c5, d5, _, rfl, rfl, HB6, R6, I6, J6, X6⟩
          case rest =>
            as_aux_lemma =>
            obtain ⟨A5, B5, c5, d5, xb, rfl, rfl, HB6, R6, I6, J6, X6⟩ := hcut
            have H7 : Hid (Two w ((wc.setCell ⟨rb, 0, none⟩ (.slice A5 12 c5)).setCell ⟨rb, 1, none⟩ (.slice B5 12 d5)) q rb 12 A5 B5 c5 d5 O G O5 G) := H3.out.doc HB6.out I6.out J6.out (by rw [HO5.out]; exact H3.out.lp) H3.out.lh
            obtain ⟨⟨x0, x1⟩, _⟩ := duo_any R6.out
            obtain ⟨⟨g0, g1⟩, t0, t1⟩ := duo_any (duo_keep H3.out.box HB6.out)
            clear b0 b1 b2 b3 HCQ HTT H3 HKA HKB RZ HBZ z0 z1 y0 y1 HB6 I6 J6 X6 R6 HO5 HRB
            go_upto_region 14 with fail
            generalize (wc.setCell ⟨rb, 0, none⟩ (.slice A5 12 c5)).setCell ⟨rb, 1, none⟩ (.slice B5 12 d5) = w7 at *
            clear x0 x1 g0 g1 t0 t1
            obtain ⟨l1, hl1⟩ : ∃ l, ownersL O5 = l := ⟨_, rfl⟩
            obtain ⟨m1, hm1⟩ : ∃ m, l1.length = m := ⟨_, rfl⟩
            obtain ⟨l2, hl2⟩ : ∃ l, ofV O5 th = l := ⟨_, rfl⟩
            obtain ⟨m2, hm2⟩ : ∃ m, l2.length = m := ⟨_, rfl⟩
            obtain ⟨cv, hcv⟩ : ∃ cv, cntV O5 fr = cv := ⟨_, rfl⟩
            have hlv : (ofV O5 fr).length = cv := by rw [ofV_length, hcv]
            have L1 := Lib.hid hl1
            have M1 := Lib.hid hm1
            have L2 := Lib.hid hl2
            have M2 := Lib.hid hm2
            have CV := Lib.hid hcv
            have LV := Lib.hid hlv
            have HLA : Hid (m1 = (ints l1).length) := by show _ = _; rw [ints_length]; exact hm1.symm
            have HLC : Hid (m2 = (ints l2).length) := by show _ = _; rw [ints_length]; exact hm2.symm
            have h12 : O5.length = 12 := H7.out.lp.symm
            have HLB : Hid ((ints l1).length ≤ 9223372036854775807) := by
              have := ownersL_length O5
              show _ ≤ _
              rw [ints_length, ← hl1]
              omega
            have HLD : Hid ((ints l2).length ≤ 9223372036854775807) := by
              have := cntV_le O5 th
              show _ ≤ _
              rw [ints_length, ← hl2, ofV_length]
              omega
            have HS1 : Hid (sameInts (ints l1) (ints l1) = true) := decide_eq_true rfl
            have HS2 : Hid (sameInts (ints l2) (ints l2) = true) := decide_eq_true rfl
            have hrr : ((r : Int) != (r : Int)) = false := by simp
            have hcc : ((cv : Int) != (cv : Int)) = false := by simp
            clear hl1 hm1 hl2 hm2 hcv hlv h12
            have HK := Lib.hid (k_hand (H7.out.below (drew_below w7)) HF.out HTO.out HR.out HO.out)
            unfold ptrAt at HK
            obtain ⟨⟨b0, b1⟩, _⟩ := duo_any H7.out.box
            obtain ⟨b2, b3⟩ := HC.out _ H7.out.bel
            go_region_held3 (fun X => X.cell? ⟨rb, 0, none⟩ = some (.slice A5 12 c5) ∧ X.cell? ⟨rb, 1, none⟩ = some (.slice B5 12 d5) ∧ X.cell? ⟨b, off + j * 2, none⟩ = some (.int .i64 fr) ∧ X.cell? ⟨b, off + j * 2 + 1, none⟩ = some (.int .i64 th))
              (first | (refine ⟨?_, ?_, ?_, ?_⟩ <;> with_reducible assumption) | exact ⟨b0, b1, b2, b3⟩)
              (first
                | (go_at_call 22
                   (with_reducible refine HK.out.mono ?_)
                   rintro e w8 ⟨rfl, h8, _⟩
                   have HTT : Hid (∀ X, Below w8.heap.size w8 X → Two w X q rb 12 A5 B5 c5 d5 O5 G O5 G) := fun X hX => h8.below hX
                   have HCQ : Hid (∀ X, Below w8.heap.size w8 X → (X.cell? ⟨rb, 0, none⟩ = some (.slice A5 12 c5) ∧ X.cell? ⟨rb, 1, none⟩ = some (.slice B5 12 d5)) ∧ X.cell? ⟨b, off + j * 2, none⟩ = some (.int .i64 fr) ∧ X.cell? ⟨b, off + j * 2 + 1, none⟩ = some (.int .i64 th)) := fun X hX =>
                     ⟨(duo_any (h8.below hX).box).1, HC.out X (step_below h8.bel hX)⟩
                   clear h8
                   have hbl := Below.refl w8.heap.size w8
                   obtain ⟨⟨p0, p1⟩, p2, p3⟩ := HCQ.out w8 hbl)
                | (go_at_call 23
                   refine (k_owners (HTT.out _ (by with_reducible assumption)) L1.out M1.out).mono ?_
                   rintro e w9 ⟨A9, c9, rfl, i9, b9⟩
                   have hbl := step_below (a := w8) (by with_reducible assumption) b9
                   have IA := Lib.hid i9
                   clear i9 b9
                   obtain ⟨⟨p0, p1⟩, p2, p3⟩ := HCQ.out w9 hbl)
                | (go_at_call 24
                   refine (d_owners (HTT.out _ (by with_reducible assumption)) L1.out M1.out).mono ?_
                   rintro e w10 ⟨A10, c10, rfl, i10, b10⟩
                   have hbl := step_below (a := w8) (by with_reducible assumption) b10
                   have IB := Lib.hid i10
                   have BB := Lib.hid b10
                   clear i10 b10
                   obtain ⟨⟨p0, p1⟩, p2, p3⟩ := HCQ.out w10 hbl)
                | (go_at_call 19
                   (with_reducible refine (same_is (r := true) (IA.out.below BB.out) IB.out HLA.out HLA.out HLB.out HS1.out).mono ?_)
                   rintro e w11 ⟨rfl, j11, rfl⟩
                   have hbl := step_below (a := w8) (by with_reducible assumption) (below_drewN (Below.refl w10.heap.size w10) j11)
                   obtain ⟨⟨p0, p1⟩, p2, p3⟩ := HCQ.out (w10.drewN j11) hbl)
                | (go_at_call 20
                   refine (k_of (HTT.out _ (by with_reducible assumption)) HTO.out L2.out M2.out).mono ?_
                   rintro e w12 ⟨A12, c12, rfl, i12, b12⟩
                   have hbl := step_below (a := w8) (by with_reducible assumption) b12
                   have IC := Lib.hid i12
                   clear i12 b12
                   obtain ⟨⟨p0, p1⟩, p2, p3⟩ := HCQ.out w12 hbl)
                | (go_at_call 18
                   (with_reducible refine (d_of (HTT.out _ (by with_reducible assumption)) (x := th) L2.out M2.out).mono ?_)
                   rintro e w13 ⟨A13, c13, rfl, i13, b13⟩
                   have hbl := step_below (a := w8) (by with_reducible assumption) b13
                   have ID := Lib.hid i13
                   have BD := Lib.hid b13
                   clear i13 b13
                   obtain ⟨⟨p0, p1⟩, p2, p3⟩ := HCQ.out w13 hbl)
                | (go_at_call 18
                   (with_reducible refine (d_of (HTT.out _ (by with_reducible assumption)) (x := fr) rfl LV.out).mono ?_)
                   rintro e w14 ⟨A14, c14, rfl, _, b14⟩
                   have hbl := step_below (a := w8) (by with_reducible assumption) b14
                   clear b14
                   obtain ⟨⟨p0, p1⟩, p2, p3⟩ := HCQ.out w14 hbl)
                | (go_at_call 19
                   (with_reducible refine (same_is (r := true) (IC.out.below BD.out) ID.out HLC.out HLC.out HLD.out HS2.out).mono ?_)
                   rintro e w11 ⟨rfl, j11, rfl⟩
                   have hbl := step_below (a := w8) (by with_reducible assumption) (below_drewN (Below.refl w13.heap.size w13) j11)
                   obtain ⟨⟨p0, p1⟩, p2, p3⟩ := HCQ.out (w13.drewN j11) hbl)
                | (go_at_call 17; refine (count_is (HTT.out _ (by with_reducible assumption)).tags HF.out CV.out).mono ?_; rintro e w' ⟨rfl, rfl⟩))
            all_goals
              have H9 := Lib.hid (HTT.out _ hbl)
              clear HTT HCQ hbl b0 b1 b2 b3
              go_wp2
              go_roundw
              case rel => exact ⟨j + 1, A5, B5, c5, d5, O5, G, by omega, by go_num, H9⟩
              case measure => simp [RowKit.intOf]; omega
        · obtain rfl : j = len2 := by omega
          clear HP2 HN2 HI2
          have HZ0 : Hid (Gone (wr.alloc (.cells #[.slice none 0 0, .map none] 46)) (.pointer (some ⟨wr.heap.size, 0, none⟩))) := zero_lit wr
          have H4 := Lib.hid (H3.out.below (new_below wr (.cells #[.slice none 0 0, .map none] 46)))
          obtain ⟨l1, hl1⟩ : ∃ l, ownersL O = l := ⟨_, rfl⟩
          obtain ⟨m1, hm1⟩ : ∃ m, l1.length = m := ⟨_, rfl⟩
          have L1 := Lib.hid hl1
          have M1 := Lib.hid hm1
          have HLA : Hid (m1 = (ints l1).length) := by show _ = _; rw [ints_length]; exact hm1.symm
          have h12 : O.length = 12 := H3.out.lp.symm
          have HLB : Hid ((ints l1).length ≤ 9223372036854775807) := by
            have := ownersL_length O
            show _ ≤ _
            rw [ints_length, ← hl1]
            omega
          have HS1 : Hid (sameInts (ints l1) (ints l1) = true) := decide_eq_true rfl
          clear hl1 hm1 h12 H3
          go_upto_region 18 with fail
          generalize wr.alloc (.cells #[.slice none 0 0, .map none] 46) = w8 at *
          generalize wr.heap.size = zb at *
          have HTT : Hid (∀ X, Below w8.heap.size w8 X → Two w X q rb 12 A' B' c' d' O G O G) := fun X hX => H4.out.below hX
          have HCQ : Hid (∀ X, Below w8.heap.size w8 X → X.cell? ⟨rb, 0, none⟩ = some (.slice A' 12 c') ∧ X.cell? ⟨rb, 1, none⟩ = some (.slice B' 12 d')) := fun X hX => (duo_any (H4.out.below hX).box).1
          have HGZ : Hid (∀ X, Below w8.heap.size w8 X → Gone X (.pointer (some ⟨zb, 0, none⟩))) := fun X hX => HZ0.out.below hX
          have HGN : Hid (∀ X : World, Gone X (.pointer none)) := fun X => .inl rfl
          obtain ⟨b0, b1⟩ := HCQ.out _ (Below.refl _ _)
          have hbl := drew_below w8
          clear H4 HZ0
          go_region_held3 (fun X => X.cell? ⟨rb, 0, none⟩ = some (.slice A' 12 c') ∧ X.cell? ⟨rb, 1, none⟩ = some (.slice B' 12 d'))
            (first | (refine ⟨?_, ?_⟩ <;> with_reducible assumption) | exact ⟨b0, b1⟩)
            (first
              | (go_at_call 23
                 (with_reducible refine (owners_gone (HGN.out _)).mono ?_)
                 rintro e w9 ⟨rfl, b9⟩
                 have hbl := step_below (a := w8) (by with_reducible assumption) b9
                 clear b9
                 obtain ⟨p0, p1⟩ := HCQ.out w9 hbl)
              | (go_at_call 23
                 (with_reducible refine (owners_gone (HGZ.out _ (by with_reducible assumption))).mono ?_)
                 rintro e w9 ⟨rfl, b9⟩
                 have hbl := step_below (a := w8) (by with_reducible assumption) b9
                 clear b9
                 obtain ⟨p0, p1⟩ := HCQ.out w9 hbl)
              | (go_at_call 23
                 refine (k_owners (HTT.out _ (by with_reducible assumption)) L1.out M1.out).mono ?_
                 rintro e w9 ⟨A9, c9, rfl, i9, b9⟩
                 have hbl := step_below (a := w8) (by with_reducible assumption) b9
                 have IA := Lib.hid i9
                 clear i9 b9
                 obtain ⟨p0, p1⟩ := HCQ.out w9 hbl)
              | (go_at_call 24
                 refine (d_owners (HTT.out _ (by with_reducible assumption)) L1.out M1.out).mono ?_
                 rintro e w10 ⟨A10, c10, rfl, i10, b10⟩
                 have hbl := step_below (a := w8) (by with_reducible assumption) b10
                 have IB := Lib.hid i10
                 have BB := Lib.hid b10
                 clear i10 b10
                 obtain ⟨p0, p1⟩ := HCQ.out w10 hbl)
              | (go_at_call 19
                 refine (same_is (r := true) (IA.out.below BB.out) IB.out HLA.out HLA.out HLB.out HS1.out).mono ?_
                 rintro e w11 ⟨rfl, j11, rfl⟩
                 have hbl := step_below (a := w8) (by with_reducible assumption) (below_drewN (Below.refl w10.heap.size w10) j11)
                 obtain ⟨p0, p1⟩ := HCQ.out (w10.drewN j11) hbl)
              | (go_at_call 22
                 (with_reducible refine (hand_gone (HGN.out _)).mono ?_)
                 rintro e w12 ⟨rfl, b12⟩
                 have hbl := step_below (a := w8) (by with_reducible assumption) b12
                 clear b12
                 obtain ⟨p0, p1⟩ := HCQ.out w12 hbl)
              | (go_at_call 22
                 (with_reducible refine (hand_gone (HGZ.out _ (by with_reducible assumption))).mono ?_)
                 rintro e w12 ⟨rfl, b12⟩
                 have hbl := step_below (a := w8) (by with_reducible assumption) b12
                 clear b12
                 obtain ⟨p0, p1⟩ := HCQ.out w12 hbl)
              | (go_at_call 6
                 refine (HW.out _).mono ?_
                 rintro e w13 ⟨rfl, b13⟩
                 have hbl := step_below (a := w8) (by with_reducible assumption) b13
                 clear b13
                 obtain ⟨p0, p1⟩ := HCQ.out w13 hbl))
          all_goals
            have B9 := Lib.hid (HTT.out _ hbl).bel
            clear HTT HCQ HGZ hbl b0 b1
            go_wp2
            go_ret
            exact ⟨rfl, B9.out⟩
theorem hands_any {w : World} {A B : Option Addr} {xs : List Nat} {ps : List (Int × Int)} {len len2 c d : Nat} (h : BytesAt w A xs) (hlen : len = xs.length) (h' : PairsAt w B ps) (hlen' : len2 = ps.length) (hint : ∀ p ∈ ps, InInt p.1 ∧ InInt p.2) :
    Calls Try.prog 5 #[.slice A len c, .slice B len2 d] w (TrueBelow w) := by
  by_cases h1 : 60 < len ∨ 20 < len2
  · exact hands_out h1
  · exact hands_in h hlen h' hlen' hint (fun e => h1 (.inl e)) (fun e => h1 (.inr e))
end Go.Proofs.Ytiidkfcblnkghaa
