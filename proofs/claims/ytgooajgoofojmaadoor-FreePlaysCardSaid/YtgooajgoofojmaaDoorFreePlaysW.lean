/- The walk of FreePlays. -/
import Derived.Test.YtgooajgoofojmaaDoorFreeTell
import Derived.Test.YtgooajgoofojmaaDoorFreeRefs
import Derived.Test.YtgooajgoofojmaaDoorBaseRecs
namespace Go.Proofs.YtgooajgoofojmaaDoor
open Go.RowKit

theorem place_has {l : List Nat} {x p : Int} {r : Bool} (hp : placeI l x = p) (hr : dropB l x = r) : decide (0 ≤ p) = r := by
  cases r with
  | false => rw [← hp, dropB_place hr]; rfl
  | true =>
    unfold dropB at hr
    rw [Bool.and_eq_true] at hr
    obtain ⟨k, rfl⟩ := Int.eq_ofNat_of_zero_le (of_decide_eq_true hr.1)
    have hm := of_decide_eq_true hr.2
    rw [Int.toNat_natCast] at hm
    obtain ⟨i, _, _, h⟩ := placeV_mem hm
    rw [← hp, placeI_nat, h]
    simp
theorem TabOk.upon {w w' : World} (h : TabOk w) (hb : Below w.heap.size w w') : TabOk w' := h.below hb h.lt
set_option maxRecDepth 100000 in
set_option maxHeartbeats 6400000 in
theorem plays_any {w : World} {A : Option Addr} {xs : List (Int × Int)} {len c : Nat} {n : Int} (hT : TabOk w) (h : PairsAt w A xs) (hlen : len = xs.length) (hlen2 : len ≤ 9223372036854775807) :
    Calls Tryd.prog 3 #[.int .i64 n, .slice A len c] w (TrueBelow w) := by
  have hnot := not_any
  by_cases hbig : 60 < (len : Int)
  · go_enter Tryd.func3, Tryd.ntmps3
    go_wp2_with fail
    refine works_any.mono ?_
    rintro e w' ⟨rfl, hb⟩
    go_wp2
    go_ret
    exact ⟨rfl, hb⟩
  · by_cases hneg : n < 0
    · have hn200 : ¬ 200 < n := by omega
      go_enter Tryd.func3, Tryd.ntmps3
      go_wp2_with fail
      refine (fnew_no n _ (.inl hneg)).mono ?_
      rintro e w' ⟨rfl, rfl⟩
      go_wp2_with fail
      refine works_any.mono ?_
      rintro e w' ⟨rfl, hb⟩
      go_wp2
      go_ret
      exact ⟨rfl, hb⟩
    · by_cases h200 : 200 < n
      · by_cases hmax : n ≤ 1048576
        · go_enter Tryd.func3, Tryd.ntmps3
          go_wp2_with fail
          refine works_any.mono ?_
          rintro e w' ⟨rfl, hb⟩
          go_wp2
          go_ret
          exact ⟨rfl, hb⟩
        · have hmax2 : 1048576 < n := by omega
          go_enter Tryd.func3, Tryd.ntmps3
          go_wp2_with fail
          refine (fnew_no n _ (.inr hmax2)).mono ?_
          rintro e w' ⟨rfl, rfl⟩
          go_wp2_with fail
          refine works_any.mono ?_
          rintro e w' ⟨rfl, hb⟩
          go_wp2
          go_ret
          exact ⟨rfl, hb⟩
      · obtain ⟨sz, rfl⟩ := Int.eq_ofNat_of_zero_le (show 0 ≤ n by omega)
        have hsz : sz ≤ 200 := by omega
        have hd1 : decide ((sz : Int) < 0) = false := by simp
        have hd2 : decide ((1048576 : Int) < (sz : Int)) = false := by rw [decide_eq_false]; omega
        have HN := Lib.hid hlen
        have H := Lib.hid h
        have HTT := Lib.hid hT
        clear h hlen hT
        go_enter Tryd.func3, Tryd.ntmps3
        go_wp2_with fail
        refine (fnew_in (n := sz) (by omega)).mono ?_
        rintro e w1 ⟨q, hi, rfl, s1, b1⟩
        go_wp2_with fail
        refine (rnew_at (n := sz) (by omega)).mono ?_
        rintro e w2 ⟨v, rfl, l2, b2⟩
        have s2 := s1.below b2
        have l2' := l2.more s1.hiw
        have b2' := b1.trans (b2.mono b1.size)
        have hw2 : hi ≤ w2.heap.size := s2.hiw
        clear s1 b1 l2 b2
        go_wp2
        go_loopw [6, 7] (fun v i wr => ∃ (k : Nat) (l : List Nat), k ≤ len ∧ i = .int .i64 k ∧ FreeIn wr w.heap.size hi (.pointer (some ⟨q, 0, none⟩)) sz l ∧ ListAt wr hi v l ∧ Below w.heap.size w wr ∧ hi ≤ wr.heap.size) (fun _ i _ => len - (intOf i).toNat)
        case atStart => exact ⟨0, _, by omega, rfl, s2, l2', b2', hw2⟩
        case round =>
          clear s2 l2' b2' hw2
          obtain ⟨k, l, hk, rfl, s2, l2, b2, hw2⟩ := hrel
          by_cases hlt : k < len
          · have hxl : k < xs.length := by have := HN.out; omega
            obtain ⟨b, off, rfl, hc1, hc2⟩ := (H.out.below b2).at_ hxl
            generalize xs[k]'hxl = y at *
            obtain ⟨kind, x⟩ := y
            have hi0 : 0 ≤ (k : Int) ∧ (k : Int) < (len : Int) := by omega
            obtain ⟨_, hll, hnd, _⟩ := s2.small
            have hll2 : l.length ≤ 1048576 := by omega
            obtain ⟨p, ep⟩ : ∃ p, placeI l x = p := ⟨_, rfl⟩
            obtain ⟨r, er⟩ : ∃ r, dropB l x = r := ⟨_, rfl⟩
            have hpr := place_has ep er
            have hrr : (r != r) = false := by simp
            have HH := Lib.hid (fhas_at s2 x er)
            have HP := Lib.hid ep
            have HR := Lib.hid er
            have HND := Lib.hid hnd
            clear ep er hnd hxl
            simp only at hc1 hc2
            by_cases hk0 : kind = 0
            · subst hk0
              go_wp2_with fail
              refine HH.out.mono ?_
              rintro e w' ⟨rfl, m0, rfl⟩
              have s3 := s2.drewN m0
              have l3 := l2.drewN m0
              have b3 := below_drewN b2 m0
              have hw3 : hi ≤ (wr.drewN m0).heap.size := hw2
              have hd1' : (wr.drewN m0).cell? ⟨b, off + k * 2, none⟩ = some (.int .i64 0) := hc1
              clear HH s2 l2 b2 hw2 hc1 hc2
              generalize wr.drewN m0 = w3 at *
              go_wp2_with fail
              refine (rplace_any l3 HND.out hll2 HP.out).mono ?_
              rintro e w' ⟨rfl, rfl⟩
              clear HP
              obtain ⟨t, et⟩ : ∃ t, topV l = t := ⟨_, rfl⟩
              obtain ⟨s, es⟩ : ∃ s, someB l = s := ⟨_, rfl⟩
              obtain ⟨l', el⟩ : ∃ l', l.dropLast = l' := ⟨_, rfl⟩
              have htt : ((t : Int) != (t : Int)) = false := by simp
              have hss : (s != s) = false := by simp
              have HK := Lib.hid (rtake_at l3 hll2 el et es)
              have HE : Hid (l.dropLast = l' ∧ topV l = t ∧ someB l = s) := ⟨el, et, es⟩
              clear el et es
              go_wp2_with fail
              refine HK.out.mono ?_
              rintro e w4 ⟨v4, m4, rfl, l4, rfl⟩
              have s4 := s3.drewN m4
              have l4' := l4.drewN m4
              have b4 := below_drewN b3 m4
              have hw4 : hi ≤ (w3.drewN m4).heap.size := hw3
              clear HK s3 l3 b3 hw3 l4 hd1'
              generalize w3.drewN m4 = w4 at *
              go_wp2_with fail
              refine (take_at s4 HE.out.1 HE.out.2.1 HE.out.2.2).mono ?_
              rintro e w5 ⟨rfl, s5, c5⟩
              have l5 := l4'.chg c5 (by omega)
              have b5 := c5.below b4 b4.size (.inl (Nat.le_refl _))
              have hw5 : hi ≤ w5.heap.size := Nat.le_trans hw4 c5.size
              clear s4 l4' b4 hw4 c5 HE
              obtain ⟨_, hll', _, _⟩ := s5.small
              obtain ⟨m, em⟩ : ∃ m, l'.length = m := ⟨_, rfl⟩
              have hmm : ((m : Int) != (m : Int)) = false := by simp
              obtain ⟨A5, c5, rfl, hcap5, i5, hl5⟩ := l5
              have HL5 : Hid (ListAt w5 hi (.slice A5 l'.length c5) l') := ⟨A5, c5, rfl, hcap5, i5, hl5⟩
              have HF := Lib.hid (flen_is s5 em)
              rw [em]
              rw [em] at HL5
              clear i5 hl5 hcap5 em
              go_wp2_with fail
              refine HF.out.mono ?_
              rintro e w' ⟨rfl, rfl⟩
              clear HF
              go_wp2
              go_roundw
              case rel => exact ⟨k + 1, l', by omega, by go_num, s5, HL5.out, b5, hw5⟩
              case measure => simp [intOf]; omega
            · have hno0 := hk0
              by_cases hk1 : kind = 1
              · subst hk1
                go_wp2_with fail
                refine HH.out.mono ?_
                rintro e w' ⟨rfl, m0, rfl⟩
                have s3 := s2.drewN m0
                have l3 := l2.drewN m0
                have b3 := below_drewN b2 m0
                have hw3 : hi ≤ (wr.drewN m0).heap.size := hw2
                have hd1' : (wr.drewN m0).cell? ⟨b, off + k * 2, none⟩ = some (.int .i64 1) := hc1
                clear HH s2 l2 b2 hw2 hc1 hc2
                generalize wr.drewN m0 = w3 at *
                go_wp2_with fail
                refine (rplace_any l3 HND.out hll2 HP.out).mono ?_
                rintro e w' ⟨rfl, rfl⟩
                clear HP
                obtain ⟨l', el⟩ : ∃ l', dropI l x = l' := ⟨_, rfl⟩
                have HK := Lib.hid (rpick_at l3 HND.out hll2 hw3 x el HR.out)
                have HE := Lib.hid el
                clear el
                go_wp2_with fail
                refine HK.out.mono ?_
                rintro e w4 ⟨v4, rfl, l4, b4⟩
                have s4 := s3.below b4
                have b4' := b3.trans (b4.mono b3.size)
                have hw4 : hi ≤ w4.heap.size := Nat.le_trans hw3 b4.size
                clear HK s3 l3 b3 hw3 b4 hd1'
                go_wp2_with fail
                refine (pick_at s4 x HE.out HR.out).mono ?_
                rintro e w5 ⟨rfl, s5, c5⟩
                have l5 := l4.chg c5 (by omega)
                have b5 := c5.below b4' b4'.size (.inl (Nat.le_refl _))
                have hw5 : hi ≤ w5.heap.size := Nat.le_trans hw4 c5.size
                clear s4 l4 b4' hw4 c5 HE
                obtain ⟨_, hll', _, _⟩ := s5.small
                obtain ⟨m, em⟩ : ∃ m, l'.length = m := ⟨_, rfl⟩
                have hmm : ((m : Int) != (m : Int)) = false := by simp
                obtain ⟨A5, c5, rfl, hcap5, i5, hl5⟩ := l5
                have HL5 : Hid (ListAt w5 hi (.slice A5 l'.length c5) l') := ⟨A5, c5, rfl, hcap5, i5, hl5⟩
                have HF := Lib.hid (flen_is s5 em)
                rw [em]
                rw [em] at HL5
                clear i5 hl5 hcap5 em
                go_wp2_with fail
                refine HF.out.mono ?_
                rintro e w' ⟨rfl, rfl⟩
                clear HF
                go_wp2
                go_roundw
                case rel => exact ⟨k + 1, l', by omega, by go_num, s5, HL5.out, b5, hw5⟩
                case measure => simp [intOf]; omega
              · have hno1 := hk1
                by_cases hk2 : kind = 2
                · subst hk2
                  go_wp2_with fail
                  refine HH.out.mono ?_
                  rintro e w' ⟨rfl, m0, rfl⟩
                  have s3 := s2.drewN m0
                  have l3 := l2.drewN m0
                  have b3 := below_drewN b2 m0
                  have hw3 : hi ≤ (wr.drewN m0).heap.size := hw2
                  have hd1' : (wr.drewN m0).cell? ⟨b, off + k * 2, none⟩ = some (.int .i64 2) := hc1
                  clear HH s2 l2 b2 hw2 hc1 hc2
                  generalize wr.drewN m0 = w3 at *
                  go_wp2_with fail
                  refine (rplace_any l3 HND.out hll2 HP.out).mono ?_
                  rintro e w' ⟨rfl, rfl⟩
                  clear HP
                  obtain ⟨l', el⟩ : ∃ l', pushL sz l x = l' := ⟨_, rfl⟩
                  obtain ⟨g, eg⟩ : ∃ g, pushB sz l x = g := ⟨_, rfl⟩
                  have hgg : (g != g) = false := by simp
                  have HK := Lib.hid (rgive_at l3 HND.out hll2 hw3 x el eg)
                  have HE := Lib.hid el
                  have HG := Lib.hid eg
                  clear el eg
                  go_wp2_with fail
                  refine HK.out.mono ?_
                  rintro e w4 ⟨v4, rfl, l4, b4⟩
                  have s4 := s3.below b4
                  have b4' := b3.trans (b4.mono b3.size)
                  have hw4 : hi ≤ w4.heap.size := Nat.le_trans hw3 b4.size
                  clear HK s3 l3 b3 hw3 b4 hd1'
                  go_wp2_with fail
                  refine (give_at s4 x HE.out HG.out).mono ?_
                  rintro e w5 ⟨rfl, s5, c5⟩
                  have l5 := l4.chg c5 (by omega)
                  have b5 := c5.below b4' b4'.size (.inl (Nat.le_refl _))
                  have hw5 : hi ≤ w5.heap.size := Nat.le_trans hw4 c5.size
                  clear s4 l4 b4' hw4 c5 HE
                  obtain ⟨_, hll', _, _⟩ := s5.small
                  obtain ⟨m, em⟩ : ∃ m, l'.length = m := ⟨_, rfl⟩
                  have hmm : ((m : Int) != (m : Int)) = false := by simp
                  obtain ⟨A5, c5, rfl, hcap5, i5, hl5⟩ := l5
                  have HL5 : Hid (ListAt w5 hi (.slice A5 l'.length c5) l') := ⟨A5, c5, rfl, hcap5, i5, hl5⟩
                  have HF := Lib.hid (flen_is s5 em)
                  rw [em]
                  rw [em] at HL5
                  clear i5 hl5 hcap5 em
                  go_wp2_with fail
                  refine HF.out.mono ?_
                  rintro e w' ⟨rfl, rfl⟩
                  clear HF
                  go_wp2
                  go_roundw
                  case rel => exact ⟨k + 1, l', by omega, by go_num, s5, HL5.out, b5, hw5⟩
                  case measure => simp [intOf]; omega
                · go_wp2_with fail
                  refine HH.out.mono ?_
                  rintro e w' ⟨rfl, m0, rfl⟩
                  have s3 := s2.drewN m0
                  have l3 := l2.drewN m0
                  have b3 := below_drewN b2 m0
                  have hw3 : hi ≤ (wr.drewN m0).heap.size := hw2
                  have hd1' : (wr.drewN m0).cell? ⟨b, off + k * 2, none⟩ = some (.int .i64 kind) := hc1
                  clear HH s2 l2 b2 hw2 hc1 hc2
                  generalize wr.drewN m0 = w3 at *
                  go_wp2_with fail
                  refine (rplace_any l3 HND.out hll2 HP.out).mono ?_
                  rintro e w' ⟨rfl, rfl⟩
                  clear HP
                  obtain ⟨t, et⟩ : ∃ t, topV l = t := ⟨_, rfl⟩
                  obtain ⟨s, es⟩ : ∃ s, someB l = s := ⟨_, rfl⟩
                  obtain ⟨l', el⟩ : ∃ l', l.dropLast = l' := ⟨_, rfl⟩
                  have htt : ((t : Int) != (t : Int)) = false := by simp
                  have hss : (s != s) = false := by simp
                  have HK := Lib.hid (rtake_at l3 hll2 el et es)
                  have HE : Hid (topV l = t ∧ someB l = s) := ⟨et, es⟩
                  clear el et es
                  go_wp2_with fail
                  refine HK.out.mono ?_
                  rintro e w4 ⟨v4, m4, rfl, _, rfl⟩
                  have s4 := s3.drewN m4
                  have l4' := l3.drewN m4
                  have b4 := below_drewN b3 m4
                  have hw4 : hi ≤ (w3.drewN m4).heap.size := hw3
                  clear HK s3 l3 b3 hw3 hd1'
                  generalize w3.drewN m4 = w4 at *
                  go_wp2_with fail
                  refine (peek_at s4 HE.out.1 HE.out.2).mono ?_
                  rintro e w5 ⟨rfl, m5, rfl⟩
                  have s5 := s4.drewN m5
                  have l5 := l4'.drewN m5
                  have b5 := below_drewN b4 m5
                  have hw5 : hi ≤ (w4.drewN m5).heap.size := hw4
                  clear s4 l4' b4 hw4 HE
                  generalize w4.drewN m5 = w5 at *
                  obtain ⟨l', el'⟩ : ∃ l', l' = l := ⟨_, rfl⟩
                  rw [← el'] at s5 l5
                  clear el'
                  obtain ⟨_, hll', _, _⟩ := s5.small
                  obtain ⟨m, em⟩ : ∃ m, l'.length = m := ⟨_, rfl⟩
                  have hmm : ((m : Int) != (m : Int)) = false := by simp
                  obtain ⟨A5, c5, rfl, hcap5, i5, hl5⟩ := l5
                  have HL5 : Hid (ListAt w5 hi (.slice A5 l'.length c5) l') := ⟨A5, c5, rfl, hcap5, i5, hl5⟩
                  have HF := Lib.hid (flen_is s5 em)
                  rw [em]
                  rw [em] at HL5
                  clear i5 hl5 hcap5 em
                  go_wp2_with fail
                  refine HF.out.mono ?_
                  rintro e w' ⟨rfl, rfl⟩
                  clear HF
                  go_wp2
                  go_roundw
                  case rel => exact ⟨k + 1, l', by omega, by go_num, s5, HL5.out, b5, hw5⟩
                  case measure => simp [intOf]; omega
          · obtain ⟨hsm, hll, hnd, hx⟩ := s2.small
            obtain ⟨A2, c2, rfl, hcap2, i2, hl2⟩ := l2
            have HL : Hid (l.length = (ints l).length) := (ints_length l).symm
            have HTW : Hid (∀ W, Below w.heap.size w W → TabOk W) := fun W hb => HTT.out.upon hb
            have HLT : Hid (0 < w.heap.size) := HTT.out.lt
            obtain ⟨z, ez⟩ : ∃ z, listV (inL l) sz = z := ⟨_, rfl⟩
            have hsl : z.length ≤ 1048576 := by rw [← ez, sorted_length hnd hx]; omega
            have HZ := Lib.hid ez
            have HZL : Hid (z.length = (ints z).length) := (ints_length z).symm
            have HND : Hid (l.Nodup ∧ l.length ≤ 1048576) := ⟨hnd, by omega⟩
            have HSM := Lib.hid (show ∀ ys : List Int, sameInts ys ys = true from fun ys => by unfold sameInts; simp)
            clear hnd hx ez
            go_wp2_with fail
            refine (order_at s2).mono ?_
            rintro e w3 ⟨u3, rfl, l3, b3⟩
            obtain ⟨A3, c3, rfl, _, i3, _⟩ := l3
            have s3 := s2.below b3
            have i2' := i2.below b3
            have b3' := b2.trans (b3.mono b2.size)
            clear s2 i2 b2 b3 hw2
            go_wp2_with fail
            refine (same_is (r := true) i3 i2' HL.out HL.out (by rw [← HL.out]; omega) (HSM.out _)).mono ?_
            rintro e w' ⟨rfl, m4, rfl⟩
            have s4 := s3.drewN m4
            have i4 := i2'.drewN m4
            have b4 := below_drewN b3' m4
            clear s3 i2' b3' i3
            generalize w3.drewN m4 = w4 at *
            have HC := Lib.hid (flist_at s4 (HTW.out _ b4) HLT.out)
            have l4 : ListAt w4 hi (.slice A2 l.length c2) l := ⟨A2, c2, rfl, hcap2, i4, hl2⟩
            clear s4 i4 hcap2 hl2
            go_wp2_with fail
            refine HC.out.mono ?_
            rintro e w5 ⟨u5, rfl, l5, s5, c5⟩
            rw [HZ.out] at l5
            obtain ⟨A5, d5, rfl, _, i5, _⟩ := l5
            have l5' := l4.chg c5 (by omega)
            have b5 := c5.below b4 b4.size (.inl (Nat.le_refl _))
            clear HC s5 c5 l4 b4
            go_wp2_with fail
            refine (rsorted_at (n := sz) l5' HND.out.1 HND.out.2 (by omega)).mono ?_
            rintro e w6 ⟨u6, rfl, l6, b6⟩
            rw [HZ.out] at l6
            obtain ⟨A6, d6, rfl, _, i6, _⟩ := l6
            have i5' := i5.below b6
            have b6' := b5.trans (b6.mono b5.size)
            clear l5' i5 b5 b6
            go_wp2_with fail
            refine (same_is (r := true) i5' i6 HZL.out HZL.out (by rw [← HZL.out]; omega) (HSM.out _)).mono ?_
            rintro e w' ⟨rfl, m7, rfl⟩
            have b7 := below_drewN b6' m7
            clear i5' i6 b6'
            go_wp2_with fail
            refine works_any.mono ?_
            rintro e w8 ⟨rfl, b8⟩
            have b9 := b7.trans (b8.mono b7.size)
            clear b7 b8
            go_wp2
            go_ret
            exact ⟨rfl, b9⟩
end Go.Proofs.YtgooajgoofojmaaDoor
