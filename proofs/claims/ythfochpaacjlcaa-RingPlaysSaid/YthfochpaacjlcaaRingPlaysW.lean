/- The walk of RingPlays (written out by gen_plays.py: five kinds of calls, one tail). -/
import Derived.Test.YthfochpaacjlcaaRingWorks
import Derived.Test.YthfochpaacjlcaaBaseRecs
namespace Go.Proofs.Ythfochpaacjlcaa
open Go.RowKit

set_option maxRecDepth 100000 in
set_option maxHeartbeats 6400000 in
theorem plays_any {w : World} {A : Option Addr} {xs : List (Int × Int)} {len c : Nat} {room n : Int} (h : PairsAt w A xs) (hlen : len = xs.length) (hlen2 : len ≤ 9223372036854775807) :
    Calls Try.prog 3 #[.int .i64 room, .slice A len c, .int .i64 n] w (TrueBelow w) := by
  have hnot := not_any
  by_cases hbig : 80 < (len : Int)
  · go_enter Try.func3, Try.ntmps3
    go_wp2_with (go_at_call 5; refine works_any.mono ?_; rintro e w' ⟨rfl, hb⟩)
    go_ret
    exact ⟨rfl, hb⟩
  · by_cases hneg : room < 0
    · have hn300 : ¬ 300 < room := by omega
      go_enter Try.func3, Try.ntmps3
      go_wp2_with (first
        | (go_at_call 6; refine (new_no room _ (.inl hneg)).mono ?_; rintro e w' ⟨rfl, rfl⟩)
        | (go_at_call 5; refine works_any.mono ?_; rintro e w' ⟨rfl, hb⟩))
      go_ret
      exact ⟨rfl, hb⟩
    · by_cases h300 : 300 < room
      · by_cases hmax : room ≤ 1048576
        · go_enter Try.func3, Try.ntmps3
          go_wp2_with (go_at_call 5; refine works_any.mono ?_; rintro e w' ⟨rfl, hb⟩)
          go_ret
          exact ⟨rfl, hb⟩
        · have hmax2 : 1048576 < room := by omega
          go_enter Try.func3, Try.ntmps3
          go_wp2_with (first
            | (go_at_call 6; refine (new_no room _ (.inr hmax2)).mono ?_; rintro e w' ⟨rfl, rfl⟩)
            | (go_at_call 5; refine works_any.mono ?_; rintro e w' ⟨rfl, hb⟩))
          go_ret
          exact ⟨rfl, hb⟩
      · obtain ⟨sz, rfl⟩ := Int.eq_ofNat_of_zero_le (show 0 ≤ room by omega)
        have hsz : sz ≤ 300 := by omega
        have hd1 : decide ((sz : Int) < 0) = false := by simp
        have hd2 : decide ((1048576 : Int) < (sz : Int)) = false := by rw [decide_eq_false]; omega
        have HN := Lib.hid hlen
        have H := Lib.hid h
        clear h hlen
        go_enter Try.func3, Try.ntmps3
        go_wp2_with fail
        refine (new_in (n := sz) (by omega)).mono ?_
        rintro e w1 ⟨g, rfl, s1, b1⟩
        go_wp2
        go_loopw [8, 9] (fun v i wr => ∃ (k : Nat) (l : List Int), k ≤ len ∧ i = .int .i64 k ∧ RingIn wr w.heap.size w1.heap.size (.pointer (some ⟨g, 0, none⟩)) sz l ∧ ZsAt wr w1.heap.size v l ∧ Below w.heap.size w wr ∧ w1.heap.size ≤ wr.heap.size) (fun _ i _ => len - (intOf i).toNat)
        case atStart => exact ⟨0, [], by omega, rfl, s1, ZsAt.nil _ _, b1, Nat.le_refl _⟩
        case round =>
          obtain ⟨k, l, hk, rfl, s2, l2, b2, hw2⟩ := hrel
          obtain ⟨hsm2, hll⟩ := s2.small
          have hll2 : l.length ≤ 1048576 := by omega
          by_cases hlt : k < len
          · have hxl : k < xs.length := by have := HN.out; omega
            obtain ⟨b, off, rfl, hc1, hc2⟩ := (H.out.below b2).at_ hxl
            have hr0 : ∃ b' off', (some ⟨b, off, none⟩ : Option Addr) = some ⟨b', off', none⟩ ∧ b' < w.heap.size ∧ w.cell? ⟨b', off' + k * 2 + 1, none⟩ = some (.int .i64 (xs[k]'hxl).2) := by
              obtain ⟨b', off', e', _, h2⟩ := H.out.at_ hxl
              exact ⟨b', off', e', World.block_lt_of_cell? _ _ h2, h2⟩
            generalize xs[k]'hxl = y at *
            obtain ⟨kind, x⟩ := y
            obtain ⟨b', off', e', hbl, hx0⟩ := hr0
            injection e' with e'
            injection e' with e1 e2
            subst e1 e2
            have HR2 : Hid (∀ W : World, Below w.heap.size w W → W.cell? ⟨b, off + k * 2 + 1, none⟩ = some (.int .i64 x)) := fun W hW => (hW.cell (p := ⟨b, off + k * 2 + 1, none⟩) hbl).trans hx0
            clear hx0 hbl
            have hi : 0 ≤ (k : Int) ∧ (k : Int) < (len : Int) := by omega
            simp only at hc1 hc2
            by_cases h0 : kind = 0
            · subst h0
              go_wp2_with fail
              refine (rput_any (room := sz) l2 hll2 hw2 x).mono ?_
              rintro e w3 ⟨v3, rfl, l3, b3⟩
              have s3 := s2.chg (Chg.of_below (lo := 0) (hi := 0) b3) (by omega)
              have b3' := b2.trans (b3.mono b2.size)
              have q3 := HR2.out _ b3'
              obtain ⟨r, er⟩ : ∃ r, putB sz l = r := ⟨_, rfl⟩
              rw [er]
              have HR := Lib.hid er
              have hw3 := b3.size
              clear er s2 l2 b2 b3
              go_wp2_with fail
              refine (put_is s3 x rfl HR.out).mono ?_
              rintro e w4 ⟨rfl, s4, c4⟩
              have l4 := l3.chg c4 (by omega)
              have b4 := c4.below b3' b3'.size (.inl (Nat.le_refl _))
              have hw4 : w1.heap.size ≤ w4.heap.size := Nat.le_trans (Nat.le_trans hw2 hw3) c4.size
              clear s3 l3 b3' c4 HR q3
              generalize putL sz l x = l' at *
              obtain ⟨A4, c4, rfl, hcap4, i4, hl4⟩ := l4
              go_wp2_with fail
              refine (len_is s4 rfl).mono ?_
              rintro e w' ⟨rfl, rfl⟩
              go_wp2_with fail
              refine (room_is s4).mono ?_
              rintro e w' ⟨rfl, rfl⟩
              go_wp2
              go_roundw
              case rel => exact ⟨k + 1, l', by omega, by go_num, s4, ⟨A4, c4, rfl, hcap4, i4, hl4⟩, b4, hw4⟩
              case measure => simp [intOf]; omega
            · by_cases h1 : kind = 1
              · subst h1
                go_wp2_with fail
                refine (rtake_any l2 hll2).mono ?_
                rintro e w3 ⟨v3, m3, rfl, l3, rfl⟩
                have s3 := s2.drewN m3
                have b3' := below_drewN b2 m3
                obtain ⟨r, er⟩ : ∃ r, someB l = r := ⟨_, rfl⟩
                obtain ⟨t, et⟩ : ∃ t, l.headD 0 = t := ⟨_, rfl⟩
                rw [er, et]
                have HR := Lib.hid er
                have HT := Lib.hid et
                clear er et s2 l2 b2
                go_wp2_with fail
                refine (take_is s3 rfl HT.out HR.out).mono ?_
                rintro e w4 ⟨rfl, s4, c4⟩
                have l4 := l3.chg c4 (by omega)
                have b4 := c4.below b3' b3'.size (.inl (Nat.le_refl _))
                have hw4 : w1.heap.size ≤ w4.heap.size := Nat.le_trans hw2 c4.size
                clear s3 l3 b3' c4 HR HT
                generalize l.tail = l' at *
                obtain ⟨A4, c4, rfl, hcap4, i4, hl4⟩ := l4
                go_wp2_with fail
                refine (len_is s4 rfl).mono ?_
                rintro e w' ⟨rfl, rfl⟩
                go_wp2_with fail
                refine (room_is s4).mono ?_
                rintro e w' ⟨rfl, rfl⟩
                go_wp2
                go_roundw
                case rel => exact ⟨k + 1, l', by omega, by go_num, s4, ⟨A4, c4, rfl, hcap4, i4, hl4⟩, b4, hw4⟩
                case measure => simp [intOf]; omega
              · by_cases h2 : kind = 2
                · subst h2
                  obtain ⟨r, er⟩ : ∃ r, atB l 0 = r := ⟨_, rfl⟩
                  obtain ⟨t, et⟩ : ∃ t, atV l 0 = t := ⟨_, rfl⟩
                  have HR := Lib.hid er
                  have HT := Lib.hid et
                  clear er et
                  go_wp2_with fail
                  refine (rat_any l2 HT.out HR.out).mono ?_
                  rintro e w' ⟨rfl, rfl⟩
                  go_wp2_with fail
                  refine (first_is s2 HT.out HR.out).mono ?_
                  rintro e w' ⟨rfl, m4, rfl⟩
                  have s4 := s2.drewN m4
                  have l4 := l2.drewN m4
                  have b4 := below_drewN b2 m4
                  have hw4 : w1.heap.size ≤ (wr.drewN m4).heap.size := hw2
                  clear s2 l2 b2 HR HT
                  generalize wr.drewN m4 = w4 at *
                  obtain ⟨l', el'⟩ : ∃ l', l' = l := ⟨_, rfl⟩
                  rw [← el'] at s4 l4
                  clear el'
                  obtain ⟨A4, c4, rfl, hcap4, i4, hl4⟩ := l4
                  go_wp2_with fail
                  refine (len_is s4 rfl).mono ?_
                  rintro e w' ⟨rfl, rfl⟩
                  go_wp2_with fail
                  refine (room_is s4).mono ?_
                  rintro e w' ⟨rfl, rfl⟩
                  go_wp2
                  go_roundw
                  case rel => exact ⟨k + 1, l', by omega, by go_num, s4, ⟨A4, c4, rfl, hcap4, i4, hl4⟩, b4, hw4⟩
                  case measure => simp [intOf]; omega
                · by_cases h3 : kind = 3
                  · subst h3
                    obtain ⟨r, er⟩ : ∃ r, atB l x = r := ⟨_, rfl⟩
                    obtain ⟨t, et⟩ : ∃ t, atV l x = t := ⟨_, rfl⟩
                    have HR := Lib.hid er
                    have HT := Lib.hid et
                    clear er et
                    go_wp2_with fail
                    refine (rat_any l2 HT.out HR.out).mono ?_
                    rintro e w' ⟨rfl, rfl⟩
                    go_wp2_with fail
                    refine (at_is s2 HT.out HR.out).mono ?_
                    rintro e w' ⟨rfl, m4, rfl⟩
                    have s4 := s2.drewN m4
                    have l4 := l2.drewN m4
                    have b4 := below_drewN b2 m4
                    have hw4 : w1.heap.size ≤ (wr.drewN m4).heap.size := hw2
                    clear s2 l2 b2 HR HT
                    generalize wr.drewN m4 = w4 at *
                    obtain ⟨l', el'⟩ : ∃ l', l' = l := ⟨_, rfl⟩
                    rw [← el'] at s4 l4
                    clear el'
                    obtain ⟨A4, c4, rfl, hcap4, i4, hl4⟩ := l4
                    go_wp2_with fail
                    refine (len_is s4 rfl).mono ?_
                    rintro e w' ⟨rfl, rfl⟩
                    go_wp2_with fail
                    refine (room_is s4).mono ?_
                    rintro e w' ⟨rfl, rfl⟩
                    go_wp2
                    go_roundw
                    case rel => exact ⟨k + 1, l', by omega, by go_num, s4, ⟨A4, c4, rfl, hcap4, i4, hl4⟩, b4, hw4⟩
                    case measure => simp [intOf]; omega
                  · obtain ⟨l', el'⟩ : ∃ l', l' = l := ⟨_, rfl⟩
                    have s4 : RingIn wr w.heap.size w1.heap.size (.pointer (some ⟨g, 0, none⟩)) sz l' := by rw [el']; exact s2
                    have l4 := l2
                    rw [← el'] at l4
                    have b4 := b2
                    have hw4 := hw2
                    clear s2 l2 b2 el'
                    obtain ⟨A4, c4, rfl, hcap4, i4, hl4⟩ := l4
                    go_wp2_with fail
                    refine (len_is s4 rfl).mono ?_
                    rintro e w' ⟨rfl, rfl⟩
                    go_wp2_with fail
                    refine (room_is s4).mono ?_
                    rintro e w' ⟨rfl, rfl⟩
                    go_wp2
                    go_roundw
                    case rel => exact ⟨k + 1, l', by omega, by go_num, s4, ⟨A4, c4, rfl, hcap4, i4, hl4⟩, b4, hw4⟩
                    case measure => simp [intOf]; omega
          · have hlt2 : ¬ (k : Int) < (len : Int) := by omega
            obtain ⟨p, ep⟩ : ∃ p, placeZ l n = p := ⟨_, rfl⟩
            have HP := Lib.hid ep
            obtain ⟨A2, c2, rfl, hcap2, i2, hl2⟩ := l2
            clear ep hlt b1 s1
            go_wp2_with fail
            refine (list_is s2).mono ?_
            rintro e w5 ⟨A5, c5, rfl, i5, b5⟩
            have s5 := s2.chg (Chg.of_below (lo := 0) (hi := 0) b5) (by omega)
            have j5 := i2.below b5
            have b6 := b2.trans (b5.mono b2.size)
            clear s2 b2 b5 i2
            go_wp2_with fail
            refine (same_is (r := true) i5.1 j5 rfl rfl (by omega) (by unfold sameInts; simp)).mono ?_
            rintro e w' ⟨rfl, m6, rfl⟩
            have s6 := s5.drewN m6
            have l6 : ZsAt (w5.drewN m6) w1.heap.size (.slice A2 l.length c2) l := ZsAt.drewN ⟨A2, c2, rfl, hcap2, j5, hl2⟩ m6
            have b7 := below_drewN b6 m6
            clear s5 i5 j5 b6
            generalize w5.drewN m6 = w6 at *
            go_wp2_with fail
            refine (place_is s6 HP.out).mono ?_
            rintro e w7 ⟨rfl, b8⟩
            have l7 := l6.below b8
            have b9 := b7.trans (b8.mono b7.size)
            clear s6 l6 b7 b8
            go_wp2_with fail
            refine (rplace_any l7 hll2 HP.out).mono ?_
            rintro e w' ⟨rfl, rfl⟩
            go_wp2_with fail
            refine works_any.mono ?_
            rintro e w9 ⟨rfl, b10⟩
            have b11 := b9.trans (b10.mono b9.size)
            go_wp2
            go_ret
            exact ⟨rfl, b11⟩
end Go.Proofs.Ythfochpaacjlcaa
