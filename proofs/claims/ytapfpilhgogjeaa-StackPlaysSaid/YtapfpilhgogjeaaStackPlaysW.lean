/- The walk of StackPlays. -/
import Derived.Test.YtapfpilhgogjeaaStackWorks
import Derived.Test.YtapfpilhgogjeaaBaseRecs
namespace Go.Proofs.Ytapfpilhgogjeaa
open Go.RowKit

theorem top_is {w : World} {lo hi size t : Nat} {v : Value} {l : List Nat} {r : Bool} (h : StackIn w lo hi v size l) (et : topV l = t) (er : someB l = r) : Calls Try.prog 16 #[v] w fun e w' => e = .returned (.tuple #[.int .i64 t, .bool r]) ∧ ∃ n, w' = w.drewN n := by
  subst et er; exact top_at h
set_option maxRecDepth 100000 in
set_option maxHeartbeats 6400000 in
theorem plays_any {w : World} {A : Option Addr} {xs : List (Int × Int)} {len c : Nat} {size : Int} (h : PairsAt w A xs) (hlen : len = xs.length) (hlen2 : len ≤ 9223372036854775807) :
    Calls Try.prog 3 #[.int .i64 size, .slice A len c] w (TrueBelow w) := by
  have hnot := not_any
  by_cases hbig : 60 < (len : Int)
  · go_enter Try.func3, Try.ntmps3
    go_wp2_with (go_at_call 6; refine works_any.mono ?_; rintro e w' ⟨rfl, hb⟩)
    go_ret
    exact ⟨rfl, hb⟩
  · by_cases hneg : size < 0
    · have hn300 : ¬ 300 < size := by omega
      go_enter Try.func3, Try.ntmps3
      go_wp2_with (first
        | (go_at_call 7; refine (new_no size _ (.inl hneg)).mono ?_; rintro e w' ⟨rfl, rfl⟩)
        | (go_at_call 6; refine works_any.mono ?_; rintro e w' ⟨rfl, hb⟩))
      go_ret
      exact ⟨rfl, hb⟩
    · by_cases h300 : 300 < size
      · by_cases hmax : size ≤ 1048576
        · go_enter Try.func3, Try.ntmps3
          go_wp2_with (go_at_call 6; refine works_any.mono ?_; rintro e w' ⟨rfl, hb⟩)
          go_ret
          exact ⟨rfl, hb⟩
        · have hmax2 : 1048576 < size := by omega
          go_enter Try.func3, Try.ntmps3
          go_wp2_with (first
            | (go_at_call 7; refine (new_no size _ (.inr hmax2)).mono ?_; rintro e w' ⟨rfl, rfl⟩)
            | (go_at_call 6; refine works_any.mono ?_; rintro e w' ⟨rfl, hb⟩))
          go_ret
          exact ⟨rfl, hb⟩
      · obtain ⟨sz, rfl⟩ := Int.eq_ofNat_of_zero_le (show 0 ≤ size by omega)
        have hsz : sz ≤ 300 := by omega
        have hd1 : decide ((sz : Int) < 0) = false := by simp
        have hd2 : decide ((1048576 : Int) < (sz : Int)) = false := by rw [decide_eq_false]; omega
        have HN := Lib.hid hlen
        have H := Lib.hid h
        clear h hlen
        go_enter Try.func3, Try.ntmps3
        go_wp2_with fail
        refine (new_in (n := sz) (by omega)).mono ?_
        rintro e w1 ⟨g, rfl, s1, b1⟩
        go_wp2
        go_loopw [6, 7] (fun v i wr => ∃ (k : Nat) (l : List Nat), k ≤ len ∧ i = .int .i64 k ∧ StackIn wr w.heap.size w1.heap.size (.pointer (some ⟨g, 0, none⟩)) sz l ∧ ListAt wr w1.heap.size v l ∧ Below w.heap.size w wr ∧ w1.heap.size ≤ wr.heap.size) (fun _ i _ => len - (intOf i).toNat)
        case atStart => exact ⟨0, [], by omega, rfl, s1, ListAt.nil _ _, b1, Nat.le_refl _⟩
        case round =>
          obtain ⟨k, l, hk, rfl, s2, l2, b2, hw2⟩ := hrel
          by_cases hlt : k < len
          · have hxl : k < xs.length := by have := HN.out; omega
            obtain ⟨b, off, rfl, hc1, hc2⟩ := (H.out.below b2).at_ hxl
            generalize xs[k]'hxl = y at *
            obtain ⟨kind, x⟩ := y
            have hi : 0 ≤ (k : Int) ∧ (k : Int) < (len : Int) := by omega
            obtain ⟨_, hll, hnd, _⟩ := s2.small
            have hll2 : l.length ≤ 1048576 := by omega
            obtain ⟨p, ep⟩ : ∃ p, placeI l x = p := ⟨_, rfl⟩
            have HP := Lib.hid ep
            clear ep
            simp only at hc1 hc2
            by_cases h0 : kind = 0
            · subst h0
              go_wp2_with fail
              refine (place_at s2 HP.out).mono ?_
              rintro e w' ⟨rfl, rfl⟩
              go_wp2_with fail
              refine (rplace_any l2 hnd hll2 HP.out).mono ?_
              rintro e w' ⟨rfl, rfl⟩
              go_wp2_with fail
              refine (rpush_any (size := sz) l2 hnd hll2 hw2 x).mono ?_
              rintro e w3 ⟨v3, rfl, l3, b3⟩
              have s3 := s2.chg (Chg.of_below (lo := 0) (hi := 0) b3) (by omega)
              have b3' := b2.trans (b3.mono b2.size)
              obtain ⟨r, er⟩ : ∃ r, pushB sz l x = r := ⟨_, rfl⟩
              rw [er]
              have HR := Lib.hid er
              have hw3 := b3.size
              clear er s2 l2 b2 b3
              go_wp2_with fail
              refine (push_is s3 x rfl HR.out).mono ?_
              rintro e w4 ⟨rfl, s4, c4⟩
              have l4 := l3.chg c4 (by omega)
              have b4 := c4.below b3' b3'.size (.inl (Nat.le_refl _))
              have hw4 : w1.heap.size ≤ w4.heap.size := Nat.le_trans (Nat.le_trans hw2 hw3) c4.size
              clear s3 l3 b3' c4 HR
              generalize pushL sz l x = l' at *
              obtain ⟨_, hll', _, _⟩ := s4.small
              have hll3 : l'.length ≤ 1048576 := by omega
              obtain ⟨A4, c4, rfl, hcap4, i4, hl4⟩ := l4
              go_wp2_with fail
              refine (len_is s4 rfl).mono ?_
              rintro e w' ⟨rfl, rfl⟩
              go_wp2_with fail
              refine (list_at s4).mono ?_
              rintro e w5 ⟨q5, rfl, r5, hq5, b5⟩
              have s5 := s4.chg (Chg.of_below (lo := 0) (hi := 0) b5) (by omega)
              have i5 := i4.below b5
              have b6 := b4.trans (b5.mono b4.size)
              have hw5 : w1.heap.size ≤ w5.heap.size := Nat.le_trans hw4 b5.size
              have j5 := (ints_row r5 (fun _ _ => rfl) hq5).1
              have HL : Hid (l'.length = (ints l').length) := (ints_length l').symm
              clear s4 i4 b4 b5 r5
              go_wp2_with fail
              refine (same_is (r := true) j5 i5 HL.out HL.out (by rw [← HL.out]; omega) (by unfold sameInts; simp)).mono ?_
              rintro e w' ⟨rfl, m6, rfl⟩
              have s6 := s5.drewN m6
              have l6 : ListAt (w5.drewN m6) w1.heap.size (.slice A4 l'.length c4) l' := ListAt.drewN ⟨A4, c4, rfl, hcap4, i5, hl4⟩ m6
              have b7 := below_drewN b6 m6
              clear s5 i5 j5 b6 HL
              go_wp2
              go_roundw
              case rel => exact ⟨k + 1, l', by omega, by go_num, s6, l6, b7, hw5⟩
              case measure => simp [intOf]; omega
            · by_cases h1 : kind = 1
              · subst h1
                go_wp2_with fail
                refine (place_at s2 HP.out).mono ?_
                rintro e w' ⟨rfl, rfl⟩
                go_wp2_with fail
                refine (rplace_any l2 hnd hll2 HP.out).mono ?_
                rintro e w' ⟨rfl, rfl⟩
                go_wp2_with fail
                refine (rpop_any l2 hll2).mono ?_
                rintro e w3 ⟨v3, m3, rfl, l3, rfl⟩
                have s3 := s2.drewN m3
                have l3' := l3.drewN m3
                have b3' := below_drewN b2 m3
                obtain ⟨r, er⟩ : ∃ r, someB l = r := ⟨_, rfl⟩
                obtain ⟨t, et⟩ : ∃ t, topV l = t := ⟨_, rfl⟩
                rw [er, et]
                have HR := Lib.hid er
                have HT := Lib.hid et
                clear er et s2 l2 b2 l3
                go_wp2_with fail
                refine (pop_is s3 rfl HT.out HR.out).mono ?_
                rintro e w4 ⟨rfl, s4, c4⟩
                have l4 := l3'.chg c4 (by omega)
                have b4 := c4.below b3' b3'.size (.inl (Nat.le_refl _))
                have hw4 : w1.heap.size ≤ w4.heap.size := Nat.le_trans hw2 c4.size
                clear s3 l3' b3' c4 HR HT
                generalize l.dropLast = l' at *
                obtain ⟨_, hll', _, _⟩ := s4.small
                have hll3 : l'.length ≤ 1048576 := by omega
                obtain ⟨A4, c4, rfl, hcap4, i4, hl4⟩ := l4
                go_wp2_with fail
                refine (len_is s4 rfl).mono ?_
                rintro e w' ⟨rfl, rfl⟩
                go_wp2_with fail
                refine (list_at s4).mono ?_
                rintro e w5 ⟨q5, rfl, r5, hq5, b5⟩
                have s5 := s4.chg (Chg.of_below (lo := 0) (hi := 0) b5) (by omega)
                have i5 := i4.below b5
                have b6 := b4.trans (b5.mono b4.size)
                have hw5 : w1.heap.size ≤ w5.heap.size := Nat.le_trans hw4 b5.size
                have j5 := (ints_row r5 (fun _ _ => rfl) hq5).1
                have HL : Hid (l'.length = (ints l').length) := (ints_length l').symm
                clear s4 i4 b4 b5 r5
                go_wp2_with fail
                refine (same_is (r := true) j5 i5 HL.out HL.out (by rw [← HL.out]; omega) (by unfold sameInts; simp)).mono ?_
                rintro e w' ⟨rfl, m6, rfl⟩
                have s6 := s5.drewN m6
                have l6 : ListAt (w5.drewN m6) w1.heap.size (.slice A4 l'.length c4) l' := ListAt.drewN ⟨A4, c4, rfl, hcap4, i5, hl4⟩ m6
                have b7 := below_drewN b6 m6
                clear s5 i5 j5 b6 HL
                go_wp2
                go_roundw
                case rel => exact ⟨k + 1, l', by omega, by go_num, s6, l6, b7, hw5⟩
                case measure => simp [intOf]; omega
              · by_cases h2 : kind = 2
                · subst h2
                  go_wp2_with fail
                  refine (place_at s2 HP.out).mono ?_
                  rintro e w' ⟨rfl, rfl⟩
                  go_wp2_with fail
                  refine (rplace_any l2 hnd hll2 HP.out).mono ?_
                  rintro e w' ⟨rfl, rfl⟩
                  go_wp2_with fail
                  refine (rdrop_any l2 hnd hll2 hw2 x).mono ?_
                  rintro e w3 ⟨v3, rfl, l3, b3⟩
                  have s3 := s2.chg (Chg.of_below (lo := 0) (hi := 0) b3) (by omega)
                  have b3' := b2.trans (b3.mono b2.size)
                  obtain ⟨r, er⟩ : ∃ r, dropB l x = r := ⟨_, rfl⟩
                  rw [er]
                  have HR := Lib.hid er
                  have hw3 := b3.size
                  clear er s2 l2 b2 b3
                  go_wp2_with fail
                  refine (drop_is s3 x rfl HR.out).mono ?_
                  rintro e w4 ⟨rfl, s4, c4⟩
                  have l4 := l3.chg c4 (by omega)
                  have b4 := c4.below b3' b3'.size (.inl (Nat.le_refl _))
                  have hw4 : w1.heap.size ≤ w4.heap.size := Nat.le_trans (Nat.le_trans hw2 hw3) c4.size
                  clear s3 l3 b3' c4 HR
                  generalize dropI l x = l' at *
                  obtain ⟨_, hll', _, _⟩ := s4.small
                  have hll3 : l'.length ≤ 1048576 := by omega
                  obtain ⟨A4, c4, rfl, hcap4, i4, hl4⟩ := l4
                  go_wp2_with fail
                  refine (len_is s4 rfl).mono ?_
                  rintro e w' ⟨rfl, rfl⟩
                  go_wp2_with fail
                  refine (list_at s4).mono ?_
                  rintro e w5 ⟨q5, rfl, r5, hq5, b5⟩
                  have s5 := s4.chg (Chg.of_below (lo := 0) (hi := 0) b5) (by omega)
                  have i5 := i4.below b5
                  have b6 := b4.trans (b5.mono b4.size)
                  have hw5 : w1.heap.size ≤ w5.heap.size := Nat.le_trans hw4 b5.size
                  have j5 := (ints_row r5 (fun _ _ => rfl) hq5).1
                  have HL : Hid (l'.length = (ints l').length) := (ints_length l').symm
                  clear s4 i4 b4 b5 r5
                  go_wp2_with fail
                  refine (same_is (r := true) j5 i5 HL.out HL.out (by rw [← HL.out]; omega) (by unfold sameInts; simp)).mono ?_
                  rintro e w' ⟨rfl, m6, rfl⟩
                  have s6 := s5.drewN m6
                  have l6 : ListAt (w5.drewN m6) w1.heap.size (.slice A4 l'.length c4) l' := ListAt.drewN ⟨A4, c4, rfl, hcap4, i5, hl4⟩ m6
                  have b7 := below_drewN b6 m6
                  clear s5 i5 j5 b6 HL
                  go_wp2
                  go_roundw
                  case rel => exact ⟨k + 1, l', by omega, by go_num, s6, l6, b7, hw5⟩
                  case measure => simp [intOf]; omega
                · have hk0 : (kind == 0) = false := by simp [h0]
                  have hk1 : (kind == 1) = false := by simp [h1]
                  have hk2 : (kind == 2) = false := by simp [h2]
                  clear h0 h1 h2
                  go_wp2_with fail
                  refine (place_at s2 HP.out).mono ?_
                  rintro e w' ⟨rfl, rfl⟩
                  go_wp2_with fail
                  refine (rplace_any l2 hnd hll2 HP.out).mono ?_
                  rintro e w' ⟨rfl, rfl⟩
                  go_wp2_with fail
                  refine (rpop_any l2 hll2).mono ?_
                  rintro e w3 ⟨v3, m3, rfl, l3, rfl⟩
                  have s3 := s2.drewN m3
                  have l3' := l2.drewN m3
                  have b3' := below_drewN b2 m3
                  obtain ⟨r, er⟩ : ∃ r, someB l = r := ⟨_, rfl⟩
                  obtain ⟨t, et⟩ : ∃ t, topV l = t := ⟨_, rfl⟩
                  rw [er, et]
                  have HR := Lib.hid er
                  have HT := Lib.hid et
                  clear er et s2 l2 b2 l3
                  go_wp2_with fail
                  refine (top_is s3 HT.out HR.out).mono ?_
                  rintro e w4 ⟨rfl, m4, rfl⟩
                  have s4 := s3.drewN m4
                  have l4 := l3'.drewN m4
                  have b4 := below_drewN b3' m4
                  have hw4 : w1.heap.size ≤ ((wr.drewN m3).drewN m4).heap.size := hw2
                  clear s3 l3' b3' HR HT
                  generalize (wr.drewN m3).drewN m4 = w4 at *
                  obtain ⟨l', el'⟩ : ∃ l', l' = l := ⟨_, rfl⟩
                  rw [← el'] at s4 l4
                  clear el'
                  obtain ⟨_, hll', _, _⟩ := s4.small
                  have hll3 : l'.length ≤ 1048576 := by omega
                  obtain ⟨A4, c4, rfl, hcap4, i4, hl4⟩ := l4
                  go_wp2_with fail
                  refine (len_is s4 rfl).mono ?_
                  rintro e w' ⟨rfl, rfl⟩
                  go_wp2_with fail
                  refine (list_at s4).mono ?_
                  rintro e w5 ⟨q5, rfl, r5, hq5, b5⟩
                  have s5 := s4.chg (Chg.of_below (lo := 0) (hi := 0) b5) (by omega)
                  have i5 := i4.below b5
                  have b6 := b4.trans (b5.mono b4.size)
                  have hw5 : w1.heap.size ≤ w5.heap.size := Nat.le_trans hw4 b5.size
                  have j5 := (ints_row r5 (fun _ _ => rfl) hq5).1
                  have HL : Hid (l'.length = (ints l').length) := (ints_length l').symm
                  clear s4 i4 b4 b5 r5
                  go_wp2_with fail
                  refine (same_is (r := true) j5 i5 HL.out HL.out (by rw [← HL.out]; omega) (by unfold sameInts; simp)).mono ?_
                  rintro e w' ⟨rfl, m6, rfl⟩
                  have s6 := s5.drewN m6
                  have l6 : ListAt (w5.drewN m6) w1.heap.size (.slice A4 l'.length c4) l' := ListAt.drewN ⟨A4, c4, rfl, hcap4, i5, hl4⟩ m6
                  have b7 := below_drewN b6 m6
                  clear s5 i5 j5 b6 HL
                  go_wp2
                  go_roundw
                  case rel => exact ⟨k + 1, l', by omega, by go_num, s6, l6, b7, hw5⟩
                  case measure => simp [intOf]; omega
          · go_wp2_with fail
            refine works_any.mono ?_
            rintro e w5 ⟨rfl, b5⟩
            go_wp2
            go_ret
            exact ⟨rfl, b2.trans (b5.mono b2.size)⟩
end Go.Proofs.Ytapfpilhgogjeaa
