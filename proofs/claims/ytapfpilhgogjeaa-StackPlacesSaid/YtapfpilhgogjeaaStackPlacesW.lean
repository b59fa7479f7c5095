/- The walk of StackPlaces. -/
import Derived.Test.YtapfpilhgogjeaaStackWorks
namespace Go.Proofs.Ytapfpilhgogjeaa
open Go.RowKit

set_option maxRecDepth 100000 in
set_option maxHeartbeats 3200000 in
theorem places_any {w : World} {A B : Option Addr} {xs ys : List Nat} {n m c d : Nat} (hx : BytesAt w A xs) (hy : BytesAt w B ys) (hn : n = xs.length) (hm : m = ys.length) (hn2 : n ≤ 9223372036854775807) (hm2 : m ≤ 9223372036854775807) :
    Calls Try.prog 5 #[.slice A n c, .slice B m d] w (TrueBelow w) := by
  have hnot := not_any
  by_cases hb1 : 100 < (n : Int)
  · go_enter Try.func5, Try.ntmps5
    go_wp2_with (go_at_call 6; refine works_any.mono ?_; rintro e w' ⟨rfl, hb⟩)
    go_ret
    exact ⟨rfl, hb⟩
  · by_cases hb2 : 100 < (m : Int)
    · go_enter Try.func5, Try.ntmps5
      go_wp2_with (go_at_call 6; refine works_any.mono ?_; rintro e w' ⟨rfl, hb⟩)
      go_ret
      exact ⟨rfl, hb⟩
    · have HN := Lib.hid hn
      have HM := Lib.hid hm
      have HX := Lib.hid hx
      have HY := Lib.hid hy
      clear hn hm hx hy
      go_enter Try.func5, Try.ntmps5
      go_wp2_with fail
      refine (new_in (n := 256) (by omega)).mono ?_
      rintro e w1 ⟨g, rfl, s1, b1⟩
      go_wp2
      go_loopw [6] (fun i wr => ∃ (k : Nat) (l : List Nat), k ≤ n ∧ i = .int .i64 k ∧ StackIn wr w.heap.size w1.heap.size (.pointer (some ⟨g, 0, none⟩)) 256 l ∧ Below w.heap.size w wr) (fun i _ => n - (intOf i).toNat)
      case atStart => exact ⟨0, [], by omega, rfl, s1, b1⟩
      case round =>
        obtain ⟨k, l, hk, rfl, s2, b2⟩ := hrel
        by_cases hlt : k < n
        · have hxl : k < xs.length := by have := HN.out; omega
          obtain ⟨b, off, rfl, hx, hc⟩ := (HX.out.below b2).at_ hxl
          generalize xs[k]'hxl = x at *
          have hi : 0 ≤ (k : Int) ∧ (k : Int) < (n : Int) := by omega
          go_wp2_with fail
          refine (push_at s2 (x : Int)).mono ?_
          rintro e w3 ⟨rfl, s3, c3⟩
          have b3 : Below w.heap.size w w3 := c3.below b2 b2.size (.inl (Nat.le_refl _))
          generalize pushB 256 l x = r
          go_wp2
          go_roundw
          case rel => exact ⟨k + 1, _, by omega, by go_num, s3, b3⟩
          case measure => simp [intOf]; omega
        · go_wp2
          go_loopw [7] (fun i wr => ∃ (k : Nat) (l : List Nat), k ≤ m ∧ i = .int .i64 k ∧ StackIn wr w.heap.size w1.heap.size (.pointer (some ⟨g, 0, none⟩)) 256 l ∧ Below w.heap.size w wr) (fun i _ => m - (intOf i).toNat)
          case atStart => exact ⟨0, l, by omega, rfl, s2, b2⟩
          case round =>
            clear s2 b2 l
            obtain ⟨k2, l, hk2, rfl, s2, b2⟩ := hrel
            by_cases hlt2 : k2 < m
            · have hxl : k2 < ys.length := by have := HM.out; omega
              obtain ⟨b, off, rfl, hx, hc⟩ := (HY.out.below b2).at_ hxl
              generalize ys[k2]'hxl = x at *
              have hi : 0 ≤ (k2 : Int) ∧ (k2 : Int) < (m : Int) := by omega
              go_wp2_with fail
              refine (drop_at s2 (x : Int)).mono ?_
              rintro e w3 ⟨rfl, s3, c3⟩
              have b3 : Below w.heap.size w w3 := c3.below b2 b2.size (.inl (Nat.le_refl _))
              generalize dropB l x = r
              go_wp2
              go_roundw
              case rel => exact ⟨k2 + 1, _, by omega, by go_num, s3, b3⟩
              case measure => simp [intOf]; omega
            · obtain ⟨_, hll, hnd, _⟩ := s2.small
              have HND := Lib.hid hnd
              go_wp2_with fail
              refine (list_at s2).mono ?_
              rintro e w3 ⟨q, rfl, r3, hq, b3⟩
              have s3 := s2.chg (Chg.of_below (lo := 0) (hi := 0) b3) (by omega)
              have b4 := b2.trans (b3.mono b2.size)
              obtain ⟨t, et⟩ : ∃ t, l.length = t := ⟨_, rfl⟩
              rw [et] at r3 hll ⊢
              have HT := Lib.hid et
              clear s2 b2 b3 et hnd
              go_wp2
              go_loop [9] (fun i => ∃ j : Nat, j ≤ t ∧ i = .int .i64 j) (fun i => t - (intOf i).toNat)
              case atStart => exact ⟨0, by omega, rfl⟩
              case round =>
                obtain ⟨j, hj, rfl⟩ := hrel
                by_cases hjt : j < t
                · have k3 := r3.cell (i := j) hjt
                  have hi : 0 ≤ (j : Int) ∧ (j : Int) < (t : Int) := by omega
                  have HP : Hid (placeI l (l.getD j 0 : Nat) = (j : Int)) := by
                    show _ = _
                    rw [placeI_nat]
                    exact placeV_at HND.out (getD_at (by have := HT.out; omega))
                  generalize l.getD j 0 = y at *
                  go_wp2_with fail
                  refine (place_at s3 HP.out).mono ?_
                  rintro e w' ⟨rfl, rfl⟩
                  go_wp2
                  go_round
                  case rel => exact ⟨j + 1, by omega, by go_num⟩
                  case measure => simp [intOf]; omega
                · go_wp2_with fail
                  refine (top_at s3).mono ?_
                  rintro e w' ⟨rfl, n7, rfl⟩
                  have s4 := s3.drewN n7
                  have b5 := below_drewN b4 n7
                  by_cases h0 : t = 0
                  · have hl0 : l = [] := List.eq_nil_of_length_eq_zero (by have := HT.out; omega)
                    subst hl0
                    subst h0
                    rw [show someB [] = false from rfl, show topV [] = 0 from rfl]
                    go_wp2_with fail
                    refine (len_is (n := 0) s4 rfl).mono ?_
                    rintro e w' ⟨rfl, rfl⟩
                    go_wp2_with fail
                    refine works_any.mono ?_
                    rintro e w8 ⟨rfl, b6⟩
                    go_wp2
                    go_ret
                    exact ⟨rfl, b5.trans (b6.mono b5.size)⟩
                  · have hpos : 0 < l.length := by have := HT.out; omega
                    have hsome : someB l = true := by
                      unfold someB
                      cases l with
                      | nil => simp at hpos
                      | cons _ _ => rfl
                    have HP : Hid (placeI l (topV l : Nat) = (t : Int) - 1) := by
                      show _ = _
                      rw [placeI_nat, placeV_at HND.out (topV_at hpos)]
                      have := HT.out
                      omega
                    have ht1 : 1 ≤ (t : Int) := by omega
                    have ht2 : 0 < (t : Int) := by omega
                    have ht3 : 0 < t := by omega
                    rw [hsome]
                    clear hpos hsome h0
                    go_wp2_with fail
                    refine (len_is s4 HT.out).mono ?_
                    rintro e w' ⟨rfl, rfl⟩
                    go_wp2_with fail
                    refine (place_at s4 HP.out).mono ?_
                    rintro e w' ⟨rfl, rfl⟩
                    go_wp2_with fail
                    refine works_any.mono ?_
                    rintro e w8 ⟨rfl, b6⟩
                    go_wp2
                    go_ret
                    exact ⟨rfl, b5.trans (b6.mono b5.size)⟩
end Go.Proofs.Ytapfpilhgogjeaa
