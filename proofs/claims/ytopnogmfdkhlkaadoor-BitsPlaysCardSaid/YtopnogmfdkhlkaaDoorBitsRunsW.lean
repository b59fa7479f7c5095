/- The walk of BitsRuns. -/
import Derived.Test.YtopnogmfdkhlkaaDoorBitsWorks
namespace Go.Proofs.YtopnogmfdkhlkaaDoor
open Go.RowKit

theorem hasF_in {size : Nat} {f : Nat → Bool} {i : Nat} (h : i < size) : hasF size f (i : Int) = f i := by
  unfold hasF
  rw [decide_eq_true ⟨by omega, by omega⟩]
  simp
theorem runV_is {f : Nat → Bool} {size i K : Nat} (h1 : 1 ≤ K) (hi : i < size) (ha : allF f i K = true) (hl : ∀ j, j < i → allF f j K = false) : runV f size K = i := by
  unfold runV
  rw [if_neg (by omega), Int.toNat_natCast]
  exact seekV_some (f := fun i => allF f i K) hi (by omega) ha fun j _ hj => hl j hj
theorem runV_no {f : Nat → Bool} {size K : Nat} (h1 : 1 ≤ K) (hl : ∀ j, j < size → allF f j K = false) : runV f size K = -1 := by
  unfold runV
  rw [if_neg (by omega), Int.toNat_natCast]
  exact seekV_none (f := fun i => allF f i K) fun j _ hj => hl j hj
set_option maxRecDepth 100000 in
set_option maxHeartbeats 3200000 in
theorem runs_any {w : World} {A : Option Addr} {xs : List Nat} {n c k : Nat} (h : BytesAt w A xs) (hn : n = xs.length) (hn2 : n ≤ 9223372036854775807) (hk : k < 256) (hT : TabOk w) :
    Calls Tryd.prog 5 #[.slice A n c, .int .u8 k] w (TrueBelow w) := by
  have h0 := hT.lt
  by_cases hbig : 200 < (n : Int)
  · go_enter Tryd.func5, Tryd.ntmps5
    go_wp2_with (go_at_call 7; refine (works_any hT).mono ?_; rintro e w' ⟨rfl, hb⟩)
    go_ret
    exact ⟨rfl, hb⟩
  · have HN := Lib.hid hn
    have H := Lib.hid h
    clear h hn
    go_enter Tryd.func5, Tryd.ntmps5
    go_wp2_with fail
    refine (new_in (n := 256) (by omega)).mono ?_
    rintro e w1 ⟨g, rfl, s1, b1⟩
    have s1' : SetIn w1 w.heap.size w1.heap.size (.pointer (some ⟨g, 0, none⟩)) 256 (putsF 256 (xs.take 0)) := s1.congr fun j => by rw [List.take_zero, putsF_nil]
    clear s1
    go_wp2
    go_loopw [6] (fun i wr => ∃ q : Nat, q ≤ n ∧ i = .int .i64 q ∧ SetIn wr w.heap.size w1.heap.size (.pointer (some ⟨g, 0, none⟩)) 256 (putsF 256 (xs.take q)) ∧ Below w.heap.size w wr) (fun i _ => n - (intOf i).toNat)
    case atStart => exact ⟨0, by omega, rfl, s1', b1⟩
    case round =>
      obtain ⟨q, hq, rfl, s2, b2⟩ := hrel
      by_cases hlt : q < n
      · have hxl : q < xs.length := by have := HN.out; omega
        have ht := take_snoc hxl
        obtain ⟨b, off, rfl, hx, hc⟩ := (H.out.below b2).at_ hxl
        generalize xs[q]'hxl = x at *
        have HT := Lib.hid ht
        clear ht
        have hi : 0 ≤ (q : Int) ∧ (q : Int) < (n : Int) := by omega
        go_wp2_with fail
        refine (put_at s2 (x : Int)).mono ?_
        rintro e w3 ⟨rfl, s3, c3⟩
        have b3 : Below w.heap.size w w3 := c3.below b2 b2.size (.inl (Nat.le_refl _))
        have s3' : SetIn w3 w.heap.size w1.heap.size (.pointer (some ⟨g, 0, none⟩)) 256 (putsF 256 (xs.take (q + 1))) := s3.congr fun j => by rw [putsF_snoc, HT.out]
        go_wp2
        go_roundw
        case rel => exact ⟨q + 1, by omega, by go_num, s3', b3⟩
        case measure => simp [intOf]; omega
      · generalize putsF 256 (xs.take q) = f at *
        have HO := Lib.hid s2.out
        have hT2 : TabOk wr := hT.below b2 h0
        obtain ⟨K, hK, hK1, hK2⟩ : ∃ K : Nat, 1 + (k : Int) % 9 = (K : Int) ∧ 1 ≤ K ∧ K ≤ 9 := ⟨1 + k % 9, by omega, by omega, by omega⟩
        have hat : -1 ≤ runV f 256 K ∧ runV f 256 K < 256 := by
          unfold runV
          rw [if_neg (by omega)]
          exact seekV_range _ 256 0
        go_wp2_with fail
        refine (run_at s2 hT2 (by omega) rfl).mono ?_
        rintro e w' ⟨rfl, rfl⟩
        go_wp2
        clear hK
        go_loopw [9] (fun i wr' => ∃ j m : Nat, j ≤ 257 - K ∧ i = .int .i64 j ∧ wr' = wr.drewN m ∧ Hid (∀ x, x < j → allF f x K = false)) (fun i _ => 257 - (intOf i).toNat)
        case atStart => exact ⟨0, 0, by omega, rfl, rfl, fun x hx => by omega⟩
        case round =>
          obtain ⟨j, m, hj, rfl, rfl, hh⟩ := hrel
          by_cases hle : (j : Int) + (K : Int) ≤ 256
          · go_wp2
            go_loopw [10, 11] (fun a y wr' => ∃ t m : Nat, t ≤ K ∧ y = .int .i64 ((j + t : Nat) : Int) ∧ a = .bool (allF f j t) ∧ wr' = wr.drewN m) (fun _ y _ => j + K - (intOf y).toNat)
            case atStart => exact ⟨0, m, by omega, rfl, rfl, rfl⟩
            case round =>
              obtain ⟨t, m, ht, rfl, rfl, rfl⟩ := hrel
              by_cases hlt2 : t < K
              · have HS := Lib.hid (allF_succ f j t)
                have hyl : j + t < 256 := by omega
                have hlt3 : ((j + t : Nat) : Int) < (j : Int) + (K : Int) := by omega
                have s3 : SetIn (wr.drewN m) w.heap.size w1.heap.size (.pointer (some ⟨g, 0, none⟩)) 256 f := s2.chg (Chg.drewN 0 0 wr m) (by omega)
                have HH := Lib.hid (hasF_in (f := f) hyl)
                generalize hy : j + t = y at *
                cases ha : allF f j t with
                | true =>
                  rw [ha] at HS
                  clear ha
                  go_wp2_with fail
                  refine (has_at s3 (y : Int)).mono ?_
                  rintro e w' ⟨rfl, m', rfl⟩
                  rw [HH.out]
                  go_wp2
                  go_roundw
                  case rel => exact ⟨t + 1, m + m', by omega, by congr 1; omega, by rw [HS.out]; simp, rfl⟩
                  case measure => simp [intOf]; omega
                | false =>
                  rw [ha] at HS
                  clear ha
                  go_wp2
                  go_roundw
                  case rel => exact ⟨t + 1, m, by omega, by congr 1; omega, by rw [HS.out]; simp, rfl⟩
                  case measure => simp [intOf]; omega
              · have e : t = K := by omega
                subst e
                have hlt3 : ¬ ((j + t : Nat) : Int) < (j : Int) + (t : Int) := by omega
                cases ha : allF f j t with
                | true =>
                  have hr := runV_is (i := j) (size := 256) (by omega) (by omega) ha hh.out
                  rw [hr] at hat ⊢
                  clear ha hr
                  have hT3 : TabOk (wr.drewN m) := hT2.drewN m
                  go_wp2_with (go_at_call 7; refine (works_any hT3).mono ?_; rintro e w' ⟨rfl, hb⟩)
                  go_ret
                  exact ⟨rfl, (below_drewN b2 m).trans (hb.mono (by have := b2.size; simp; omega))⟩
                | false =>
                  have HA := Lib.hid ha
                  clear ha
                  go_wp2
                  go_roundw
                  case rel =>
                    refine ⟨j + 1, m, by omega, by go_num, rfl, fun x hx => ?_⟩
                    by_cases e : x = j
                    · rw [e]; exact HA.out
                    · exact hh.out x (by omega)
                  case measure => simp [intOf]; omega
          · have hr : runV f 256 K = -1 := runV_no (by omega) fun x hx => by
              by_cases hxj : x < j
              · exact hh.out x hxj
              · exact allF_no (j := 256) (by omega) (by omega) (HO.out 256 (Nat.le_refl _))
            rw [hr] at hat ⊢
            clear hr
            have hT3 : TabOk (wr.drewN m) := hT2.drewN m
            go_wp2_with (go_at_call 7; refine (works_any hT3).mono ?_; rintro e w' ⟨rfl, hb⟩)
            go_ret
            exact ⟨rfl, (below_drewN b2 m).trans (hb.mono (by have := b2.size; simp; omega))⟩
end Go.Proofs.YtopnogmfdkhlkaaDoor
