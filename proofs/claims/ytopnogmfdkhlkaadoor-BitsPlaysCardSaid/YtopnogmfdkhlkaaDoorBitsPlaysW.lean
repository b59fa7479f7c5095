/- The walk of BitsPlays. -/
import Derived.Test.YtopnogmfdkhlkaaDoorBitsWalkW
namespace Go.Proofs.YtopnogmfdkhlkaaDoor
open Go.RowKit

theorem bool_info : (Tryd.prog.info? 4).map (fun i => (i.zero, i.size, i.bytes)) = some (some (.bool false), 1, 1) := by kernel_rfl
theorem BoolsAt.chg {lo hi b n : Nat} {w w' : World} {f : Nat → Bool} (h : BoolsAt w b n f) (hc : Chg lo hi w w') (hb : ¬ (lo ≤ b ∧ b < hi)) : BoolsAt w' b n f := World.rowIs.of_block h (hc.block b (World.rowIs.lt h) hb)
theorem BoolsAt.below {b n : Nat} {w w' : World} {f : Nat → Bool} (h : BoolsAt w b n f) (hb : Below w.heap.size w w') : BoolsAt w' b n f := World.rowIs.of_block h (hb.block b (World.rowIs.lt h))
theorem BoolsAt.like {b n : Nat} {w : World} {f f' : Nat → Bool} (h : BoolsAt w b n f) (e : ∀ j, j < n → f j = f' j) : BoolsAt w b n f' := World.rowIs.congr h fun j hj => by rw [e j hj]
theorem BoolsAt.put {b n k : Nat} {w : World} {f f' : Nat → Bool} {r : Bool} (h : BoolsAt w b n f) (e : ∀ j, j < n → f' j = if j = k then r else f j) : BoolsAt (w.setCell ⟨b, k, none⟩ (.bool r)) b n f' :=
  (World.rowIs.set h k (.bool r)).congr fun j hj => by
    rw [e j hj]
    by_cases ej : j = k
    · rw [if_pos ej, if_pos ej]
    · rw [if_neg ej, if_neg ej]
/-- What the rounds of the law keep: the set and the row of bools have the same numbers. -/
def Both (w wr : World) (lo hi b size : Nat) (v : Value) : Prop := ∃ f, SetIn wr lo hi v size f ∧ BoolsAt wr b size f ∧ Below w.heap.size w wr
set_option maxRecDepth 100000 in
set_option maxHeartbeats 3200000 in
theorem plays_any {w : World} {A : Option Addr} {xs : List Int} {len c : Nat} {size n : Int} (h : IntsAt w A xs) (hx : ∀ x ∈ xs, -9223372036854775808 ≤ x ∧ x ≤ 9223372036854775807) (hlen : len = xs.length) (hlen2 : len ≤ 9223372036854775807)
    (hs1 : -9223372036854775808 ≤ size) (hs2 : size ≤ 9223372036854775807) (hn1 : -9223372036854775808 ≤ n) (hn2 : n ≤ 9223372036854775807) (hT : TabOk w) :
    Calls Tryd.prog 3 #[.int .i64 size, .slice A len c, .int .i64 n] w (TrueBelow w) := by
  have h0 := hT.lt
  have hnot := not_any
  by_cases hbig : 60 < (len : Int)
  · go_enter Tryd.func3, Tryd.ntmps3
    go_wp2_with (go_at_call 7; refine (works_any hT).mono ?_; rintro e w' ⟨rfl, hb⟩)
    go_ret
    exact ⟨rfl, hb⟩
  · by_cases hneg : size < 0
    · have hn400 : ¬ 400 < size := by omega
      go_enter Tryd.func3, Tryd.ntmps3
      go_wp2_with (first
        | (go_at_call 8; refine (new_no size _ (.inl hneg)).mono ?_; rintro e w' ⟨rfl, rfl⟩)
        | (go_at_call 7; refine (works_any hT).mono ?_; rintro e w' ⟨rfl, hb⟩))
      go_ret
      exact ⟨rfl, hb⟩
    · by_cases h400 : 400 < size
      · by_cases hmax : size ≤ 1048576
        · go_enter Tryd.func3, Tryd.ntmps3
          go_wp2_with (go_at_call 7; refine (works_any hT).mono ?_; rintro e w' ⟨rfl, hb⟩)
          go_ret
          exact ⟨rfl, hb⟩
        · have hmax2 : 1048576 < size := by omega
          go_enter Tryd.func3, Tryd.ntmps3
          go_wp2_with (first
            | (go_at_call 8; refine (new_no size _ (.inr hmax2)).mono ?_; rintro e w' ⟨rfl, rfl⟩)
            | (go_at_call 7; refine (works_any hT).mono ?_; rintro e w' ⟨rfl, hb⟩))
          go_ret
          exact ⟨rfl, hb⟩
      · obtain ⟨sz, rfl⟩ := Int.eq_ofNat_of_zero_le (show 0 ≤ size by omega)
        have hsz : sz ≤ 400 := by omega
        have hmk := fun W => run_make_row' (P := Tryd.prog) 26 4 (.bool false) 1 Tryd.underlying26 bool_info rfl .i64 .i64 sz (by omega) (by omega) W
        have HN := Lib.hid hlen
        have HX := Lib.hid hx
        have H := Lib.hid h
        clear h hlen hx hs1 hs2
        have hd1 : decide ((sz : Int) < 0) = false := by simp
        have hd2 : decide ((1048576 : Int) < (sz : Int)) = false := by rw [decide_eq_false]; omega
        go_enter Tryd.func3, Tryd.ntmps3
        go_wp2_with fail
        refine (new_in (n := sz) (by omega)).mono ?_
        rintro e w1 ⟨g, rfl, s1, b1⟩
        have s2 := s1.chg (Chg.alloc 0 0 w1 (.cells (madeCells #[.bool false] sz) 4)) (by omega)
        have b2 := b1.alloc b1.size (.cells (madeCells #[.bool false] sz) 4)
        have r2 : BoolsAt (w1.alloc (.cells (madeCells #[.bool false] sz) 4)) w1.heap.size sz none_ := World.rowIs_made w1 (.bool false) sz 4
        have B0 : Both w (w1.alloc (.cells (madeCells #[.bool false] sz) 4)) w.heap.size w1.heap.size w1.heap.size sz (.pointer (some ⟨g, 0, none⟩)) := ⟨none_, s2, r2, b2⟩
        have hw1 := b1.size
        clear s1 s2 b2 r2
        go_wp2
        clear hmk
        go_loopw [9] (fun i wr => ∃ q : Nat, q ≤ len ∧ i = .int .i64 q ∧ Both w wr w.heap.size w1.heap.size w1.heap.size sz (.pointer (some ⟨g, 0, none⟩))) (fun i _ => len - (intOf i).toNat)
        case atStart => exact ⟨0, by omega, rfl, B0⟩
        case round =>
          obtain ⟨q, hq, rfl, f, s3, r3, b3⟩ := hrel
          by_cases hlt : q < len
          · have hxl : q < xs.length := by have := HN.out; omega
            obtain ⟨b, off, rfl, hc⟩ := (H.out.below b3).at_ hxl
            have hyr := HX.out (xs[q]'hxl) (List.getElem_mem hxl)
            generalize xs[q]'hxl = y at *
            have hi : 0 ≤ (q : Int) ∧ (q : Int) < (len : Int) := by omega
            obtain ⟨x, hx⟩ : ∃ x, y.tdiv 2 = x := ⟨_, rfl⟩
            have hxr : -9223372036854775808 ≤ x ∧ x ≤ 9223372036854775807 := by
              have h1 : x.natAbs = y.natAbs / 2 := by rw [← hx]; exact Int.natAbs_tdiv y 2
              omega
            obtain ⟨hx1, hx2⟩ := hxr
            clear hyr
            by_cases hin : 0 ≤ x ∧ x < (sz : Int)
            · obtain ⟨hin1, hin2⟩ := hin
              obtain ⟨k, rfl⟩ := Int.eq_ofNat_of_zero_le hin1
              have hks : k < sz := by omega
              have hik : 0 ≤ (k : Int) ∧ (k : Int) < (sz : Int) := by omega
              have hH := hasF_in (f := f) hks
              have hP : putB sz f (k : Int) = !f k := by unfold putB; rw [decide_eq_true hik]; simp
              have hD : dropB sz f (k : Int) = f k := by unfold dropB; rw [decide_eq_true hik]; simp
              have hck := r3.cell hks
              cases hf : f k
              all_goals
                rw [hf] at hH hP hD hck
                have HH := Lib.hid hH
                have HP := Lib.hid hP
                have HD := Lib.hid hD
                have HFK := Lib.hid hf
                clear hH hP hD hf
                by_cases hr0 : y.tmod 2 = 0
                · have hrb : (y.tmod 2 == 0) = true := by simp [hr0]
                  clear hr0
                  go_wp2_with fail
                  refine (has_at s3 (k : Int)).mono ?_
                  rintro e w' ⟨rfl, m', rfl⟩
                  rw [HH.out]
                  have s4 := s3.chg (Chg.drewN 0 0 wr m') (by omega)
                  go_wp2_with fail
                  refine (put_at s4 (k : Int)).mono ?_
                  rintro e W2 ⟨rfl, s5, c5⟩
                  rw [HP.out]
                  have b5 : Below w.heap.size w W2 := c5.below (below_drewN b3 m') (by have := b3.size; exact this) (.inl (Nat.le_refl _))
                  have r5 : BoolsAt W2 w1.heap.size sz f := BoolsAt.chg (w := wr.drewN m') r3 c5 (by omega)
                  have hc5 := r5.cell hks
                  rw [HFK.out] at hc5
                  have hf5 : W2.frozen? ⟨w1.heap.size, k, none⟩ = false := World.rowIs.frozen r5 k
                  have r6 := r5.put (k := k) (r := true) (f' := putF sz f (k : Int)) fun j hj => by
                    unfold putF
                    by_cases e : j = k
                    · subst e; simp [hj]
                    · have : ¬ ((j : Int) = (k : Int)) := by omega
                      rw [if_neg e]; simp [this]
                  have s6 := s5.chg (Chg.of_grown (lo := w1.heap.size) (hi := w1.heap.size + 1) (grown_set (w := W2) w1.heap.size k (.bool true)) fun j e => by injection e with e; omega) (by omega)
                  have b6 := b5.setCell (p := ⟨w1.heap.size, k, none⟩) hw1 (.bool true)
                  have HB : Both w (W2.setCell ⟨w1.heap.size, k, none⟩ (.bool true)) w.heap.size w1.heap.size w1.heap.size sz (.pointer (some ⟨g, 0, none⟩)) := ⟨_, s6, r6, b6⟩
                  clear s4 s5 c5 r5 r6 s6 b5 b6
                  go_wp2
                  go_roundw
                  case rel => exact ⟨q + 1, by omega, by go_num, HB⟩
                  case measure => simp [intOf]; omega
                · have hrb : (y.tmod 2 == 0) = false := by simp [hr0]
                  clear hr0
                  go_wp2_with fail
                  refine (has_at s3 (k : Int)).mono ?_
                  rintro e w' ⟨rfl, m', rfl⟩
                  rw [HH.out]
                  have s4 := s3.chg (Chg.drewN 0 0 wr m') (by omega)
                  go_wp2_with fail
                  refine (drop_at s4 (k : Int)).mono ?_
                  rintro e W2 ⟨rfl, s5, c5⟩
                  rw [HD.out]
                  have b5 : Below w.heap.size w W2 := c5.below (below_drewN b3 m') (by have := b3.size; exact this) (.inl (Nat.le_refl _))
                  have r5 : BoolsAt W2 w1.heap.size sz f := BoolsAt.chg (w := wr.drewN m') r3 c5 (by omega)
                  have hc5 := r5.cell hks
                  rw [HFK.out] at hc5
                  have hf5 : W2.frozen? ⟨w1.heap.size, k, none⟩ = false := World.rowIs.frozen r5 k
                  have r6 := r5.put (k := k) (r := false) (f' := dropF f (k : Int)) fun j hj => by
                    unfold dropF
                    by_cases e : j = k
                    · subst e; simp
                    · have : ¬ ((j : Int) = (k : Int)) := by omega
                      rw [if_neg e]; simp [this]
                  have s6 := s5.chg (Chg.of_grown (lo := w1.heap.size) (hi := w1.heap.size + 1) (grown_set (w := W2) w1.heap.size k (.bool false)) fun j e => by injection e with e; omega) (by omega)
                  have b6 := b5.setCell (p := ⟨w1.heap.size, k, none⟩) hw1 (.bool false)
                  have HB : Both w (W2.setCell ⟨w1.heap.size, k, none⟩ (.bool false)) w.heap.size w1.heap.size w1.heap.size sz (.pointer (some ⟨g, 0, none⟩)) := ⟨_, s6, r6, b6⟩
                  clear s4 s5 c5 r5 r6 s6 b5 b6
                  go_wp2
                  go_roundw
                  case rel => exact ⟨q + 1, by omega, by go_num, HB⟩
                  case measure => simp [intOf]; omega
            · have HH : Hid (hasF sz f x = false) := by show _ = _; unfold hasF; rw [decide_eq_false hin]; rfl
              have HP : Hid (putB sz f x = false) := by show _ = _; unfold putB; rw [decide_eq_false hin]; rfl
              have HD : Hid (dropB sz f x = false) := by show _ = _; unfold dropB; rw [decide_eq_false hin]; rfl
              have e1 : ∀ j, j < sz → f j = putF sz f x j := fun j hj => by
                unfold putF
                have : ¬ ((j : Int) = x) := by omega
                simp [this]
              have e2 : ∀ j, j < sz → f j = dropF f x j := fun j hj => by
                unfold dropF
                have : ¬ ((j : Int) = x) := by omega
                simp [this]
              have E1 := Lib.hid e1
              have E2 := Lib.hid e2
              clear e1 e2
              have hsplit : x < 0 ∨ (0 ≤ x ∧ ¬ x < (sz : Int)) := by omega
              clear hin
              rcases hsplit with hxn | ⟨hxp, hxn⟩
              all_goals
                by_cases hr0 : y.tmod 2 = 0
                · have hrb : (y.tmod 2 == 0) = true := by simp [hr0]
                  clear hr0
                  go_wp2_with fail
                  refine (has_at s3 x).mono ?_
                  rintro e w' ⟨rfl, m', rfl⟩
                  rw [HH.out]
                  have s4 := s3.chg (Chg.drewN 0 0 wr m') (by omega)
                  go_wp2_with fail
                  refine (put_at s4 x).mono ?_
                  rintro e W2 ⟨rfl, s5, c5⟩
                  rw [HP.out]
                  have b5 : Below w.heap.size w W2 := c5.below (below_drewN b3 m') (by have := b3.size; exact this) (.inl (Nat.le_refl _))
                  have r5 : BoolsAt W2 w1.heap.size sz f := BoolsAt.chg (w := wr.drewN m') r3 c5 (by omega)
                  have HB : Both w W2 w.heap.size w1.heap.size w1.heap.size sz (.pointer (some ⟨g, 0, none⟩)) := ⟨_, s5, r5.like E1.out, b5⟩
                  clear s4 s5 c5 r5 b5
                  go_wp2
                  go_roundw
                  case rel => exact ⟨q + 1, by omega, by go_num, HB⟩
                  case measure => simp [intOf]; omega
                · have hrb : (y.tmod 2 == 0) = false := by simp [hr0]
                  clear hr0
                  go_wp2_with fail
                  refine (has_at s3 x).mono ?_
                  rintro e w' ⟨rfl, m', rfl⟩
                  rw [HH.out]
                  have s4 := s3.chg (Chg.drewN 0 0 wr m') (by omega)
                  go_wp2_with fail
                  refine (drop_at s4 x).mono ?_
                  rintro e W2 ⟨rfl, s5, c5⟩
                  rw [HD.out]
                  have b5 : Below w.heap.size w W2 := c5.below (below_drewN b3 m') (by have := b3.size; exact this) (.inl (Nat.le_refl _))
                  have r5 : BoolsAt W2 w1.heap.size sz f := BoolsAt.chg (w := wr.drewN m') r3 c5 (by omega)
                  have HB : Both w W2 w.heap.size w1.heap.size w1.heap.size sz (.pointer (some ⟨g, 0, none⟩)) := ⟨_, s5, r5.like E2.out, b5⟩
                  clear s4 s5 c5 r5 b5
                  go_wp2
                  go_roundw
                  case rel => exact ⟨q + 1, by omega, by go_num, HB⟩
                  case measure => simp [intOf]; omega
          · have t3 : TabOk wr := hT.below b3 h0
            have ho := s3.out
            have HCL : Hid ((listV f sz).length = cnt f sz) := listV_length f sz
            go_wp2_with fail
            refine (rlist_any r3 (by omega)).mono ?_
            rintro e W1 ⟨v1, rfl, o1, b4⟩
            obtain ⟨A1, c1, rfl, l1⟩ := own_in o1
            have s4 := s3.chg (Chg.of_below (lo := 0) (hi := 0) b4) (by omega)
            have r4 := r3.below b4
            have b5 : Below w.heap.size w W1 := b3.trans (b4.mono b3.size)
            have t4 : TabOk W1 := hT.below b5 h0
            have hz1 : w1.heap.size ≤ wr.heap.size := by obtain ⟨_, _, _, _, _, _, h3, _⟩ := s3; exact h3
            have hz2 := b4.size
            have hz3 := World.rowIs.lt r3
            clear s3 r3 b3 t3 o1 b4
            rw [HCL.out]
            go_wp2_with fail
            refine (size_at s4).mono ?_
            rintro e w' ⟨rfl, rfl⟩
            go_wp2_with fail
            refine (count_at s4 rfl).mono ?_
            rintro e W2 ⟨rfl, s6, c6⟩
            have l2 := l1.chg c6 (by omega)
            have r6 := r4.chg c6 (by omega)
            have b6 : Below w.heap.size w W2 := c6.below b5 b5.size (.inl (Nat.le_refl _))
            have t6 : TabOk W2 := hT.below b6 h0
            have hz4 := c6.size
            clear s4 r4 b5 t4 l1 c6
            go_wp2_with fail
            refine (list_at s6 t6 h0).mono ?_
            rintro e W3 ⟨A3, c3, rfl, l3, s7, c7⟩
            have l4 := l2.chg c7 (by omega)
            have r7 := r6.chg c7 (by omega)
            have b7 : Below w.heap.size w W3 := c7.below b6 b6.size (.inl (Nat.le_refl _))
            have t7 : TabOk W3 := hT.below b7 h0
            clear s6 r6 b6 t6 l2 c7
            go_wp2_with fail
            refine (same_is (r := true) l3.1 l4.1 (by rw [ints_length, HCL.out]) (by rw [ints_length, HCL.out]) (by rw [ints_length, HCL.out]; have := cnt_le f sz; omega) (by unfold sameInts; simp)).mono ?_
            rintro e w' ⟨rfl, m1, rfl⟩
            have s8 := s7.chg (Chg.drewN 0 0 W3 m1) (by omega)
            have r8 : BoolsAt (W3.drewN m1) w1.heap.size sz f := r7
            have b8 := below_drewN b7 m1
            have t8 : TabOk (W3.drewN m1) := t7.drewN m1
            clear s7 r7 b7 t7 l3 l4
            generalize W3.drewN m1 = W4 at *
            go_wp2_with fail
            refine (first_at s8 t8 rfl).mono ?_
            rintro e w' ⟨rfl, rfl⟩
            go_wp2_with fail
            refine (rnext_any r8 (by omega) _).mono ?_
            rintro e w' ⟨rfl, rfl⟩
            go_wp2_with fail
            refine (last_at s8 rfl).mono ?_
            rintro e w' ⟨rfl, rfl⟩
            go_wp2_with fail
            refine (rlast_any r8 (by omega)).mono ?_
            rintro e w' ⟨rfl, rfl⟩
            go_wp2_with fail
            refine (next_at s8 t8 hn1 rfl).mono ?_
            rintro e w' ⟨rfl, rfl⟩
            go_wp2_with fail
            refine (rnext_any r8 (by omega) _).mono ?_
            rintro e w' ⟨rfl, rfl⟩
            go_wp2_with fail
            refine (run_at s8 t8 hn2 rfl).mono ?_
            rintro e w' ⟨rfl, rfl⟩
            go_wp2_with fail
            refine (rrun_any r8 (by omega) ho n hn2).mono ?_
            rintro e w' ⟨rfl, rfl⟩
            go_wp2_with fail
            refine (works_any t8).mono ?_
            rintro e W5 ⟨rfl, b9⟩
            go_wp2
            go_ret
            exact ⟨rfl, b8.trans (b9.mono b8.size)⟩
end Go.Proofs.YtopnogmfdkhlkaaDoor
