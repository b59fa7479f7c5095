/- The walk of BitsWalk. -/
import Derived.Test.YtopnogmfdkhlkaaDoorBitsRunsW
namespace Go.Proofs.YtopnogmfdkhlkaaDoor
open Go.RowKit

theorem count_nil (w : World) : Calls Tryd.prog 14 #[.pointer none] w fun e w' => e = .returned (.int .i64 0) ∧ w = w' := by
  go_enter Tryd.func14, Tryd.ntmps14
  go_wp2_with (go_at_call 13; refine (size_nil _).mono ?_; rintro e w' ⟨rfl, rfl⟩)
  go_ret
  exact ⟨rfl, rfl⟩
def EmptyList (w : World) (e : Ending) (w' : World) : Prop := ∃ A c, e = .returned (.slice A 0 c) ∧ Below w.heap.size w w'
theorem list_nil (w : World) : Calls Tryd.prog 16 #[.pointer none] w (EmptyList w) := by
  obtain ⟨i0, hi0, hz0, hz1, hz2⟩ := info_parts int_info
  have hmk := fun W => run_make (P := Tryd.prog) W 22 3 i0 (.int .i64 0) Tryd.underlying22 hi0 hz0 .i64 .i64 0 0 (by omega) (by omega) (by rw [hz2]; omega) (by omega)
  have hmk' : ∀ W : World, (Instr.makeSlice 22 (.int .i64 0) (.int .i64 0)).run Tryd.prog W = .ok (.slice (some ⟨W.heap.size, 0, none⟩) 0 0) (W.alloc (.cells (madeCells #[.int .i64 0] 0) 3)) := fun W => by
    have := hmk W
    rw [hz1, Nat.mul_one, show (Value.int .i64 0).cells = #[.int .i64 0] from rfl] at this
    simpa using this
  clear hmk hi0 hz0 hz1 hz2
  go_enter Tryd.func16, Tryd.ntmps16
  go_wp2_with (first
    | (go_at_call 14; refine (count_nil _).mono ?_; rintro e w' ⟨rfl, rfl⟩)
    | (go_at_call 34; refine (row_nil _).mono ?_; rintro e w' ⟨rfl, rfl⟩))
  refine wp_loop_rounds 1 ?_; rw [rounds_succ]
  go_wp2
  go_ret
  exact ⟨_, _, rfl, (Below.refl _ _).alloc (Nat.le_refl _) _⟩
theorem zero_in (w : World) : SetIn (w.alloc (.cells Tryd.zeroCells52 52)) w.heap.size (w.heap.size + 1) (.pointer (some ⟨w.heap.size, 0, none⟩)) 0 none_ := by
  have hz : (Tryd.zeroCells52).size = 261 := by rw [← Array.length_toList, zero_set, List.length_map, List.length_range]
  have hr := World.rowIs_alloc w Tryd.zeroCells52 52 (setF 0 none false) (fun i hi => by
    have hi' : i < 261 := by simpa [hz] using hi
    rw [← Array.getElem?_toList, zero_set, List.getElem?_map, List.getElem?_range hi', Option.map_some])
  rw [hz] at hr
  exact ⟨_, none, rfl, ⟨⟨false, hr⟩, .inl rfl, by omega, fun _ _ => rfl⟩, Nat.le_refl _, by omega, by simp, fun b e => by cases e⟩
theorem cnt_upto {f : Nat → Bool} {a b : Nat} (h : a ≤ b) (hz : ∀ j, a ≤ j → j < b → f j = false) : cnt f b = cnt f a := by rw [← listV_length, ← listV_length, listV_more hz h]
theorem lastV_upto {f : Nat → Bool} {a b : Nat} (h : a ≤ b) (hz : ∀ j, a ≤ j → j < b → f j = false) : lastV f b = lastV f a := by
  induction b with
  | zero => have : a = 0 := by omega
            subst this; rfl
  | succ b ih =>
    by_cases e : a = b + 1
    · rw [e]
    · rw [show lastV f (b + 1) = if f b then (b : Int) else lastV f b from rfl, if_neg (by rw [hz b (by omega) (by omega)]; simp)]
      exact ih (by omega) fun j h1 h2 => hz j h1 (by omega)
set_option maxRecDepth 100000 in
set_option maxHeartbeats 6400000 in
theorem walk_any {w : World} {A : Option Addr} {xs : List Nat} {n c size : Nat} (h : BytesAt w A xs) (hn : n = xs.length) (hn2 : n ≤ 9223372036854775807) (hsz : size < 256) (hT : TabOk w) :
    Calls Tryd.prog 4 #[.int .u8 size, .slice A n c] w (TrueBelow w) := by
  have h0 := hT.lt
  by_cases hbig : 300 < (n : Int)
  · go_enter Tryd.func4, Tryd.ntmps4
    go_wp2_with (go_at_call 7; refine (works_any hT).mono ?_; rintro e w' ⟨rfl, hb⟩)
    go_ret
    exact ⟨rfl, hb⟩
  · have HN := Lib.hid hn
    have H := Lib.hid h
    have hnot := not_any
    clear h hn
    go_enter Tryd.func4, Tryd.ntmps4
    go_wp2_with fail
    refine (new_in (n := size) (by omega)).mono ?_
    rintro e w1 ⟨g, rfl, s1, b1⟩
    have s1' : SetIn w1 w.heap.size w1.heap.size (.pointer (some ⟨g, 0, none⟩)) size (putsF size (xs.take 0)) := s1.congr fun j => by rw [List.take_zero, putsF_nil]
    clear s1
    go_wp2
    go_loopw [6] (fun i wr => ∃ q : Nat, q ≤ n ∧ i = .int .i64 q ∧ SetIn wr w.heap.size w1.heap.size (.pointer (some ⟨g, 0, none⟩)) size (putsF size (xs.take q)) ∧ Below w.heap.size w wr) (fun i _ => n - (intOf i).toNat)
    case atStart => exact ⟨0, by omega, rfl, s1', b1⟩
    case round =>
      obtain ⟨q, hq, rfl, s2, b2⟩ := hrel
      by_cases hlt : q < n
      · have hxl : q < xs.length := by have := HN.out; omega
        have ht := take_snoc hxl
        obtain ⟨b, off, rfl, hx, hc⟩ := (H.out.below b2).at_ hxl
        generalize xs[q]'hxl = x at *
        have HT := Lib.hid ht
        clear ht
        have hi : 0 ≤ (q : Int) ∧ (q : Int) < (n : Int) := by omega
        go_wp2_with fail
        refine (put_at s2 (x : Int)).mono ?_
        rintro e w3 ⟨rfl, s3, c3⟩
        have b3 : Below w.heap.size w w3 := c3.below b2 b2.size (.inl (Nat.le_refl _))
        have s3' : SetIn w3 w.heap.size w1.heap.size (.pointer (some ⟨g, 0, none⟩)) size (putsF size (xs.take (q + 1))) := s3.congr fun j => by rw [putsF_snoc, HT.out]
        go_wp2
        go_roundw
        case rel => exact ⟨q + 1, by omega, by go_num, s3', b3⟩
        case measure => simp [intOf]; omega
      · generalize putsF size (xs.take q) = f at *
        have hT2 : TabOk wr := hT.below b2 h0
        go_wp2_with fail
        refine (first_at s2 hT2 rfl).mono ?_
        rintro e w' ⟨rfl, rfl⟩
        go_wp2
        go_loopw [7, 8, 9] (fun a l i wr' => ∃ p m : Nat, p ≤ size ∧ a = .int .i64 (cnt f p) ∧ l = .int .i64 (lastV f p) ∧ i = .int .i64 (seekV f size p) ∧ wr' = wr.drewN m) (fun _ _ i _ => runM size i)
        case atStart => exact ⟨0, 0, by omega, rfl, rfl, rfl, rfl⟩
        case round =>
          obtain ⟨p, m, hp, rfl, rfl, rfl, rfl⟩ := hrel
          have s3 : SetIn (wr.drewN m) w.heap.size w1.heap.size (.pointer (some ⟨g, 0, none⟩)) size f := s2.chg (Chg.drewN 0 0 wr m) (by omega)
          have hT3 : TabOk (wr.drewN m) := hT2.drewN m
          have hcp := cnt_le f p
          have hlp := lastV_range f p
          rcases seekV_cases f size p with ⟨x, e, a1, a2, a3, a4⟩ | ⟨e, a1⟩
          · obtain ⟨_, hc1⟩ := listV_step a2 a3 a4
            have hl1 := lastV_some (n := x + 1) (i := x) (by omega) a3 fun j h1 h2 => by omega
            have HC := Lib.hid hc1
            have HL := Lib.hid hl1
            have HH : Hid (hasF size f (x : Int) = true) := (hasF_in a1).trans a3
            rw [e]
            clear a3 a4 hc1 hl1 e
            have hle : ¬ (x : Int) ≤ lastV f p := by omega
            have hle2 : ¬ (size : Int) ≤ (x : Int) := by omega
            go_wp2_with fail
            refine (has_at s3 (x : Int)).mono ?_
            rintro e w' ⟨rfl, m', rfl⟩
            rw [HH.out]
            have s4 : SetIn (wr.drewN (m + m')) w.heap.size w1.heap.size (.pointer (some ⟨g, 0, none⟩)) size f := s2.chg (Chg.drewN 0 0 wr (m + m')) (by omega)
            go_wp2_with fail
            refine (next_at (i := (x : Int)) s4 (hT2.drewN (m + m')) (by omega) rfl).mono ?_
            rintro e w' ⟨rfl, rfl⟩
            go_wp2
            go_roundw
            case rel => exact ⟨x + 1, m + m', by omega, by rw [HC.out]; go_num, by rw [HL.out], by unfold nextV; congr 2, by first | rfl | exact World.drewN_drewN _ _ _⟩
            case measure =>
              rcases seekV_cases f size ((x : Int) + 1).toNat with ⟨i', e', b1, b2, _⟩ | ⟨e', _⟩
              · rw [show nextV f size x = (i' : Int) from e']
                show runM size (.int .i64 _) < runM size (.int .i64 _)
                rw [runM_nat, runM_nat]
                omega
              · rw [show nextV f size x = -1 from e']
                show runM size (.int .i64 _) < runM size (.int .i64 _)
                rw [runM_neg size (by omega), runM_nat]
                omega
          · have hcs := cnt_upto hp a1
            have hls := lastV_upto hp a1
            rw [e]
            clear e a1
            have HC : Hid ((cnt f size : Int) = (cnt f p : Int)) := by show _ = _; rw [hcs]
            have HL : Hid (lastV f size = lastV f p) := hls
            clear hcs hls
            have bW := below_drewN b2 m
            generalize wr.drewN m = W at *
            have sz := zero_in W
            have sA := s3.chg (Chg.alloc 0 0 W (.cells Tryd.zeroCells52 52)) (by omega)
            have bA := bW.alloc bW.size (.cells Tryd.zeroCells52 52)
            have hw1 : w1.heap.size ≤ W.heap.size := by obtain ⟨_, _, _, _, _, _, h3, _⟩ := s3; exact h3
            have hWz := bW.size
            clear s2 s3 hT2 hT3 b2 bW
            go_wp2_with fail
            refine (count_at sA HC.out).mono ?_
            rintro e W2 ⟨rfl, s5, c5⟩
            have z5 := sz.chg c5 (by omega)
            have b5 : Below w.heap.size w W2 := c5.below bA bA.size (.inl (Nat.le_refl _))
            have t5 : TabOk W2 := hT.below b5 h0
            clear sz sA bA c5
            go_wp2_with fail
            refine (last_at s5 HL.out).mono ?_
            rintro e w' ⟨rfl, rfl⟩
            go_wp2_with fail
            refine (size_nil _).mono ?_
            rintro e w' ⟨rfl, rfl⟩
            go_wp2_with fail
            refine (size_at z5).mono ?_
            rintro e w' ⟨rfl, rfl⟩
            go_wp2_with fail
            refine (count_nil _).mono ?_
            rintro e w' ⟨rfl, rfl⟩
            go_wp2_with fail
            refine (count_at (r := 0) z5 rfl).mono ?_
            rintro e W3 ⟨rfl, z6, c6⟩
            have b6 : Below w.heap.size w W3 := c6.below b5 b5.size (.inl (by omega))
            have t6 : TabOk W3 := hT.below b6 h0
            clear z5 s5 t5 c6
            go_wp2_with fail
            refine (first_nil _).mono ?_
            rintro e w' ⟨rfl, rfl⟩
            go_wp2_with fail
            refine (first_at (r := -1) z6 t6 (by decide)).mono ?_
            rintro e w' ⟨rfl, rfl⟩
            go_wp2_with fail
            refine (last_nil _).mono ?_
            rintro e w' ⟨rfl, rfl⟩
            go_wp2_with fail
            refine (next_at (i := 0) (r := -1) z6 t6 (by omega) (by decide)).mono ?_
            rintro e w' ⟨rfl, rfl⟩
            go_wp2_with fail
            refine (run_nil _ _).mono ?_
            rintro e w' ⟨rfl, rfl⟩
            go_wp2_with fail
            refine (put_nil _ _).mono ?_
            rintro e w' ⟨rfl, rfl⟩
            go_wp2_with fail
            refine (put_at z6 0).mono ?_
            rintro e W4 ⟨rfl, z7, c7⟩
            rw [show putB 0 none_ 0 = false by decide]
            have b7 : Below w.heap.size w W4 := c7.below b6 b6.size (.inl (by omega))
            clear z6 t6 c7
            go_wp2_with fail
            refine (has_nil _ _).mono ?_
            rintro e w' ⟨rfl, m1, rfl⟩
            have z8 := z7.chg (Chg.drewN 0 0 W4 m1) (by omega)
            have b8 := below_drewN b7 m1
            clear z7 b7
            go_wp2_with fail
            refine (drop_at z8 0).mono ?_
            rintro e W5 ⟨rfl, z9, c9⟩
            have b9 : Below w.heap.size w W5 := c9.below b8 b8.size (.inl (by omega))
            have hz9 : 0 < w.heap.size := by omega
            rw [show dropB 0 (putF 0 none_ 0) 0 = false by decide]
            clear z8 c9 b8
            go_wp2_with fail
            refine (list_nil _).mono ?_
            rintro e W6 ⟨A6, c6, rfl, b10⟩
            have z10 := z9.chg (Chg.of_below (lo := 0) (hi := 0) b10) (by omega)
            have b11 : Below w.heap.size w W6 := b9.trans (b10.mono b9.size)
            have t11 : TabOk W6 := hT.below b11 h0
            clear z9 b9 b10
            go_wp2_with fail
            refine (list_at z10 t11 (by omega)).mono ?_
            rintro e W7 ⟨A7, c7, rfl, _, _, c12⟩
            have b12 : Below w.heap.size w W7 := c12.below b11 b11.size (.inl (by omega))
            have t12 : TabOk W7 := hT.below b12 h0
            rw [show cnt (dropF (putF 0 none_ 0) 0) 0 = 0 from rfl]
            clear z10 t11 b11 c12
            go_wp2_with fail
            refine (works_any t12).mono ?_
            rintro e W8 ⟨rfl, b13⟩
            go_wp2
            go_ret
            exact ⟨rfl, b12.trans (b13.mono b12.size)⟩
end Go.Proofs.YtopnogmfdkhlkaaDoor
