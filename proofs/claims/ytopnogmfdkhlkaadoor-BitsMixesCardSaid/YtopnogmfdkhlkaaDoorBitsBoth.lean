/- What Or, And, Less and Same of package bits return: contracts. -/
import Derived.Test.YtopnogmfdkhlkaaDoorBitsPut
namespace Go.Proofs.YtopnogmfdkhlkaaDoor
open Go.RowKit

/-- A pointer to a set, or nil: a set of size 0. -/
def PtrAt (w : World) (v : Value) (size : Nat) (f : Nat → Bool) : Prop := (v = .pointer none ∧ size = 0 ∧ f = none_) ∨ ∃ g A, v = .pointer (some ⟨g, 0, none⟩) ∧ SetAt w g A size f
theorem PtrAt.small {w : World} {v : Value} {size : Nat} {f : Nat → Bool} (h : PtrAt w v size f) : size ≤ 1048576 := by
  rcases h with ⟨_, rfl, _⟩ | ⟨g, A, _, h⟩
  · omega
  · exact h.small
theorem PtrAt.out {w : World} {v : Value} {size : Nat} {f : Nat → Bool} (h : PtrAt w v size f) : ∀ j, size ≤ j → f j = false := by
  rcases h with ⟨_, _, rfl⟩ | ⟨g, A, _, h⟩
  · exact fun _ _ => rfl
  · exact h.out
theorem PtrAt.below {w w' : World} {v : Value} {size : Nat} {f : Nat → Bool} (h : PtrAt w v size f) (hb : Below w.heap.size w w') : PtrAt w' v size f := by
  rcases h with ⟨rfl, rfl, rfl⟩ | ⟨g, A, rfl, h⟩
  · exact .inl ⟨rfl, rfl, rfl⟩
  · exact .inr ⟨g, A, rfl, h.keep (hb.block g h.lt) fun b _ hl => hb.block b hl⟩
theorem PtrAt.drewN {w : World} {v : Value} {size : Nat} {f : Nat → Bool} (h : PtrAt w v size f) (n : Nat) : PtrAt (w.drewN n) v size f := by
  rcases h with ⟨rfl, rfl, rfl⟩ | ⟨g, A, rfl, h⟩
  · exact .inl ⟨rfl, rfl, rfl⟩
  · exact .inr ⟨g, A, rfl, h.drewN n⟩
theorem word_out {f : Nat → Bool} {size k : Nat} (h : ∀ j, size ≤ j → f j = false) (hk : nw size ≤ k) : word f k = 0 := word_zero_iff.2 fun j _ => h _ (by unfold nw at hk; omega)

theorem size_ptr {w : World} {v : Value} {size : Nat} {f : Nat → Bool} (h : PtrAt w v size f) : Calls Tryd.prog 13 #[v] w fun e w' => e = .returned (.int .i64 size) ∧ w = w' := by
  rcases h with ⟨rfl, rfl, rfl⟩ | ⟨g, A, rfl, h⟩
  · exact size_nil w
  · exact size_any h
theorem row_ptr {w : World} {v : Value} {size : Nat} {f : Nat → Bool} (h : PtrAt w v size f) : Calls Tryd.prog 34 #[v] w fun e w' => (∃ A, e = .returned (.slice A (nw size) (nw size)) ∧ WordsAt w A (nw size) f) ∧ w = w' := by
  rcases h with ⟨rfl, rfl, rfl⟩ | ⟨g, A, rfl, h⟩
  · exact (row_nil w).mono fun _ _ ⟨he, hw⟩ => ⟨⟨none, he, .inl rfl⟩, hw⟩
  · exact (row_any h).mono fun _ _ ⟨he, hw⟩ => ⟨⟨A, he, h.body⟩, hw⟩
theorem word_ptr {w : World} {v : Value} {size : Nat} {f : Nat → Bool} (h : PtrAt w v size f) {k : Nat} (hk : k ≤ 1048576) : Calls Tryd.prog 44 #[v, .int .i64 k] w fun e w' => e = .returned (.int .u64 (word f k)) ∧ w = w' := by
  by_cases hlt : k < nw size
  · have hi : 0 ≤ (k : Int) ∧ (k : Int) < (nw size : Int) := by omega
    go_enter Tryd.func44, Tryd.ntmps44
    go_wp2_with (go_at_call 34; refine (row_ptr h).mono ?_; rintro e w' ⟨⟨A, rfl, hA⟩, rfl⟩
                 obtain ⟨b, rfl, hb⟩ := hA.at_ hlt
                 have hc := hb.cell hlt
                 clear hb hA)
    go_ret
    exact ⟨rfl, rfl⟩
  · have HZ : Hid (word f k = 0) := word_out h.out (by omega)
    go_enter Tryd.func44, Tryd.ntmps44
    go_wp2_with (go_at_call 34; refine (row_ptr h).mono ?_; rintro e w' ⟨⟨A, rfl, hA⟩, rfl⟩; clear hA)
    go_ret
    exact ⟨ret_int (by rw [HZ.out]; rfl), rfl⟩

/-! ### the three functions that are handed on -/
theorem or_any {a b : Nat} (ha : a < 18446744073709551616) (hb : b < 18446744073709551616) (w : World) : Calls Tryd.prog 40 #[.int .u64 a, .int .u64 b] w fun e w' => e = .returned (.int .u64 ((a ||| b : Nat) : Int)) ∧ w' = w := by
  have H := Lib.hid (u64_or_nat a b ha hb)
  go_enter Tryd.func40, Tryd.ntmps40
  go_wp2
  go_ret
  exact ⟨ret_int H.out, rfl⟩
theorem and_any {a b : Nat} (ha : a < 18446744073709551616) (hb : b < 18446744073709551616) (w : World) : Calls Tryd.prog 41 #[.int .u64 a, .int .u64 b] w fun e w' => e = .returned (.int .u64 ((a &&& b : Nat) : Int)) ∧ w' = w := by
  have H := Lib.hid (u64_and_nat a b ha hb)
  go_enter Tryd.func41, Tryd.ntmps41
  go_wp2
  go_ret
  exact ⟨ret_int H.out, rfl⟩
theorem less_any {a b : Nat} (ha : a < 18446744073709551616) (hb : b < 18446744073709551616) (w : World) : Calls Tryd.prog 42 #[.int .u64 a, .int .u64 b] w fun e w' => e = .returned (.int .u64 ((a &&& (18446744073709551615 - b) : Nat) : Int)) ∧ w' = w := by
  have H := Lib.hid (u64_andNot_nat a b ha hb)
  go_enter Tryd.func42, Tryd.ntmps42
  go_wp2
  go_ret
  exact ⟨ret_int H.out, rfl⟩

theorem enter_any {P : Program} {f : FuncId} {fn : Func} {c : Code} (hf : P.funcs[f]? = some fn) (hname : (fn.name == "runtime.NumGoroutine") = false) (hb : fn.body = some c) (args : Array Value) (w : World) : (callFunc f args).run P w = .ok (.enter f args) w := by
  have h1 : fn.name ≠ "runtime.NumGoroutine" := by simpa using hname
  simp [callFunc, hf, h1, hb]
theorem hide_calls {p : Prop} (h : p) : Hid p := h
/-! ### both -/
def NewSet (size : Nat) (f : Nat → Bool) (w : World) (e : Ending) (w' : World) : Prop :=
  ∃ g b, e = .returned (.pointer (some ⟨g, 0, none⟩)) ∧ w.heap.size ≤ g ∧ w.heap.size ≤ b ∧ g ≠ b ∧ SetAt w' g (some ⟨b, 0, none⟩) size f ∧ Below w.heap.size w w' ∧ b < w'.heap.size
def partF (h : Nat → Bool) (k j : Nat) : Value := .int .u64 (if j < k then word h j else 0)
def PartAt (wr : World) (b n : Nat) (h : Nat → Bool) (k : Nat) : Prop := wr.rowIs b 61 n (partF h k)
theorem PartAt.step {wr : World} {b n k : Nat} {h : Nat → Bool} (hp : PartAt wr b n h k) : PartAt (wr.setCell ⟨b, k, none⟩ (.int .u64 (word h k))) b n h (k + 1) :=
  (World.rowIs.set hp k _).congr fun j _ => by
    unfold partF
    by_cases h1 : j = k
    · subst h1; rw [if_pos rfl, if_pos (by omega)]
    · rw [if_neg h1]
      by_cases h2 : j < k
      · rw [if_pos h2, if_pos (by omega)]
      · rw [if_neg h2, if_neg (by omega)]
def HeadAt (wr : World) (g size : Nat) (A : Option Addr) (d : Bool) : Prop := wr.rowIs g 52 261 (setF size A d)
set_option maxRecDepth 100000 in
set_option maxHeartbeats 1600000 in
theorem both_any {w : World} {x y : Value} {sx sy : Nat} {fx fy h : Nat → Bool} {F : FuncId} (hx : PtrAt w x sx fx) (hy : PtrAt w y sy fy)
    (hE : ∀ (args : Array Value) (W : World), (callFunc F args).run Tryd.prog W = .ok (.enter F args) W)
    (hF : ∀ (k : Nat) (W : World), Calls Tryd.prog F #[.int .u64 (word fx k), .int .u64 (word fy k)] W fun e w' => e = .returned (.int .u64 (word h k)) ∧ w' = W)
    (ho : ∀ j, max sx sy ≤ j → h j = false) :
    Calls Tryd.prog 39 #[x, y, .func (.func F) #[] #[]] w (NewSet (max sx sy) h w) := by
  have hsx := hx.small
  have hsy := hy.small
  obtain ⟨m, hm, hcmp⟩ : ∃ m, max sx sy = m ∧ ((sx : Int) < (sy : Int) ∧ m = sy ∨ ¬ (sx : Int) < (sy : Int) ∧ m = sx) := ⟨_, rfl, by omega⟩
  rw [hm] at ho ⊢
  have hmx : m ≤ 1048576 := by omega
  have HX := Lib.hid hx
  have HY := Lib.hid hy
  have HO := Lib.hid ho
  have HF := Lib.hid hF
  clear hx hy ho hF hm
  rcases hcmp with ⟨hc, hm⟩ | ⟨hc, hm⟩
  all_goals
    subst hm
    go_enter Tryd.func39, Tryd.ntmps39
    go_wp2_with fail
    refine (size_ptr HX.out).mono ?_
    rintro e w' ⟨rfl, rfl⟩
    go_wp2_with fail
    refine (size_ptr HY.out).mono ?_
    rintro e w' ⟨rfl, rfl⟩
    go_wp2_with fail
    refine (new_any _ _ hmx).mono ?_
    rintro e w1 ⟨g, b, rfl, hg, hb, hgb, hs1, hbel, hrow⟩
    obtain ⟨d, hd⟩ := hs1.head
    have hw1 : w1.cell? ⟨g, 1, none⟩ = some (.slice (some ⟨b, 0, none⟩) (nw m) (nw m)) := hd.cell (i := 1) (by omega)
    have hH : HeadAt w1 g m (some ⟨b, 0, none⟩) d := hd
    have hP0 : PartAt w1 b (nw m) h 0 := hrow.congr fun j _ => by rw [word_none]; rfl
    have hn := nw_le hmx
    clear hd hs1 hrow
    go_wp2_with fail
    go_loopw [20] (fun i wr => ∃ k : Nat, k ≤ nw m ∧ i = .int .i64 k ∧ HeadAt wr g m (some ⟨b, 0, none⟩) d ∧ PartAt wr b (nw m) h k ∧ Below w.heap.size w wr) (fun i _ => nw m - (intOf i).toNat)
    case atStart => exact ⟨0, by omega, rfl, hH, hP0, hbel⟩
    case round =>
      obtain ⟨k, hk, rfl, hH1, hP1, hb1⟩ := hrel
      by_cases hlt : k < nw m
      · have hw2 : wr.cell? ⟨g, 1, none⟩ = some (.slice (some ⟨b, 0, none⟩) (nw m) (nw m)) := World.rowIs.cell hH1 (i := 1) (by omega)
        have hc2 : wr.cell? ⟨b, k, none⟩ = some (.int .u64 (if k < k then word h k else 0)) := World.rowIs.cell hP1 hlt
        have hf2 : wr.frozen? ⟨b, k, none⟩ = false := World.rowIs.frozen hP1 k
        have hi : 0 ≤ (k : Int) ∧ (k : Int) < (nw m : Int) := by omega
        have HX2 := Lib.hid ((HX.out.below hb1).drewN 1)
        have HY2 := Lib.hid ((HY.out.below hb1).drewN 1)
        go_wp2
        refine wp_region_still_tail 14 (by kernel_rfl) (by kernel_rfl) ?_
        simp only [List.take_succ_cons, List.take_zero, List.drop_succ_cons, List.drop_zero]
        change wpStill _ _ (wr.drewN 1) _ _ _
        repeat still_step
        still_call (still_of (word_ptr HX2.out (by omega)))
        repeat still_step
        still_call (still_of (word_ptr HY2.out (by omega)))
        repeat still_step
        still_call (HF.out k _)
        repeat still_step
        refine wpStill_nil ?_
        change wpList _ _ _ _ _ (wr.drewN 1)
        go_wp2
        go_roundw
        case rel => exact ⟨k + 1, by omega, by go_num, World.rowIs.setOther (row_drewN hH1 1) hgb _, PartAt.step (row_drewN hP1 1), (below_drewN hb1 1).setCell hb _⟩
        case measure => simp [intOf]; omega
      · go_wp2
        go_ret
        have e : k = nw m := by omega
        refine ⟨g, b, rfl, hg, hb, hgb, ⟨⟨d, hH1⟩, .inr ⟨b, rfl, World.rowIs.congr hP1 fun j hj => ?_⟩, hmx, HO.out⟩, hb1, World.rowIs.lt hP1⟩
        unfold partF
        rw [if_pos (by omega)]
theorem or_set {w : World} {x y : Value} {sx sy : Nat} {fx fy : Nat → Bool} (hx : PtrAt w x sx fx) (hy : PtrAt w y sy fy) : Calls Tryd.prog 25 #[x, y] w (NewSet (max sx sy) (orF fx fy) w) := by
  have hF : ∀ (k : Nat) (W : World), Calls Tryd.prog 40 #[.int .u64 (word fx k), .int .u64 (word fy k)] W fun e w' => e = .returned (.int .u64 (word (orF fx fy) k)) ∧ w' = W := fun k W => by
    rw [← word_or]; exact or_any (word_lt _ _) (word_lt _ _) W
  have HC := hide_calls (both_any hx hy (fun args W => enter_any Tryd.func40 (by kernel_rfl) rfl args W) hF fun j hj => by unfold orF; rw [hx.out j (by omega), hy.out j (by omega)]; rfl)
  clear hF
  go_enter Tryd.func25, Tryd.ntmps25
  go_wp2_with (go_at_call 39; refine (HC.out).mono ?_; rintro e w' ⟨g, b, rfl, h1, h2, h3, h4, h5, h6⟩)
  go_ret
  exact ⟨g, b, rfl, h1, h2, h3, h4, h5, h6⟩
theorem and_set {w : World} {x y : Value} {sx sy : Nat} {fx fy : Nat → Bool} (hx : PtrAt w x sx fx) (hy : PtrAt w y sy fy) : Calls Tryd.prog 26 #[x, y] w (NewSet (max sx sy) (andF fx fy) w) := by
  have hF : ∀ (k : Nat) (W : World), Calls Tryd.prog 41 #[.int .u64 (word fx k), .int .u64 (word fy k)] W fun e w' => e = .returned (.int .u64 (word (andF fx fy) k)) ∧ w' = W := fun k W => by
    rw [← word_and]; exact and_any (word_lt _ _) (word_lt _ _) W
  have HC := hide_calls (both_any hx hy (fun args W => enter_any Tryd.func41 (by kernel_rfl) rfl args W) hF fun j hj => by unfold andF; rw [hx.out j (by omega)]; rfl)
  clear hF
  go_enter Tryd.func26, Tryd.ntmps26
  go_wp2_with (go_at_call 39; refine (HC.out).mono ?_; rintro e w' ⟨g, b, rfl, h1, h2, h3, h4, h5, h6⟩)
  go_ret
  exact ⟨g, b, rfl, h1, h2, h3, h4, h5, h6⟩
theorem less_set {w : World} {x y : Value} {sx sy : Nat} {fx fy : Nat → Bool} (hx : PtrAt w x sx fx) (hy : PtrAt w y sy fy) : Calls Tryd.prog 27 #[x, y] w (NewSet (max sx sy) (lessF fx fy) w) := by
  have hF : ∀ (k : Nat) (W : World), Calls Tryd.prog 42 #[.int .u64 (word fx k), .int .u64 (word fy k)] W fun e w' => e = .returned (.int .u64 (word (lessF fx fy) k)) ∧ w' = W := fun k W => by
    rw [← word_less]; exact less_any (word_lt _ _) (word_lt _ _) W
  have HC := hide_calls (both_any hx hy (fun args W => enter_any Tryd.func42 (by kernel_rfl) rfl args W) hF fun j hj => by unfold lessF; rw [hx.out j (by omega)]; rfl)
  clear hF
  go_enter Tryd.func27, Tryd.ntmps27
  go_wp2_with (go_at_call 39; refine (HC.out).mono ?_; rintro e w' ⟨g, b, rfl, h1, h2, h3, h4, h5, h6⟩)
  go_ret
  exact ⟨g, b, rfl, h1, h2, h3, h4, h5, h6⟩

/-! ### Same -/
def sameB (f g : Nat → Bool) (n : Nat) : Bool := (List.range n).all fun k => word f k == word g k
theorem sameB_iff {f g : Nat → Bool} {n : Nat} : sameB f g n = true ↔ ∀ j, j < 64 * n → f j = g j := by
  unfold sameB
  rw [List.all_eq_true]
  constructor
  · intro h j hj
    have := h (j / 64) (by simp; omega)
    have e : word f (j / 64) = word g (j / 64) := by simpa using this
    have := congrArg (fun x => x.testBit (j % 64)) e
    simp only [testBit_word] at this
    rw [show 64 * (j / 64) + j % 64 = j by omega] at this
    simpa [show j % 64 < 64 by omega] using this
  · intro h k hk
    have hk' : k < n := by simpa using hk
    simp [word_congr (f := f) (g := g) (k := k) fun j hj => h _ (by omega)]
set_option maxRecDepth 100000 in
set_option maxHeartbeats 1600000 in
theorem same_any {w : World} {x y : Value} {sx sy : Nat} {fx fy : Nat → Bool} (hx : PtrAt w x sx fx) (hy : PtrAt w y sy fy) : Calls Tryd.prog 29 #[x, y] w fun e w' => e = .returned (.bool (sameB fx fy (max (nw sx) (nw sy)))) ∧ w = w' := by
  have hsx := nw_le hx.small
  have hsy := nw_le hy.small
  obtain ⟨m, hm, hcmp⟩ : ∃ m, max (nw sx) (nw sy) = m ∧ ((nw sx : Int) < (nw sy : Int) ∧ nw sy = m ∨ ¬ (nw sx : Int) < (nw sy : Int) ∧ nw sx = m) := ⟨_, rfl, by omega⟩
  rw [hm]
  have hmx : m ≤ 16384 := by omega
  have HX := Lib.hid hx
  have HY := Lib.hid hy
  clear hx hy hm
  rcases hcmp with ⟨hc, hm⟩ | ⟨hc, hm⟩
  all_goals
    go_enter Tryd.func29, Tryd.ntmps29
    go_wp2_with fail
    refine (row_ptr HX.out).mono ?_
    rintro e w' ⟨⟨A, rfl, hA⟩, rfl⟩
    go_wp2_with fail
    refine (row_ptr HY.out).mono ?_
    rintro e w' ⟨⟨A', rfl, hA'⟩, rfl⟩
    go_wp2_with fail
    clear hA hA' hc hm
    go_loop [13] (fun i => ∃ k : Nat, k ≤ m ∧ i = .int .i64 k ∧ Hid (∀ j, j < k → word fx j = word fy j)) (fun i => m - (intOf i).toNat)
    case atStart => exact ⟨0, by omega, rfl, fun j hj => by omega⟩
    case round =>
      obtain ⟨k, hk, rfl, hh⟩ := hrel
      by_cases hlt : k < m
      · by_cases he : word fx k = word fy k
        · have hbb : ((word fx k : Int) != (word fy k : Int)) = false := by simp [he]
          have HE := Lib.hid he
          clear he
          go_wp2_with (go_at_call 44; first
            | ((with_reducible refine (word_ptr HX.out (by omega)).mono ?_); rintro e w' ⟨rfl, rfl⟩)
            | ((with_reducible refine (word_ptr HY.out (by omega)).mono ?_); rintro e w' ⟨rfl, rfl⟩))
          go_round
          case rel =>
            refine ⟨k + 1, by omega, by go_num, fun j hj => ?_⟩
            by_cases e : j = k
            · rw [e]; exact HE.out
            · exact hh.out j (by omega)
          case measure => simp [intOf]; omega
        · have hbb : ((word fx k : Int) != (word fy k : Int)) = true := by simp; omega
          have HE : Hid (sameB fx fy m = false) := by
            show _ = _
            unfold sameB
            rw [List.all_eq_false]
            exact ⟨k, by simpa using hlt, by simpa using he⟩
          clear he
          go_wp2_with (go_at_call 44; first
            | ((with_reducible refine (word_ptr HX.out (by omega)).mono ?_); rintro e w' ⟨rfl, rfl⟩)
            | ((with_reducible refine (word_ptr HY.out (by omega)).mono ?_); rintro e w' ⟨rfl, rfl⟩))
          go_ret
          exact ⟨ret_bool HE.out.symm, rfl⟩
      · go_wp2
        go_ret
        refine ⟨ret_bool ?_, rfl⟩
        symm
        unfold sameB
        rw [List.all_eq_true]
        intro j hj
        simp [hh.out j (by have : j < m := by simpa using hj
                           omega)]
end Go.Proofs.YtopnogmfdkhlkaaDoor
