/- The walk of BitsMixes. -/
import Derived.Test.YtopnogmfdkhlkaaDoorBitsWorks
import Derived.Deep.RegionHeld3
namespace Go.Proofs.YtopnogmfdkhlkaaDoor
open Go.RowKit

/-! ### plain facts -/
theorem listV_both {f : Nat → Bool} {n m : Nat} (h : ∀ j, n ≤ j → f j = false) (hm : ∀ j, m ≤ j → f j = false) : listV f n = listV f m := by
  rcases Nat.le_total n m with h1 | h1
  · exact (listV_more (fun j h2 _ => h j h2) h1).symm
  · exact listV_more (fun j h2 _ => hm j h2) h1
theorem same_iff {f g : Nat → Bool} {n m : Nat} (hf : ∀ j, n ≤ j → f j = false) (hg : ∀ j, m ≤ j → g j = false) : listV f n = listV g m ↔ ∀ j, f j = g j := by
  constructor
  · intro h j
    have h1 := mem_listV (f := f) (n := n) (x := j)
    have h2 := mem_listV (f := g) (n := m) (x := j)
    rw [h] at h1
    have h3 := h1.symm.trans h2
    cases e1 : f j <;> cases e2 : g j
    · rfl
    · rw [e1, e2] at h3
      have hj : j < m := by
        rcases Nat.lt_or_ge j m with h | h
        · exact h
        · rw [hg j h] at e2; cases e2
      have := (h3.2 ⟨hj, rfl⟩).2
      cases this
    · rw [e1, e2] at h3
      have hj : j < n := by
        rcases Nat.lt_or_ge j n with h | h
        · exact h
        · rw [hf j h] at e1; cases e1
      have := (h3.1 ⟨hj, rfl⟩).2
      cases this
    · rfl
  · intro h
    have e : f = g := funext h
    subst e
    exact listV_both hf hg
theorem same_eq {f g : Nat → Bool} {n m : Nat} (hf : ∀ j, n ≤ j → f j = false) (hg : ∀ j, m ≤ j → g j = false) : sameB f g (max (nw n) (nw m)) = sameInts (ints (listV f n)) (ints (listV g m)) := by
  rw [Bool.eq_iff_iff, sameB_iff]
  unfold sameInts
  rw [decide_eq_true_iff, ints_inj, same_iff hf hg]
  constructor
  · intro h j
    by_cases hj : j < 64 * max (nw n) (nw m)
    · exact h j hj
    · have h1 := nw_more n
      have h2 := nw_more m
      rw [hf j (by omega), hg j (by omega)]
  · intro h j _
    exact h j
theorem same_self {f : Nat → Bool} {n : Nat} : sameB f f n = true := sameB_iff.2 fun _ _ => rfl
theorem or_out {f g : Nat → Bool} {n m : Nat} (hf : ∀ j, n ≤ j → f j = false) (hg : ∀ j, m ≤ j → g j = false) : ∀ j, max n m ≤ j → orF f g j = false := fun j hj => by unfold orF; rw [hf j (by omega), hg j (by omega)]; rfl

/-! ### what is there when all has been made -/
structure Mx (w W : World) (k0 k1 k2 k3 k4 k5 k6 k7 k8 : Nat) (x y o p q z : Value) (A B : Option Addr) (nx ny m : Nat) (fx fy : Nat → Bool) : Prop where
  hx : SetIn W k0 k1 x nx fx
  hy : SetIn W k1 k2 y ny fy
  hl : IntsIn W k2 k3 A (ints (listV fx nx))
  hm : IntsIn W k3 k4 B (ints (listV fy ny))
  ho : SetIn W k4 k5 o m (orF fx fy)
  hp : SetIn W k5 k6 p m (andF fx fy)
  hq : SetIn W k6 k7 q m (lessF fx fy)
  hz : SetIn W k7 k8 z nx (orF none_ fx)
  below : Below w.heap.size w W
  ord : 0 < w.heap.size ∧ w.heap.size ≤ k0 ∧ k0 ≤ k1 ∧ k1 ≤ k2 ∧ k2 ≤ k3 ∧ k3 ≤ k4 ∧ k4 ≤ k5 ∧ k5 ≤ k6 ∧ k6 ≤ k7 ∧ k7 ≤ k8
section
variable {w W W' : World} {k0 k1 k2 k3 k4 k5 k6 k7 k8 : Nat} {x y o p q z : Value} {A B : Option Addr} {nx ny m : Nat} {fx fy : Nat → Bool}
theorem Mx.tab (h : Mx w W k0 k1 k2 k3 k4 k5 k6 k7 k8 x y o p q z A B nx ny m fx fy) (hT : TabOk w) : TabOk W := hT.below h.below h.ord.1
theorem Mx.new (h : Mx w W k0 k1 k2 k3 k4 k5 k6 k7 k8 x y o p q z A B nx ny m fx fy) (c : Chg 0 0 W W') : Mx w W' k0 k1 k2 k3 k4 k5 k6 k7 k8 x y o p q z A B nx ny m fx fy :=
  ⟨h.hx.chg c (by omega), h.hy.chg c (by omega), h.hl.chg c (by omega), h.hm.chg c (by omega), h.ho.chg c (by omega), h.hp.chg c (by omega), h.hq.chg c (by omega), h.hz.chg c (by omega), c.below h.below h.below.size (by omega), h.ord⟩
theorem Mx.atx (h : Mx w W k0 k1 k2 k3 k4 k5 k6 k7 k8 x y o p q z A B nx ny m fx fy) (s : SetIn W' k0 k1 x nx fx) (c : Chg k0 k1 W W') : Mx w W' k0 k1 k2 k3 k4 k5 k6 k7 k8 x y o p q z A B nx ny m fx fy := by
  have := h.ord
  exact ⟨s, h.hy.chg c (by omega), h.hl.chg c (by omega), h.hm.chg c (by omega), h.ho.chg c (by omega), h.hp.chg c (by omega), h.hq.chg c (by omega), h.hz.chg c (by omega), c.below h.below h.below.size (by omega), h.ord⟩
theorem Mx.aty (h : Mx w W k0 k1 k2 k3 k4 k5 k6 k7 k8 x y o p q z A B nx ny m fx fy) (s : SetIn W' k1 k2 y ny fy) (c : Chg k1 k2 W W') : Mx w W' k0 k1 k2 k3 k4 k5 k6 k7 k8 x y o p q z A B nx ny m fx fy := by
  have := h.ord
  exact ⟨h.hx.chg c (by omega), s, h.hl.chg c (by omega), h.hm.chg c (by omega), h.ho.chg c (by omega), h.hp.chg c (by omega), h.hq.chg c (by omega), h.hz.chg c (by omega), c.below h.below h.below.size (by omega), h.ord⟩
theorem Mx.ato (h : Mx w W k0 k1 k2 k3 k4 k5 k6 k7 k8 x y o p q z A B nx ny m fx fy) (s : SetIn W' k4 k5 o m (orF fx fy)) (c : Chg k4 k5 W W') : Mx w W' k0 k1 k2 k3 k4 k5 k6 k7 k8 x y o p q z A B nx ny m fx fy := by
  have := h.ord
  exact ⟨h.hx.chg c (by omega), h.hy.chg c (by omega), h.hl.chg c (by omega), h.hm.chg c (by omega), s, h.hp.chg c (by omega), h.hq.chg c (by omega), h.hz.chg c (by omega), c.below h.below h.below.size (by omega), h.ord⟩
theorem Mx.atp (h : Mx w W k0 k1 k2 k3 k4 k5 k6 k7 k8 x y o p q z A B nx ny m fx fy) (s : SetIn W' k5 k6 p m (andF fx fy)) (c : Chg k5 k6 W W') : Mx w W' k0 k1 k2 k3 k4 k5 k6 k7 k8 x y o p q z A B nx ny m fx fy := by
  have := h.ord
  exact ⟨h.hx.chg c (by omega), h.hy.chg c (by omega), h.hl.chg c (by omega), h.hm.chg c (by omega), h.ho.chg c (by omega), s, h.hq.chg c (by omega), h.hz.chg c (by omega), c.below h.below h.below.size (by omega), h.ord⟩
theorem Mx.atq (h : Mx w W k0 k1 k2 k3 k4 k5 k6 k7 k8 x y o p q z A B nx ny m fx fy) (s : SetIn W' k6 k7 q m (lessF fx fy)) (c : Chg k6 k7 W W') : Mx w W' k0 k1 k2 k3 k4 k5 k6 k7 k8 x y o p q z A B nx ny m fx fy := by
  have := h.ord
  exact ⟨h.hx.chg c (by omega), h.hy.chg c (by omega), h.hl.chg c (by omega), h.hm.chg c (by omega), h.ho.chg c (by omega), h.hp.chg c (by omega), s, h.hz.chg c (by omega), c.below h.below h.below.size (by omega), h.ord⟩
theorem Mx.atz (h : Mx w W k0 k1 k2 k3 k4 k5 k6 k7 k8 x y o p q z A B nx ny m fx fy) (s : SetIn W' k7 k8 z nx (orF none_ fx)) (c : Chg k7 k8 W W') : Mx w W' k0 k1 k2 k3 k4 k5 k6 k7 k8 x y o p q z A B nx ny m fx fy := by
  have := h.ord
  exact ⟨h.hx.chg c (by omega), h.hy.chg c (by omega), h.hl.chg c (by omega), h.hm.chg c (by omega), h.ho.chg c (by omega), h.hp.chg c (by omega), h.hq.chg c (by omega), s, c.below h.below h.below.size (by omega), h.ord⟩
end
theorem Chg.cell {lo hi b i : Nat} {w w' : World} {v : Value} (h : Chg lo hi w w') (hb : ¬ (lo ≤ b ∧ b < hi)) (hc : w.cell? ⟨b, i, none⟩ = some v) : w'.cell? ⟨b, i, none⟩ = some v :=
  (World.cell?_of_block (w := w) (a := ⟨b, i, none⟩) (h.block b (World.block_lt_of_cell? w ⟨b, i, none⟩ hc) hb)).trans hc
theorem same_set {w : World} {x y : Value} {sx sy : Nat} {fx fy : Nat → Bool} (hx : PtrAt w x sx fx) (hy : PtrAt w y sy fy) {r : Bool} (hr : sameB fx fy (max (nw sx) (nw sy)) = r) : Calls Tryd.prog 29 #[x, y] w fun e w' => e = .returned (.bool r) ∧ w = w' := by
  rw [← hr]; exact same_any hx hy
theorem ptr_nil (w : World) : PtrAt w (.pointer none) 0 none_ := .inl ⟨rfl, rfl, rfl⟩
theorem len_ok (f : Nat → Bool) (n : Nat) (h : n ≤ 1048576) : (ints (listV f n)).length ≤ 9223372036854775807 := by
  rw [ints_length, listV_length]
  have := cnt_le f n
  omega
theorem cnt_ints (f : Nat → Bool) (n : Nat) : cnt f n = (ints (listV f n)).length := by rw [ints_length, listV_length]
theorem same_lists {f g : Nat → Bool} {n m : Nat} (h : listV f n = listV g m) : sameInts (ints (listV f n)) (ints (listV g m)) = true := by unfold sameInts; rw [h]; simp
def Mid (w : World) (A B : Option Addr) (xs ys : List Nat) (W : World) : Prop := BytesAt W A xs ∧ BytesAt W B ys ∧ Below w.heap.size w W ∧ w.heap.size < W.heap.size
theorem Mid.below {w W W' : World} {A B : Option Addr} {xs ys : List Nat} (h : Mid w A B xs ys W) (hb : Below W.heap.size W W') : Mid w A B xs ys W' :=
  ⟨h.1.below hb, h.2.1.below hb, h.2.2.1.trans (hb.mono h.2.2.1.size), Nat.lt_of_lt_of_le h.2.2.2 hb.size⟩
theorem Mid.ba {w W : World} {A B : Option Addr} {xs ys : List Nat} (h : Mid w A B xs ys W) : BytesAt W A xs := h.1
theorem Mid.bb {w W : World} {A B : Option Addr} {xs ys : List Nat} (h : Mid w A B xs ys W) : BytesAt W B ys := h.2.1
theorem Mid.bel {w W : World} {A B : Option Addr} {xs ys : List Nat} (h : Mid w A B xs ys W) : Below w.heap.size w W := h.2.2.1
theorem Mid.lt {w W : World} {A B : Option Addr} {xs ys : List Nat} (h : Mid w A B xs ys W) : w.heap.size < W.heap.size := h.2.2.2
theorem Mid.drew {w W : World} {A B : Option Addr} {xs ys : List Nat} (h : Mid w A B xs ys W) : Mid w A B xs ys W.drew := h.below ((Below.refl _ _).drew)
theorem Mid.cell {w W W' : World} {A B : Option Addr} {xs ys : List Nat} (h : Mid w A B xs ys W) (hb : Below W.heap.size W W') {i : Nat} {v : Value} (hc : W.cell? ⟨w.heap.size, i, none⟩ = some v) : W'.cell? ⟨w.heap.size, i, none⟩ = some v :=
  (hb.cell (p := ⟨w.heap.size, i, none⟩) h.2.2.2).trans hc
set_option maxRecDepth 100000 in
set_option maxHeartbeats 3200000 in
theorem mixes_any {w : World} {A B : Option Addr} {xs ys : List Nat} {la lb ca cb n0 n1 : Nat} (ha : BytesAt w A xs) (hb : BytesAt w B ys) (hla : la = xs.length) (hlb : lb = ys.length) (hla2 : la ≤ 9223372036854775807) (hlb2 : lb ≤ 9223372036854775807) (h0n : n0 < 256) (h1n : n1 < 256) (hT : TabOk w) :
    Calls Tryd.prog 6 #[.slice A la ca, .slice B lb cb, .agg #[.int .u8 n0, .int .u8 n1]] w (TrueBelow w) := by
  have h0 := hT.lt
  have hnot := not_any
  by_cases hbig : 100 < (la : Int)
  · go_enter Tryd.func6, Tryd.ntmps6
    go_wp2_with (go_at_call 7; refine (works_any (hT.alloc _)).mono ?_; rintro e w' ⟨rfl, hb⟩)
    go_ret
    exact ⟨rfl, ((Below.refl _ _).alloc (Nat.le_refl _) _).trans (hb.mono (by simp))⟩
  · by_cases hbig2 : 100 < (lb : Int)
    · go_enter Tryd.func6, Tryd.ntmps6
      go_wp2_with (go_at_call 7; refine (works_any (hT.alloc _)).mono ?_; rintro e w' ⟨rfl, hb⟩)
      go_ret
      exact ⟨rfl, ((Below.refl _ _).alloc (Nat.le_refl _) _).trans (hb.mono (by simp))⟩
    · have hfx := (fun j hj => by unfold putsF; rw [decide_eq_false (by omega)]; rfl : ∀ j, n0 ≤ j → putsF n0 xs j = false)
      have hfy := (fun j hj => by unfold putsF; rw [decide_eq_false (by omega)]; rfl : ∀ j, n1 ≤ j → putsF n1 ys j = false)
      obtain ⟨mx, hm, hcmp⟩ : ∃ mx, max n0 n1 = mx ∧ ((n0 : Int) < (n1 : Int) ∧ n1 = mx ∨ ¬ (n0 : Int) < (n1 : Int) ∧ n0 = mx) := ⟨_, rfl, by omega⟩
      have hmx : mx ≤ 256 := by omega
      have HXO := Lib.hid hfx
      have HYO := Lib.hid hfy
      have HM := Lib.hid hm
      have HLA := Lib.hid hla
      have HLB := Lib.hid hlb
      have hal0 : (w.alloc (.cells #[.int .u8 (n0 : Int), .int .u8 (n1 : Int)] 55)).cell? ⟨w.heap.size, 0, none⟩ = some (.int .u8 (n0 : Int)) := by simp
      have hmid : Mid w A B xs ys (w.alloc (.cells #[.int .u8 (n0 : Int), .int .u8 (n1 : Int)] 55)) :=
        ⟨ha.below ((Below.refl _ _).alloc (Nat.le_refl _) _), hb.below ((Below.refl _ _).alloc (Nat.le_refl _) _), (Below.refl _ _).alloc (Nat.le_refl _) _, by simp⟩
      clear hfx hfy hm hla hlb ha hb hal0
      have hw0 : IntKind.i64.wrap (n0 : Int) = (n0 : Int) := IntWalk.i64_in _ (by omega)
      have hw1 : IntKind.i64.wrap (n1 : Int) = (n1 : Int) := IntWalk.i64_in _ (by omega)
      obtain ⟨sm, hsm⟩ : ∃ sm, sameInts (ints (listV (putsF n0 xs) n0)) (ints (listV (putsF n1 ys) n1)) = sm := ⟨_, rfl⟩
      have HSM := Lib.hid hsm
      have HM1 : Hid (listV (orF (putsF n0 xs) (putsF n1 ys)) mx = listV (mixF 1 (putsF n0 xs) (putsF n1 ys)) 256) := listV_both (f := orF (putsF n0 xs) (putsF n1 ys)) (fun j hj => or_out HXO.out HYO.out j (by rw [HM.out]; exact hj)) (fun j hj => or_out HXO.out HYO.out j (by omega))
      have HM2 : Hid (listV (andF (putsF n0 xs) (putsF n1 ys)) mx = listV (mixF 2 (putsF n0 xs) (putsF n1 ys)) 256) := listV_both (f := andF (putsF n0 xs) (putsF n1 ys)) (fun j hj => by unfold andF; rw [HXO.out j (by have := HM.out; omega)]; rfl) (fun j hj => by unfold andF; rw [HXO.out j (by omega)]; rfl)
      have HM3 : Hid (listV (lessF (putsF n0 xs) (putsF n1 ys)) mx = listV (mixF 3 (putsF n0 xs) (putsF n1 ys)) 256) := listV_both (f := lessF (putsF n0 xs) (putsF n1 ys)) (fun j hj => by unfold lessF; rw [HXO.out j (by have := HM.out; omega)]; rfl) (fun j hj => by unfold lessF; rw [HXO.out j (by omega)]; rfl)
      have HZ : Hid (listV (orF none_ (putsF n0 xs)) n0 = listV (putsF n0 xs) n0) := listV_congr fun j _ => rfl
      have hmaxI : max (n0 : Int) (n1 : Int) = (mx : Int) := by have := HM.out; omega
      clear hsm
      rcases hcmp with ⟨hc, hm⟩ | ⟨hc, hm⟩
      all_goals
        subst hm
        go_enter Tryd.func6, Tryd.ntmps6
        go_wp2
        go_region_held3 (fun W => W.cell? ⟨w.heap.size, 0, none⟩ = some (.int .u8 (n0 : Int)) ∧ W.cell? ⟨w.heap.size, 1, none⟩ = some (.int .u8 (n1 : Int)) ∧ Mid w A B xs ys W)
          (first | exact ⟨by assumption, by assumption, by assumption⟩ | exact ⟨by simp, by simp, hmid.drew⟩)
          (first
            | (go_at_call 24
               rename World.cell? _ ⟨w.heap.size, 0, none⟩ = _ ∧ _ ∧ Mid w A B xs ys _ => hS
               obtain ⟨q0, q1, q2⟩ := hS
               first
                 | ((with_reducible refine (made_any q2.ba HLA.out hla2 (by omega)).mono ?_); rintro e w1 ⟨g1, rfl, s1, b1⟩
                    have C10 := q2.cell b1 q0
                    have C11 := q2.cell b1 q1
                    have S1 := q2.below b1
                    have K0 := q2.lt)
                 | ((with_reducible refine (made_any q2.bb HLB.out hlb2 (by omega)).mono ?_); rintro e w2 ⟨g2, rfl, s2, b2⟩
                    have C20 := q2.cell b2 q0
                    have C21 := q2.cell b2 q1
                    have S2 := q2.below b2)))
        have K1 := b1.size
        have K2 := b2.size
        have sx2 := s1.chg (Chg.of_below (lo := 0) (hi := 0) b2) (by omega)
        have bel2 := S2.bel
        have t2 : TabOk w2 := hT.below bel2 h0
        generalize hfx : putsF n0 xs = fx at *
        generalize hfy : putsF n1 ys = fy at *
        clear hfx hfy S2 s1 C10 C11 S1 hmid
        go_wp2_with fail
        refine (list_at sx2 t2 (by omega)).mono ?_
        rintro e W3 ⟨A3, c3, rfl, l3, sx3, h3⟩
        have sy3 := s2.chg h3 (by omega)
        have bel3 := h3.below bel2 bel2.size (.inl (by omega))
        have t3 : TabOk W3 := hT.below bel3 h0
        have C30 := h3.cell (by omega) C20
        have C31 := h3.cell (by omega) C21
        have K3 := h3.size
        clear sx2 s2 bel2 t2 C20 C21 h3
        go_wp2_with fail
        refine (list_at sy3 t3 (by omega)).mono ?_
        rintro e W4 ⟨A4, c4, rfl, l4, sy4, h4⟩
        have sx4 := sx3.chg h4 (by omega)
        have lx4 := l3.chg h4 (by omega)
        have bel4 := h4.below bel3 bel3.size (.inl (by omega))
        have C40 := h4.cell (by omega) C30
        have C41 := h4.cell (by omega) C31
        have K4 := h4.size
        clear sx3 sy3 l3 bel3 t3 C30 C31 h4
        go_wp2_with fail
        refine (or_set sx4.ptr sy4.ptr).mono ?_
        intro e W5 hN
        obtain ⟨g5, rfl, so5, b5⟩ := newset_in hN
        rw [HM.out] at so5
        have sx5 := sx4.chg (Chg.of_below (lo := 0) (hi := 0) b5) (by omega)
        have sy5 := sy4.chg (Chg.of_below (lo := 0) (hi := 0) b5) (by omega)
        have lx5 := lx4.chg (Chg.of_below (lo := 0) (hi := 0) b5) (by omega)
        have ly5 := l4.chg (Chg.of_below (lo := 0) (hi := 0) b5) (by omega)
        have bel5 := bel4.trans (b5.mono bel4.size)
        have K5 := b5.size
        clear hN sx4 sy4 lx4 l4 bel4 b5 C40 C41
        go_wp2_with fail
        refine (and_set sx5.ptr sy5.ptr).mono ?_
        intro e W6 hN
        obtain ⟨g6, rfl, sp6, b6⟩ := newset_in hN
        rw [HM.out] at sp6
        have sx6 := sx5.chg (Chg.of_below (lo := 0) (hi := 0) b6) (by omega)
        have sy6 := sy5.chg (Chg.of_below (lo := 0) (hi := 0) b6) (by omega)
        have lx6 := lx5.chg (Chg.of_below (lo := 0) (hi := 0) b6) (by omega)
        have ly6 := ly5.chg (Chg.of_below (lo := 0) (hi := 0) b6) (by omega)
        have so6 := so5.chg (Chg.of_below (lo := 0) (hi := 0) b6) (by omega)
        have bel6 := bel5.trans (b6.mono bel5.size)
        have K6 := b6.size
        clear hN sx5 sy5 lx5 ly5 so5 bel5 b6
        go_wp2_with fail
        refine (less_set sx6.ptr sy6.ptr).mono ?_
        intro e W7 hN
        obtain ⟨g7, rfl, sq7, b7⟩ := newset_in hN
        rw [HM.out] at sq7
        have sx7 := sx6.chg (Chg.of_below (lo := 0) (hi := 0) b7) (by omega)
        have sy7 := sy6.chg (Chg.of_below (lo := 0) (hi := 0) b7) (by omega)
        have lx7 := lx6.chg (Chg.of_below (lo := 0) (hi := 0) b7) (by omega)
        have ly7 := ly6.chg (Chg.of_below (lo := 0) (hi := 0) b7) (by omega)
        have so7 := so6.chg (Chg.of_below (lo := 0) (hi := 0) b7) (by omega)
        have sp7 := sp6.chg (Chg.of_below (lo := 0) (hi := 0) b7) (by omega)
        have bel7 := bel6.trans (b7.mono bel6.size)
        have K7 := b7.size
        clear hN sx6 sy6 lx6 ly6 so6 sp6 bel6 b7
        go_wp2_with fail
        refine (same_is lx7.1 ly7.1 (cnt_ints _ _) (cnt_ints _ _) (len_ok _ _ (by omega)) HSM.out).mono ?_
        rintro e w' ⟨rfl, m1, rfl⟩
        go_wp2_with fail
        refine (or_set (ptr_nil _) (sx7.ptr.drewN m1)).mono ?_
        intro e W9 hN
        obtain ⟨g9, rfl, sz9, b9⟩ := newset_in hN
        rw [Nat.zero_max] at sz9
        have h9 : Chg 0 0 W7 W9 := (Chg.drewN 0 0 W7 m1).trans (Chg.of_below b9)
        have M9 : Mx w W9 _ _ _ _ _ _ _ _ _ _ _ _ _ _ _ _ _ _ _ _ fx fy := ⟨sx7.chg h9 (by omega), sy7.chg h9 (by omega), lx7.chg h9 (by omega), ly7.chg h9 (by omega), so7.chg h9 (by omega), sp7.chg h9 (by omega), sq7.chg h9 (by omega), sz9, h9.below bel7 bel7.size (by omega), ⟨h0, by omega, K1, K2, K3, K4, K5, K6, K7, b9.size⟩⟩
        clear hN sx7 sy7 lx7 ly7 so7 sp7 sq7 sz9 b9 h9 bel7 K0 K1 K2 K3 K4 K5 K6 K7 b1 b2 q0 q1 q2 hbig hbig2 hw0 hw1
        go_wp2_with fail
        refine (list_at M9.ho (M9.tab hT) (by have := M9.ord; omega)).mono ?_
        rintro e V9 ⟨X9, d9, rfl, u9, v9, r9⟩
        have N9 := M9.ato v9 r9
        clear M9 v9 r9
        go_wp2_with fail
        refine (rmix_any N9.hl.1 N9.hm.1 HXO.out HYO.out (by omega) (by omega) 1 (by omega)).mono ?_
        rintro e U9 ⟨V, rfl, ow, bw⟩
        obtain ⟨Y9, e9, rfl, y9⟩ := own_in ow
        have u9' := u9.chg (Chg.of_below (lo := 0) (hi := 0) bw) (by omega)
        have O9 := N9.new (Chg.of_below bw)
        clear N9 u9 ow bw
        go_wp2_with fail
        refine (same_is (r := true) u9'.1 y9.1 (cnt_ints _ _) (by rw [ints_length]) (len_ok _ _ (by omega)) (same_lists HM1.out)).mono ?_
        rintro e w' ⟨rfl, j9, rfl⟩
        have M10 := O9.new (Chg.drewN 0 0 U9 j9)
        clear O9 u9' y9
        generalize U9.drewN j9 = T9 at *
        go_wp2_with fail
        refine (list_at M10.hp (M10.tab hT) (by have := M10.ord; omega)).mono ?_
        rintro e V10 ⟨X10, d10, rfl, u10, v10, r10⟩
        have N10 := M10.atp v10 r10
        clear M10 v10 r10
        go_wp2_with fail
        refine (rmix_any N10.hl.1 N10.hm.1 HXO.out HYO.out (by omega) (by omega) 2 (by omega)).mono ?_
        rintro e U10 ⟨V, rfl, ow, bw⟩
        obtain ⟨Y10, e10, rfl, y10⟩ := own_in ow
        have u10' := u10.chg (Chg.of_below (lo := 0) (hi := 0) bw) (by omega)
        have O10 := N10.new (Chg.of_below bw)
        clear N10 u10 ow bw
        go_wp2_with fail
        refine (same_is (r := true) u10'.1 y10.1 (cnt_ints _ _) (by rw [ints_length]) (len_ok _ _ (by omega)) (same_lists HM2.out)).mono ?_
        rintro e w' ⟨rfl, j10, rfl⟩
        have M11 := O10.new (Chg.drewN 0 0 U10 j10)
        clear O10 u10' y10
        generalize U10.drewN j10 = T10 at *
        go_wp2_with fail
        refine (list_at M11.hq (M11.tab hT) (by have := M11.ord; omega)).mono ?_
        rintro e V11 ⟨X11, d11, rfl, u11, v11, r11⟩
        have N11 := M11.atq v11 r11
        clear M11 v11 r11
        go_wp2_with fail
        refine (rmix_any N11.hl.1 N11.hm.1 HXO.out HYO.out (by omega) (by omega) 3 (by omega)).mono ?_
        rintro e U11 ⟨V, rfl, ow, bw⟩
        obtain ⟨Y11, e11, rfl, y11⟩ := own_in ow
        have u11' := u11.chg (Chg.of_below (lo := 0) (hi := 0) bw) (by omega)
        have O11 := N11.new (Chg.of_below bw)
        clear N11 u11 ow bw
        go_wp2_with fail
        refine (same_is (r := true) u11'.1 y11.1 (cnt_ints _ _) (by rw [ints_length]) (len_ok _ _ (by omega)) (same_lists HM3.out)).mono ?_
        rintro e w' ⟨rfl, j11, rfl⟩
        have M12 := O11.new (Chg.drewN 0 0 U11 j11)
        clear O11 u11' y11
        generalize U11.drewN j11 = T11 at *
        go_wp2_with fail
        refine (size_at M12.ho).mono ?_
        rintro e w' ⟨rfl, rfl⟩
        go_wp2_with fail
        refine (size_at M12.hp).mono ?_
        rintro e w' ⟨rfl, rfl⟩
        go_wp2_with fail
        refine (size_at M12.hq).mono ?_
        rintro e w' ⟨rfl, rfl⟩
        go_wp2_with fail
        refine (same_set M12.hx.ptr M12.hy.ptr ((same_eq HXO.out HYO.out).trans HSM.out)).mono ?_
        rintro e w' ⟨rfl, rfl⟩
        go_wp2_with fail
        refine (same_set M12.ho.ptr M12.ho.ptr same_self).mono ?_
        rintro e w' ⟨rfl, rfl⟩
        go_wp2_with fail
        refine (list_at M12.hx (M12.tab hT) (by have := M12.ord; omega)).mono ?_
        rintro e V12 ⟨X12, d12, rfl, u12, v12, r12⟩
        have N12 := M12.atx v12 r12
        clear M12 v12 r12
        go_wp2_with fail
        refine (same_is (r := true) u12.1 N12.hl.1 (cnt_ints _ _) (cnt_ints _ _) (len_ok _ _ (by omega)) (same_lists rfl)).mono ?_
        rintro e w' ⟨rfl, j12, rfl⟩
        have M13 := N12.new (Chg.drewN 0 0 V12 j12)
        clear N12 u12
        generalize V12.drewN j12 = T12 at *
        go_wp2_with fail
        refine (list_at M13.hy (M13.tab hT) (by have := M13.ord; omega)).mono ?_
        rintro e V13 ⟨X13, d13, rfl, u13, v13, r13⟩
        have N13 := M13.aty v13 r13
        clear M13 v13 r13
        go_wp2_with fail
        refine (same_is (r := true) u13.1 N13.hm.1 (cnt_ints _ _) (cnt_ints _ _) (len_ok _ _ (by omega)) (same_lists rfl)).mono ?_
        rintro e w' ⟨rfl, j13, rfl⟩
        have M14 := N13.new (Chg.drewN 0 0 V13 j13)
        clear N13 u13
        generalize V13.drewN j13 = T13 at *
        go_wp2_with fail
        refine (list_at M14.hz (M14.tab hT) (by have := M14.ord; omega)).mono ?_
        rintro e V14 ⟨X14, d14, rfl, u14, v14, r14⟩
        have N14 := M14.atz v14 r14
        clear M14 v14 r14
        go_wp2_with fail
        refine (same_is (r := true) u14.1 N14.hl.1 (cnt_ints _ _) (cnt_ints _ _) (len_ok _ _ (by omega)) (same_lists HZ.out)).mono ?_
        rintro e w' ⟨rfl, j14, rfl⟩
        have M15 := N14.new (Chg.drewN 0 0 V14 j14)
        clear N14 u14
        generalize V14.drewN j14 = T14 at *
        go_wp2_with fail
        refine (works_any (M15.tab hT)).mono ?_
        rintro e W99 ⟨rfl, b99⟩
        go_wp2
        go_ret
        exact ⟨rfl, M15.below.trans (b99.mono M15.below.size)⟩
end Go.Proofs.YtopnogmfdkhlkaaDoor
