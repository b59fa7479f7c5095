/- The walk of ChainPlays. (gen_plays.py writes this text.) -/
import Derived.Test.YtffpnpcbfogemaaChainJoinsW
import Derived.Test.YtffpnpcbfogemaaBaseMix
namespace Go.Proofs.Ytffpnpcbfogemaa
open Go.RowKit

/-- A slice of calls: is it Drop, the list, the node. -/
def ActsAt (w : World) (A : Option Addr) (acs : List (Bool × Int × Int)) : Prop := acs = [] ∨ ∃ b off, A = some ⟨b, off, none⟩ ∧ b < w.heap.size ∧ ∀ (k : Nat) (p : Bool × Int × Int), acs[k]? = some p →
  w.cell? ⟨b, off + k * 3, none⟩ = some (.bool p.1) ∧ w.cell? ⟨b, off + k * 3 + 1, none⟩ = some (.int .i64 p.2.1) ∧ w.cell? ⟨b, off + k * 3 + 2, none⟩ = some (.int .i64 p.2.2)
theorem ActsAt.at_ {w : World} {A : Option Addr} {acs : List (Bool × Int × Int)} (h : ActsAt w A acs) {k : Nat} (hk : k < acs.length) : ∃ b off d li nd, A = some ⟨b, off, none⟩ ∧ b < w.heap.size ∧
    w.cell? ⟨b, off + k * 3, none⟩ = some (.bool d) ∧ w.cell? ⟨b, off + k * 3 + 1, none⟩ = some (.int .i64 li) ∧ w.cell? ⟨b, off + k * 3 + 2, none⟩ = some (.int .i64 nd) := by
  rcases h with h | ⟨b, off, e, hb, hc⟩
  · subst h; simp at hk
  · obtain ⟨h1, h2, h3⟩ := hc k _ (List.getElem?_eq_getElem hk)
    exact ⟨b, off, _, _, _, e, hb, h1, h2, h3⟩
open Classical in
noncomputable def boolOf (v : Value) : Bool := if h : ∃ b, v = .bool b then h.choose else false
open Classical in
noncomputable def intOf' (v : Value) : Int := if h : ∃ n, v = .int .i64 n then h.choose else 0
theorem boolOf_is {v : Value} (h : KindIs none v) : v = .bool (boolOf v) := by
  unfold boolOf
  have h' : ∃ b, v = .bool b := h
  rw [dif_pos h']
  exact h'.choose_spec
theorem intOf_is {v : Value} (h : KindIs (some .i64) v) : v = .int .i64 (intOf' v) := by
  unfold intOf'
  have h' : ∃ n, v = .int .i64 n := let ⟨n, e, _⟩ := h; ⟨n, e⟩
  rw [dif_pos h']
  exact h'.choose_spec
theorem mix_acts {w : World} {a : Option Addr} {len cap : Nat} {f : Nat → Nat → Value} (h : MixIn w a len cap [none, some .i64, some .i64] f) : ∃ acs, ActsAt w a acs ∧ len = acs.length := by
  refine ⟨(List.range len).map fun i => (boolOf (f i 0), intOf' (f i 1), intOf' (f i 2)), ?_, by simp⟩
  by_cases h0 : len = 0
  · subst h0; exact .inl rfl
  · obtain ⟨b, off, e, hb, hc⟩ := h.cells (by simp) (by omega)
    refine .inr ⟨b, off, e, hb, fun k p hp => ?_⟩
    have hk : k < len := by
      have := (List.getElem?_eq_some_iff.1 hp).1
      simpa using this
    rw [List.getElem?_map, List.getElem?_range hk] at hp
    injection hp with hp
    subst hp
    obtain ⟨a0, b0⟩ := hc k 0 none hk rfl
    obtain ⟨a1, b1⟩ := hc k 1 (some .i64) hk rfl
    obtain ⟨a2, b2⟩ := hc k 2 (some .i64) hk rfl
    rw [boolOf_is b0] at a0
    rw [intOf_is b1] at a1
    rw [intOf_is b2] at a2
    exact ⟨a0, a1, a2⟩
/-- The cells of one call, in a block of its own. -/
def actF (d : Bool) (li nd : Int) : Nat → Value
  | 0 => .bool d
  | 1 => .int .i64 li
  | _ => .int .i64 nd
theorem act_row (w : World) (d : Bool) (li nd : Int) (t : TypeId) : (w.alloc (.cells #[.bool d, .int .i64 li, .int .i64 nd] t)).rowIs w.heap.size t 3 (actF d li nd) := World.rowIs_alloc w _ _ _ (by
  intro i hi
  match i, hi with
  | 0, _ => rfl
  | 1, _ => rfl
  | 2, _ => rfl)
theorem pair_row (w : World) (a b : Int) (t : TypeId) : (w.alloc (.cells #[.int .i64 a, .int .i64 b] t)).rowIs w.heap.size t 2 (fun j => .int .i64 (if j = 0 then a else b)) := World.rowIs_alloc w _ _ _ (by
  intro i hi
  match i, hi with
  | 0, _ => rfl
  | 1, _ => rfl)
theorem plays_out {w : World} {A : Option Addr} {len c : Nat} {n0 n1 x : Int} (h : 60 < (len : Int) ∨ (40 < n0 ∧ n0 ≤ 1048576) ∨ (200 < n1 ∧ n1 ≤ 1048576)) :
    Calls Try.prog 3 #[.agg #[.int .i64 n0, .int .i64 n1], .slice A len c, .int .i64 x] w (TrueBelow w) := by
  have hnot := not_any
  have b0 : Below w.heap.size w (w.alloc (.cells #[.int .i64 n0, .int .i64 n1] 22)) := (Below.refl _ _).alloc (Nat.le_refl _) _
  by_cases h1 : 60 < (len : Int)
  · clear h
    go_enter Try.func3, Try.ntmps3
    go_wp2_with fail
    refine works_any.mono ?_
    rintro e w' ⟨rfl, hb⟩
    have b1 := b0.trans (hb.mono b0.size)
    go_wp2
    go_ret
    exact ⟨rfl, b1⟩
  · by_cases h2 : 40 < n0 ∧ n0 ≤ 1048576
    · obtain ⟨h2, h3⟩ := h2
      clear h
      go_enter Try.func3, Try.ntmps3
      go_wp2_with fail
      refine works_any.mono ?_
      rintro e w' ⟨rfl, hb⟩
      have b1 := b0.trans (hb.mono b0.size)
      go_wp2
      go_ret
      exact ⟨rfl, b1⟩
    · have h3 : 200 < n1 ∧ n1 ≤ 1048576 := by
        rcases h with h | h | h
        · exact absurd h h1
        · exact absurd h h2
        · exact h
      obtain ⟨h3, h4⟩ := h3
      clear h
      by_cases h5 : 40 < n0
      · have h6 : ¬ n0 ≤ 1048576 := fun h => h2 ⟨h5, h⟩
        clear h2
        go_enter Try.func3, Try.ntmps3
        go_wp2_with fail
        refine works_any.mono ?_
        rintro e w' ⟨rfl, hb⟩
        have b1 := b0.trans (hb.mono b0.size)
        go_wp2
        go_ret
        exact ⟨rfl, b1⟩
      · clear h2
        go_enter Try.func3, Try.ntmps3
        go_wp2_with fail
        refine works_any.mono ?_
        rintro e w' ⟨rfl, hb⟩
        have b1 := b0.trans (hb.mono b0.size)
        go_wp2
        go_ret
        exact ⟨rfl, b1⟩
theorem plays_bad {w : World} {A : Option Addr} {len c : Nat} {n0 n1 x : Int} (h1 : ¬ 60 < (len : Int)) (h2 : ¬ (40 < n0 ∧ n0 ≤ 1048576)) (h3 : ¬ (200 < n1 ∧ n1 ≤ 1048576)) (h4 : inB n0 = false ∨ inB n1 = false) :
    Calls Try.prog 3 #[.agg #[.int .i64 n0, .int .i64 n1], .slice A len c, .int .i64 x] w (TrueBelow w) := by
  have hnot := not_any
  have b0 : Below w.heap.size w (w.alloc (.cells #[.int .i64 n0, .int .i64 n1] 22)) := (Below.refl _ _).alloc (Nat.le_refl _) _
  have HB := Lib.hid h4
  by_cases p1 : n0 < 0
  · have q1 : ¬ 40 < n0 := by omega
    by_cases p2 : 200 < n1
    · have q2 : ¬ n1 ≤ 1048576 := fun h => h3 ⟨p2, h⟩
      clear h2 h3 h4
      go_enter Try.func3, Try.ntmps3
      go_wp2_with fail
      refine (new_no n0 n1 _ HB.out).mono ?_
      rintro e w' ⟨rfl, rfl⟩
      go_wp2_with fail
      refine works_any.mono ?_
      rintro e w' ⟨rfl, hb⟩
      have b1 := b0.trans (hb.mono b0.size)
      go_wp2
      go_ret
      exact ⟨rfl, b1⟩
    · clear h2 h3 h4
      go_enter Try.func3, Try.ntmps3
      go_wp2_with fail
      refine (new_no n0 n1 _ HB.out).mono ?_
      rintro e w' ⟨rfl, rfl⟩
      go_wp2_with fail
      refine works_any.mono ?_
      rintro e w' ⟨rfl, hb⟩
      have b1 := b0.trans (hb.mono b0.size)
      go_wp2
      go_ret
      exact ⟨rfl, b1⟩
  · by_cases p3 : 40 < n0
    · have q3 : ¬ n0 ≤ 1048576 := fun h => h2 ⟨p3, h⟩
      have q4 : 1048576 < n0 := by omega
      by_cases p2 : 200 < n1
      · have q2 : ¬ n1 ≤ 1048576 := fun h => h3 ⟨p2, h⟩
        clear h2 h3 h4
        go_enter Try.func3, Try.ntmps3
        go_wp2_with fail
        refine (new_no n0 n1 _ HB.out).mono ?_
        rintro e w' ⟨rfl, rfl⟩
        go_wp2_with fail
        refine works_any.mono ?_
        rintro e w' ⟨rfl, hb⟩
        have b1 := b0.trans (hb.mono b0.size)
        go_wp2
        go_ret
        exact ⟨rfl, b1⟩
      · clear h2 h3 h4
        go_enter Try.func3, Try.ntmps3
        go_wp2_with fail
        refine (new_no n0 n1 _ HB.out).mono ?_
        rintro e w' ⟨rfl, rfl⟩
        go_wp2_with fail
        refine works_any.mono ?_
        rintro e w' ⟨rfl, hb⟩
        have b1 := b0.trans (hb.mono b0.size)
        go_wp2
        go_ret
        exact ⟨rfl, b1⟩
    · have q3 : ¬ 1048576 < n0 := by omega
      by_cases p2 : 200 < n1
      · have q2 : ¬ n1 ≤ 1048576 := fun h => h3 ⟨p2, h⟩
        have q5 : 1048576 < n1 := by omega
        have q6 : ¬ n1 < 0 := by omega
        clear h2 h3 h4
        go_enter Try.func3, Try.ntmps3
        go_wp2_with fail
        refine (new_no n0 n1 _ HB.out).mono ?_
        rintro e w' ⟨rfl, rfl⟩
        go_wp2_with fail
        refine works_any.mono ?_
        rintro e w' ⟨rfl, hb⟩
        have b1 := b0.trans (hb.mono b0.size)
        go_wp2
        go_ret
        exact ⟨rfl, b1⟩
      · have q6 : n1 < 0 := by
          have h5 : ¬ (0 ≤ n1 ∧ n1 ≤ 1048576) := h4.elim (fun h => absurd (by omega) (of_decide_eq_false h)) of_decide_eq_false
          omega
        clear h2 h3 h4
        go_enter Try.func3, Try.ntmps3
        go_wp2_with fail
        refine (new_no n0 n1 _ HB.out).mono ?_
        rintro e w' ⟨rfl, rfl⟩
        go_wp2_with fail
        refine works_any.mono ?_
        rintro e w' ⟨rfl, hb⟩
        have b1 := b0.trans (hb.mono b0.size)
        go_wp2
        go_ret
        exact ⟨rfl, b1⟩
set_option maxRecDepth 100000 in
set_option maxHeartbeats 3200000 in
theorem plays_good {w : World} {A : Option Addr} {acs : List (Bool × Int × Int)} {len c N0 N1 : Nat} {x : Int} (h : ActsAt w A acs) (hlen : len = acs.length) (h1 : ¬ 60 < (len : Int)) (h2 : N0 ≤ 40) (h3 : N1 ≤ 200) :
    Calls Try.prog 3 #[.agg #[.int .i64 N0, .int .i64 N1], .slice A len c, .int .i64 x] w (TrueBelow w) := by
  have hnot := not_any
  have p1 : ¬ 40 < (N0 : Int) := by omega
  have p2 : ¬ 200 < (N1 : Int) := by omega
  have p3 : ¬ (N0 : Int) < 0 := by omega
  have p4 : ¬ (N1 : Int) < 0 := by omega
  have p5 : ¬ 1048576 < (N0 : Int) := by omega
  have p6 : ¬ 1048576 < (N1 : Int) := by omega
  have hle : len ≤ 60 := by omega
  have H := Lib.hid h
  have HN := Lib.hid hlen
  have hmk := fun W => run_make_row' (P := Try.prog) 27 38 (.slice none 0 0) 24 Try.underlying27 list_info rfl .i64 .i64 N0 (by omega) (by omega) W
  have b0 : Below w.heap.size w (w.alloc (.cells #[.int .i64 N0, .int .i64 N1] 22)) := (Below.refl _ _).alloc (Nat.le_refl _) _
  have R0 := Lib.hid (pair_row w (N0 : Int) (N1 : Int) 22)
  have B0 := Lib.hid b0
  clear h hlen b0
  go_enter Try.func3, Try.ntmps3
  go_wp2_with fail
  refine (new_in (L := N0) (N := N1) (by omega) (by omega)).mono ?_
  rintro e w1 ⟨g, rfl, s1, b1⟩
  generalize hW0 : w.alloc (.cells #[.int .i64 (N0 : Int), .int .i64 (N1 : Int)] 22) = w0 at *
  clear hW0
  have HP : Hid (∀ W : World, Below w0.heap.size w0 W → W.cell? ⟨w.heap.size, 0, none⟩ = some (.int .i64 (N0 : Int)) ∧ W.cell? ⟨w.heap.size, 1, none⟩ = some (.int .i64 (N1 : Int))) := fun W hW =>
    ⟨(R0.out.of_block (hW.block _ R0.out.lt)).cell (i := 0) (by omega), (R0.out.of_block (hW.block _ R0.out.lt)).cell (i := 1) (by omega)⟩
  have HA0 : Hid (∀ W : World, Below w0.heap.size w0 W → ∀ (a : Addr), a.block < w.heap.size → W.cell? a = w.cell? a) := fun W hW a ha =>
    (hW.cell (p := a) (Nat.lt_of_lt_of_le ha B0.out.size)).trans (B0.out.cell (p := a) ha)
  obtain ⟨q0, q1⟩ := HP.out _ b1
  have s2 := s1.alloc (.cells (madeCells #[.slice none 0 0] N0) 38)
  have r2 := ls_made w1 N0
  have b2 := b1.alloc b1.size (.cells (madeCells #[.slice none 0 0] N0) 38)
  clear s1 b1
  go_wp2
  clear hmk p1 p2 p3 p4 p5 p6 q0 q1
  go_loopw [8, 9] (fun rv i wr => ∃ (t : Nat) (m : Nat → List Nat), t ≤ len ∧ i = .int .i64 t ∧ ChainIn wr w0.heap.size w1.heap.size (.pointer (some ⟨g, 0, none⟩)) N0 N1 m ∧ LsAt wr w1.heap.size rv N0 m ∧ Below w0.heap.size w0 wr) (fun _ i _ => len - (intOf i).toNat)
  case atStart => exact ⟨0, _, Nat.zero_le _, rfl, s2, r2, b2⟩
  case round =>
    clear s2 r2 b2
    obtain ⟨t, m, ht, rfl, s3, r3, b3⟩ := hrel
    have hh3 := s3.2.1
    by_cases hlt : t < len
    · have hi : 0 ≤ (t : Int) ∧ (t : Int) < (len : Int) := by omega
      obtain ⟨b, off, d, li, nd, rfl, hbl, c0, c1, c2⟩ := H.out.at_ (show t < acs.length by have := HN.out; omega)
      have k0 : wr.cell? ⟨b, off + t * 3, none⟩ = some (.bool d) := (HA0.out _ b3 _ hbl).trans c0
      have k1 : wr.cell? ⟨b, off + t * 3 + 1, none⟩ = some (.int .i64 li) := (HA0.out _ b3 _ hbl).trans c1
      have k2 : wr.cell? ⟨b, off + t * 3 + 2, none⟩ = some (.int .i64 nd) := (HA0.out _ b3 _ hbl).trans c2
      have HI := Lib.hid s3.1
      have ra := act_row wr d li nd 29
      have hz : w1.heap.size ≤ wr.heap.size := hh3
      obtain ⟨z, ez⟩ : ∃ z, wr.heap.size = z := ⟨_, rfl⟩
      have s4 := s3.alloc (.cells #[.bool d, .int .i64 li, .int .i64 nd] 29)
      have r4 := r3.alloc (.cells #[.bool d, .int .i64 li, .int .i64 nd] 29)
      have b4 := b3.alloc b3.size (.cells #[.bool d, .int .i64 li, .int .i64 nd] 29)
      rw [ez] at ra hz
      clear c0 c1 c2 s3 r3 b3
      cases d with
      | true =>
        go_wp2_with fail
        clear ez k0 k1 k2
        generalize hW4 : wr.alloc (.cells #[.bool true, .int .i64 li, .int .i64 nd] 29) = w4 at *
        clear hW4
        refine (rdrop r4 (Nat.le_trans hz (by have := ra.lt; omega)) HI.out (by omega) (by omega) nd).mono ?_
        rintro e w5 ⟨v5, rfl, r5, b5⟩
        have s5 := s4.below b5
        have b6 := b4.trans (b5.mono b4.size)
        have ra5 := ra.of_block (b5.block _ ra.lt)
        have f1 := ra5.cell (i := 1) (by omega)
        have f2 := ra5.cell (i := 2) (by omega)
        simp only [actF] at f1 f2
        clear s4 r4 b4 b5 ra
        go_wp2_with fail
        refine (drop_is s5 nd).mono ?_
        rintro e w6 ⟨rfl, s6, c6⟩
        have b7 := c6.below b6 b6.size (.inl (Nat.le_refl _))
        have r6 := r5.chg c6 (.inl (Nat.le_refl _))
        have ra6 := row_chg ra5 c6 hz
        clear f1 f2
        have f1 := ra6.cell (i := 1) (by omega)
        have f2 := ra6.cell (i := 2) (by omega)
        simp only [actF] at f1 f2
        clear s5 b6 c6 r5 ra5 ra6
        have hbne : (dropB m nd != dropB m nd) = false := by simp
        generalize dropB m nd = ok at *
        generalize dropM m nd = m2 at *
        go_wp2_with fail
        refine (same_ok s6 r6 nd li).mono ?_
        rintro e w9 ⟨rfl, b9⟩
        have s9 := s6.below b9
        have r9 := r6.below b9
        have b10 := b7.trans (b9.mono b7.size)
        clear s6 r6 b7 b9 hbne f1 f2
        go_wp2_with fail
        refine (same_ok s9 r9 x (t : Int)).mono ?_
        rintro e w11 ⟨rfl, b11⟩
        have s11 := s9.below b11
        have r11 := r9.below b11
        have b12 := b10.trans (b11.mono b10.size)
        clear s9 r9 b10 b11
        go_wp2
        go_roundw
        case rel => exact ⟨t + 1, m2, by omega, by go_num, s11, r11, b12⟩
        case measure => simp [intOf]; omega
      | false =>
        have q1 := (HP.out _ b4).2
        go_wp2_with fail
        clear ez k0 k1 k2 q1
        generalize hW4 : wr.alloc (.cells #[.bool false, .int .i64 li, .int .i64 nd] 29) = w4 at *
        clear hW4
        refine (radd r4 (Nat.le_trans hz (by have := ra.lt; omega)) HI.out (by omega) (by omega) li nd).mono ?_
        rintro e w5 ⟨v5, rfl, r5, b5⟩
        have s5 := s4.below b5
        have b6 := b4.trans (b5.mono b4.size)
        have ra5 := ra.of_block (b5.block _ ra.lt)
        have f1 := ra5.cell (i := 1) (by omega)
        have f2 := ra5.cell (i := 2) (by omega)
        simp only [actF] at f1 f2
        clear s4 r4 b4 b5 ra
        go_wp2_with fail
        refine (add_is s5 li nd).mono ?_
        rintro e w6 ⟨rfl, s6, c6⟩
        have b7 := c6.below b6 b6.size (.inl (Nat.le_refl _))
        have r6 := r5.chg c6 (.inl (Nat.le_refl _))
        have ra6 := row_chg ra5 c6 hz
        clear f1 f2
        have f1 := ra6.cell (i := 1) (by omega)
        have f2 := ra6.cell (i := 2) (by omega)
        simp only [actF] at f1 f2
        clear s5 b6 c6 r5 ra5 ra6
        have hbne : (addB N0 N1 m li nd != addB N0 N1 m li nd) = false := by simp
        generalize addB N0 N1 m li nd = ok at *
        generalize addM N0 N1 m li nd = m2 at *
        go_wp2_with fail
        refine (same_ok s6 r6 nd li).mono ?_
        rintro e w9 ⟨rfl, b9⟩
        have s9 := s6.below b9
        have r9 := r6.below b9
        have b10 := b7.trans (b9.mono b7.size)
        clear s6 r6 b7 b9 hbne f1 f2
        go_wp2_with fail
        refine (same_ok s9 r9 x (t : Int)).mono ?_
        rintro e w11 ⟨rfl, b11⟩
        have s11 := s9.below b11
        have r11 := r9.below b11
        have b12 := b10.trans (b11.mono b10.size)
        clear s9 r9 b10 b11
        go_wp2
        go_roundw
        case rel => exact ⟨t + 1, m2, by omega, by go_num, s11, r11, b12⟩
        case measure => simp [intOf]; omega
    · have hge : ¬ (t : Int) < (len : Int) := by omega
      have b5 := B0.out.trans (b3.mono B0.out.size)
      clear hlt ht h1 s3 r3 b3
      go_wp2_with fail
      refine works_any.mono ?_
      rintro e w7 ⟨rfl, b7⟩
      have b8 := b5.trans (b7.mono b5.size)
      go_wp2
      go_ret
      exact ⟨rfl, b8⟩
theorem plays_any {w : World} {A : Option Addr} {acs : List (Bool × Int × Int)} {len c : Nat} {n0 n1 x : Int} (h : ActsAt w A acs) (hlen : len = acs.length) :
    Calls Try.prog 3 #[.agg #[.int .i64 n0, .int .i64 n1], .slice A len c, .int .i64 x] w (TrueBelow w) := by
  by_cases hout : 60 < (len : Int) ∨ (40 < n0 ∧ n0 ≤ 1048576) ∨ (200 < n1 ∧ n1 ≤ 1048576)
  · exact plays_out hout
  · have h1 : ¬ 60 < (len : Int) := fun h => hout (.inl h)
    have h2 : ¬ (40 < n0 ∧ n0 ≤ 1048576) := fun h => hout (.inr (.inl h))
    have h3 : ¬ (200 < n1 ∧ n1 ≤ 1048576) := fun h => hout (.inr (.inr h))
    cases e0 : inB n0 with
    | false => exact plays_bad h1 h2 h3 (.inl e0)
    | true =>
      cases e1 : inB n1 with
      | false => exact plays_bad h1 h2 h3 (.inr e1)
      | true =>
        have g0 := of_decide_eq_true e0
        have g1 := of_decide_eq_true e1
        obtain ⟨N0, rfl⟩ := Int.eq_ofNat_of_zero_le g0.1
        obtain ⟨N1, rfl⟩ := Int.eq_ofNat_of_zero_le g1.1
        exact plays_good h hlen h1 (by omega) (by omega)
end Go.Proofs.Ytffpnpcbfogemaa
