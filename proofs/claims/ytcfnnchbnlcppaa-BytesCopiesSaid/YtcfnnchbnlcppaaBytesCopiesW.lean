/- Layer 10 (bytes): the walk of BytesCopies. -/
import Derived.Test.YtcfnnchbnlcppaaBytesSame
import Derived.Test.YtcfnnchbnlcppaaBytesRRuns
namespace Go.Proofs.Ytcfnnchbnlcppaa
open Go.RowKit Go.Maps

theorem putS_all {s t : ByteArray} (h : t.size = s.size) : putF (byteAt s) 0 t = byteAt t := by
  funext j
  unfold putF
  by_cases hj : j < t.size
  · rw [if_pos (by omega), Nat.sub_zero]
  · rw [if_neg (by omega), byteAt_ge (by omega), byteAt_ge (by omega)]
theorem store_first {w : World} {g b n : Nat} {t : ByteArray} (h : ChunkAt w g b n zeroF) (hn : t.size = n) : Calls Try.prog 11 #[.pointer (some ⟨g, 0, none⟩), .int .i64 0, .string t] w (Done w g b n (byteAt t) 0) := by
  have := store_at h (a := 0) (T := t) (by omega)
  rw [show putF zeroF 0 t = byteAt t by rw [← zeros_at n]; exact putS_all (by rw [zeros_size]; exact hn)] at this
  exact this
theorem made_spans {w w' : World} {n : Nat} {c : Nat → UInt8} {e : Ending} (h : MadeL w (runsTo c n) e w') (hn : n ≤ 1048576) : ∃ v, e = .returned v ∧ SpansIn w' v (runsTo c n) ∧ Below w.heap.size w w' := by
  obtain ⟨v, rfl, ho, hb⟩ := h
  have hl := runs_length c n
  exact ⟨v, rfl, ho.spans (by omega) fun p hp => by
    have := runs_bound c n p hp
    exact ⟨⟨by omega, by omega⟩, ⟨by omega, by omega⟩⟩, hb⟩
set_option maxRecDepth 100000 in
set_option maxHeartbeats 4000000 in
theorem copies_any {s t : ByteArray} {x0 x1 x2 : Int} (h0 : InInt x0) (h1 : InInt x1) (h2 : InInt x2) (w : World) : Calls Try.prog 6 #[.string s, .string t, .agg #[.int .i64 x0, .int .i64 x1, .int .i64 x2]] w (Well w) := by
  have HB0 : Hid (Below w.heap.size w (w.alloc (.cells #[.int .i64 x0, .int .i64 x1, .int .i64 x2] 43))) := (Below.refl _ w).alloc (Nat.le_refl _) _
  by_cases hbig : 300 < s.size ∨ 300 < t.size ∨ s.size = 0 ∨ t.size = 0
  · have HW : Hid (∀ W, Below w.heap.size w W → Calls Try.prog 7 #[] W (fun e w' => e = .returned (.bool true) ∧ Below w.heap.size w w')) := fun W hb => (works_is W).mono (by rintro e w' ⟨rfl, h⟩; exact ⟨rfl, step_below hb h⟩)
    by_cases k0 : 300 < s.size
    · have d0 : decide ((300 : Int) < (s.size : Int)) = true := decide_eq_true (by omega)
      have d0' : decide (300 < s.size) = true := decide_eq_true k0
      clear hbig
      go_enter Try.func6, Try.ntmps6
      go_wp2_with fail
      refine (HW.out _ HB0.out).mono ?_
      rintro e w1 ⟨rfl, b1⟩
      go_wp2
      go_ret
      exact ⟨rfl, b1⟩
    have d0 : decide ((300 : Int) < (s.size : Int)) = false := decide_eq_false (by omega)
    have d0' : decide (300 < s.size) = false := decide_eq_false k0
    by_cases k1 : 300 < t.size
    · have d1 : decide ((300 : Int) < (t.size : Int)) = true := decide_eq_true (by omega)
      have d1' : decide (300 < t.size) = true := decide_eq_true k1
      clear hbig
      go_enter Try.func6, Try.ntmps6
      go_wp2_with fail
      refine (HW.out _ HB0.out).mono ?_
      rintro e w1 ⟨rfl, b1⟩
      go_wp2
      go_ret
      exact ⟨rfl, b1⟩
    have d1 : decide ((300 : Int) < (t.size : Int)) = false := decide_eq_false (by omega)
    have d1' : decide (300 < t.size) = false := decide_eq_false k1
    by_cases k2 : s.size = 0
    · have d2 : ((s.size : Int) == 0) = true := by rw [beq_iff_eq]; omega
      clear hbig k2
      go_enter Try.func6, Try.ntmps6
      go_wp2_with fail
      refine (HW.out _ HB0.out).mono ?_
      rintro e w1 ⟨rfl, b1⟩
      go_wp2
      go_ret
      exact ⟨rfl, b1⟩
    have d2 : ((s.size : Int) == 0) = false := by rw [beq_eq_false_iff_ne]; omega
    have d3 : ((t.size : Int) == 0) = true := by rw [beq_iff_eq]; omega
    clear hbig k2
    go_enter Try.func6, Try.ntmps6
    go_wp2_with fail
    refine (HW.out _ HB0.out).mono ?_
    rintro e w1 ⟨rfl, b1⟩
    go_wp2
    go_ret
    exact ⟨rfl, b1⟩
  · have d0 : decide ((300 : Int) < (s.size : Int)) = false := decide_eq_false (by omega)
    have d0' : decide (300 < s.size) = false := decide_eq_false (by omega)
    have d1 : decide ((300 : Int) < (t.size : Int)) = false := decide_eq_false (by omega)
    have d1' : decide (300 < t.size) = false := decide_eq_false (by omega)
    have d2 : ((s.size : Int) == 0) = false := by rw [beq_eq_false_iff_ne]; omega
    have d3 : ((t.size : Int) == 0) = false := by rw [beq_eq_false_iff_ne]; omega
    obtain ⟨n, hn⟩ : ∃ n, s.size = n := ⟨_, rfl⟩
    obtain ⟨m, hm⟩ : ∃ m, t.size = m := ⟨_, rfl⟩
    have hn1 : 1 ≤ n ∧ n ≤ 300 := by omega
    have hm1 : 1 ≤ m ∧ m ≤ 300 := by omega
    have hnot := not_any
    have hb3 := World.rowIs_alloc w #[.int .i64 x0, .int .i64 x1, .int .i64 x2] 43 (fun | 0 => .int .i64 x0 | 1 => .int .i64 x1 | _ => .int .i64 x2) (by
      intro i hi
      match i, hi with
      | 0, _ => rfl
      | 1, _ => rfl
      | 2, _ => rfl)
    obtain ⟨W0, hW0⟩ : ∃ W0, w.alloc (.cells #[.int .i64 x0, .int .i64 x1, .int .i64 x2] 43) = W0 := ⟨_, rfl⟩
    have hq0 : w.heap.size < W0.heap.size := by rw [← hW0]; simp
    rw [hW0] at hb3 HB0
    have HCell : Hid (∀ W, Below W0.heap.size W0 W → W.cell? ⟨w.heap.size, 0, none⟩ = some (.int .i64 x0) ∧ W.cell? ⟨w.heap.size, 1, none⟩ = some (.int .i64 x1) ∧ W.cell? ⟨w.heap.size, 2, none⟩ = some (.int .i64 x2)) := fun W hb => by
      have k := hb3.of_block (hb.block _ hq0)
      exact ⟨k.cell (i := 0) (by simp), k.cell (i := 1) (by simp), k.cell (i := 2) (by simp)⟩
    rw [hn, hm] at hbig
    rw [hn] at d0 d0' d2
    rw [hm] at d1 d1' d3
    have HN := Lib.hid hn
    have HM := Lib.hid hm
    have H0 := Lib.hid h0
    have H1 := Lib.hid h1
    have H2 := Lib.hid h2
    clear hbig hb3 h0 h1 h2
    go_enter Try.func6, Try.ntmps6
    go_wp2_with fail
    refine (new_in W0 (n := n) hn1.1 (by omega)).mono ?_
    clear hW0
    rintro e w1 ⟨g, b, rfl, c1, hg1, hb1, bel1⟩
    have C1 := Lib.hid c1
    have HBb := Lib.hid hb1
    have HB1 := Lib.hid bel1
    clear c1 hg1 hb1 bel1
    go_wp2_with fail
    refine (new_in w1 (n := m) hm1.1 (by omega)).mono ?_
    rintro e w2 ⟨g2, b2, rfl, e2, hg2, hb2, bel2⟩
    have HNE : Hid (g2 ≠ b ∧ b2 ≠ b ∧ g ≠ b2 ∧ b ≠ b2) := by
      have h3 := C1.out.lt
      have : w1.heap.size ≤ b2 := hb2
      exact ⟨by omega, by omega, by omega, by omega⟩
    have C2 := Lib.hid (C1.out.more bel2)
    have E2 := Lib.hid e2
    have HB2 := Lib.hid (step_below HB1.out bel2)
    have HB2b : Hid (W0.heap.size ≤ b2) := Nat.le_trans HB1.out.size hb2
    clear e2 hg2 hb2 bel2
    go_wp2_with fail
    refine (store_first C2.out HN.out).mono ?_
    rintro e w3 ⟨rfl, c3, but3⟩
    have C3 := Lib.hid c3
    have E3 := Lib.hid (E2.out.but but3 HNE.out.1 HNE.out.2.1)
    have HB3 : Hid (Below W0.heap.size W0 w3) := HB2.out.trans (but3.below HB2.out.size fun j hj => by subst hj; exact HBb.out)
    clear c3 but3
    go_wp2_with fail
    refine (store_first E3.out HM.out).mono ?_
    rintro e w4 ⟨rfl, e4, but4⟩
    have E4 := Lib.hid e4
    have C4 := Lib.hid (C3.out.but but4 HNE.out.2.2.1 HNE.out.2.2.2)
    have HB4 : Hid (Below W0.heap.size W0 w4) := HB3.out.trans (but4.below HB3.out.size fun j hj => by subst hj; exact HB2b.out)
    clear e4 but4
    go_wp2_with fail
    refine (runs_at C4.out).mono ?_
    intro e w5 hmade
    obtain ⟨v1, rfl, sp1, b5⟩ := made_spans hmade (by omega)
    have SP1 := Lib.hid sp1
    have C5 := Lib.hid (C4.out.more b5)
    have E5 := Lib.hid (E4.out.more b5)
    have HB5 := Lib.hid (step_below HB4.out b5)
    clear hmade sp1 b5
    have HRR := Lib.hid (rruns_is w5 s (by omega))
    rw [HN.out] at HRR
    go_wp2_with fail
    refine HRR.out.mono ?_
    clear HRR
    intro e w6 hmade
    obtain ⟨v2, rfl, sp2, b6⟩ := made_spans hmade (by omega)
    have SP2 := Lib.hid sp2
    have SP1b := Lib.hid (SP1.out.below b6)
    have C6 := Lib.hid (C5.out.more b6)
    have E6 := Lib.hid (E5.out.more b6)
    have HB6 := Lib.hid (step_below HB5.out b6)
    clear hmade sp2 b6
    go_wp2_with fail
    refine (same_is SP1b.out SP2.out (decide_eq_true rfl)).mono ?_
    rintro e w7 ⟨rfl, b7⟩
    have C7 := Lib.hid (C6.out.more b7)
    have E7 := Lib.hid (E6.out.more b7)
    have HB7 := Lib.hid (step_below HB6.out b7)
    clear b7
    have HR1 : Hid (∀ W, Calls Try.prog 23 #[.string s, .int .i64 x0, .string t, .int .i64 x1, .int .i64 x2] W fun e w' => e = .returned (.tuple #[.string (copyS s x0 t x1 x2), .int .i64 (copyE n x0 m x1 x2)]) ∧ Below W.heap.size W w') := fun W => by
      have := rcopy_is W s t (by omega) (by omega) H0.out H1.out H2.out
      rw [rcopyV_is, HN.out, HM.out] at this
      exact this
    have HU : Hid ((copyS s x0 t x1 x2).size = n) := (copyS_size _ _ _ _ _).trans HN.out
    have HC2 : Hid (∀ W, Below w7.heap.size w7 W → Calls Try.prog 24 #[.pointer (some ⟨g, 0, none⟩), .int .i64 x0, .pointer (some ⟨g2, 0, none⟩), .int .i64 x1, .int .i64 x2] W (Done W g b n (byteAt (copyS s x0 t x1 x2)) (copyE n x0 m x1 x2))) := fun W hb => copy_any (C7.out.more hb) HN.out (E7.out.more hb) HM.out H0.out H1.out H2.out
    generalize copyS s x0 t x1 x2 = u at *
    generalize copyE n x0 m x1 x2 = r1 at *
    obtain ⟨q0, q1, q2⟩ := HCell.out w7 HB7.out
    go_wp2_with fail
    refine (HR1.out w7).mono ?_
    rintro e w8 ⟨rfl, b8⟩
    have HC3 := Lib.hid (HC2.out w8 b8)
    have HB8 := Lib.hid (step_below HB7.out b8)
    clear b8 q0 q1 q2
    obtain ⟨q0, q1, q2⟩ := HCell.out w8 HB8.out
    go_wp2_with fail
    refine HC3.out.mono ?_
    rintro e w9 ⟨rfl, c9, but9⟩
    have C9 := Lib.hid c9
    have HB9 : Hid (Below W0.heap.size W0 w9) := HB8.out.trans (but9.below HB8.out.size fun j hj => by subst hj; exact HBb.out)
    clear c9 but9 q0 q1 q2
    go_wp2_with fail
    refine (load_all C9.out HU.out).mono ?_
    rintro e w10 ⟨rfl, b10⟩
    have C10 := Lib.hid (C9.out.more b10)
    have HB10 := Lib.hid (step_below HB9.out b10)
    clear b10
    have HUb : Hid (u.size ≤ 1048576) := by show _ ≤ _; rw [HU.out]; omega
    have HR2 : Hid (∀ W, Calls Try.prog 23 #[.string u, .int .i64 x0, .string u, .int .i64 x1, .int .i64 x2] W fun e w' => e = .returned (.tuple #[.string (copyS u x0 u x1 x2), .int .i64 (copyE n x0 n x1 x2)]) ∧ Below W.heap.size W w') := fun W => by
      have := rcopy_is W u u HUb.out HUb.out H0.out H1.out H2.out
      rw [rcopyV_is, HU.out] at this
      exact this
    have HV : Hid ((copyS u x0 u x1 x2).size = n) := (copyS_size _ _ _ _ _).trans HU.out
    have HC4 : Hid (∀ W, Below w10.heap.size w10 W → Calls Try.prog 24 #[.pointer (some ⟨g, 0, none⟩), .int .i64 x0, .pointer (some ⟨g, 0, none⟩), .int .i64 x1, .int .i64 x2] W (Done W g b n (byteAt (copyS u x0 u x1 x2)) (copyE n x0 n x1 x2))) := fun W hb => copy_any (C10.out.more hb) HU.out (C10.out.more hb) HU.out H0.out H1.out H2.out
    generalize copyS u x0 u x1 x2 = v at *
    generalize copyE n x0 n x1 x2 = r2 at *
    obtain ⟨q0, q1, q2⟩ := HCell.out w10 HB10.out
    go_wp2_with fail
    refine (HR2.out w10).mono ?_
    rintro e w11 ⟨rfl, b11⟩
    have HC5 := Lib.hid (HC4.out w11 b11)
    have HB11 := Lib.hid (step_below HB10.out b11)
    clear b11 q0 q1 q2
    obtain ⟨q0, q1, q2⟩ := HCell.out w11 HB11.out
    go_wp2_with fail
    refine HC5.out.mono ?_
    rintro e w12 ⟨rfl, c12, but12⟩
    have C12 := Lib.hid c12
    have HB12 : Hid (Below W0.heap.size W0 w12) := HB11.out.trans (but12.below HB11.out.size fun j hj => by subst hj; exact HBb.out)
    clear c12 but12 q0 q1 q2
    go_wp2_with fail
    refine (load_all C12.out HV.out).mono ?_
    rintro e w13 ⟨rfl, b13⟩
    have C13 := Lib.hid (C12.out.more b13)
    have HB13 := Lib.hid (step_below HB12.out b13)
    clear b13
    go_wp2_with fail
    refine (copy_gone (.inl rfl)).mono ?_
    rintro e w14 ⟨rfl, rfl⟩
    go_wp2_with fail
    refine (copy_from_gone C13.out (.inl rfl)).mono ?_
    rintro e w14 ⟨rfl, b14⟩
    have HB14 := Lib.hid (step_below HB13.out b14)
    clear b14
    go_wp2_with fail
    refine (runs_nil _).mono ?_
    rintro e w15 ⟨rfl, rfl⟩
    go_wp2_with fail
    refine (works_is _).mono ?_
    rintro e w16 ⟨rfl, b16⟩
    go_wp2
    go_ret
    exact ⟨rfl, HB0.out.trans ((step_below HB14.out b16).mono HB0.out.size)⟩
end Go.Proofs.Ytcfnnchbnlcppaa
