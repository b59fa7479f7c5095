/- The walk of ChainJoins. -/
import Derived.Test.YtffpnpcbfogemaaChainSame
import Derived.Test.YtffpnpcbfogemaaChainMovesW
import Derived.Test.YtffpnpcbfogemaaBaseRecs
namespace Go.Proofs.Ytffpnpcbfogemaa
open Go.RowKit

theorem ls_made (w : World) (L : Nat) : LsAt (w.alloc (.cells (madeCells #[.slice none 0 0] L) 38)) w.heap.size (.slice (some ⟨w.heap.size, 0, none⟩) L L) L (fun _ => []) := by
  have h := World.rowIs_made w (.slice none 0 0) L 38
  exact ⟨_, _, rfl, .inr ⟨w.heap.size, rfl, Nat.le_refl _, h.lt, fun k hk => ⟨_, h.cell hk, ListAt.nil _ _⟩⟩⟩
theorem ls_more {w : World} {lo lo' L : Nat} {v : Value} {m : Nat → List Nat} (h : LsAt w lo v L m) (hl : lo' ≤ lo) : LsAt w lo' v L m := by
  obtain ⟨A, c, e, h | ⟨b, eb, h1, h2, h3⟩⟩ := h
  · exact ⟨A, c, e, .inl h⟩
  · refine ⟨A, c, e, .inr ⟨b, eb, Nat.le_trans hl h1, h2, fun k hk => ?_⟩⟩
    obtain ⟨u, h4, h5⟩ := h3 k hk
    exact ⟨u, h4, h5.more hl⟩
set_option maxRecDepth 100000 in
set_option maxHeartbeats 3200000 in
theorem joins_any {w : World} {A B : Option Addr} {xs : List Nat} {len len2 c c' : Nat} {f : Nat → Nat → Int} (h : BytesAt w A xs) (hlen : len = xs.length) (hr : RecsIn w B len2 c' [.i64, .i64, .i64] f) :
    Calls Try.prog 6 #[.slice A len c, .slice B len2 c'] w (TrueBelow w) := by
  have hnot := not_any
  by_cases hbig : 60 < (len : Int)
  · clear h hr
    go_enter Try.func6, Try.ntmps6
    go_wp2_with fail
    refine works_any.mono ?_
    rintro e w' ⟨rfl, hb⟩
    go_wp2
    go_ret
    exact ⟨rfl, hb⟩
  · by_cases hbig2 : 40 < (len2 : Int)
    · clear h hr
      go_enter Try.func6, Try.ntmps6
      go_wp2_with fail
      refine works_any.mono ?_
      rintro e w' ⟨rfl, hb⟩
      go_wp2
      go_ret
      exact ⟨rfl, hb⟩
    · have hle : len ≤ 60 := by omega
      have hle2 : len2 ≤ 40 := by omega
      have HN := Lib.hid hlen
      have H := Lib.hid h
      have HR := Lib.hid hr
      have hmk := fun W => run_make_row' (P := Try.prog) 27 38 (.slice none 0 0) 24 Try.underlying27 list_info rfl .i64 .i64 4 (by omega) (by omega) W
      simp only [show ((4 : Nat) : Int) = 4 from rfl] at hmk
      clear h hlen hr
      go_enter Try.func6, Try.ntmps6
      go_wp2_with fail
      refine (new_in (L := 4) (N := 20) (by omega) (by omega)).mono ?_
      rintro e w1 ⟨g, rfl, s1, b1⟩
      have s2 := s1.alloc (.cells (madeCells #[.slice none 0 0] 4) 38)
      have r2 := ls_made w1 4
      have b2 := b1.alloc b1.size (.cells (madeCells #[.slice none 0 0] 4) 38)
      clear s1
      go_wp2
      clear hmk
      go_loopw [6, 7] (fun rv i wr => ∃ (k : Nat) (m : Nat → List Nat), k ≤ len ∧ i = .int .i64 k ∧ ChainIn wr w.heap.size w1.heap.size (.pointer (some ⟨g, 0, none⟩)) 4 20 m ∧ LsAt wr w1.heap.size rv 4 m ∧ Below w.heap.size w wr) (fun _ i _ => len - (intOf i).toNat)
      case atStart => exact ⟨0, _, Nat.zero_le _, rfl, s2, r2, b2⟩
      case round =>
        clear s2 r2 b2
        obtain ⟨k, m, hk, rfl, s3, r3, b3⟩ := hrel
        have hhi := s3.2.1
        by_cases hlt : k < len
        · have hkx : k < xs.length := by have := HN.out; omega
          have hi : 0 ≤ (k : Int) ∧ (k : Int) < (len : Int) := by omega
          obtain ⟨b, off, rfl, h256, hc⟩ := H.out.at_ hkx
          have hbl := World.block_lt_of_cell? _ _ hc
          generalize xs[k]'hkx = y at *
          have HCY : Hid (∀ W : World, Below w.heap.size w W → W.cell? ⟨b, off + k, none⟩ = some (.int .u8 y)) := fun W hW => (hW.cell (p := ⟨b, off + k, none⟩) hbl).trans hc
          have hcr := HCY.out _ b3
          obtain ⟨p, ep⟩ : ∃ p, p = y % 4 := ⟨_, rfl⟩
          obtain ⟨d, ed⟩ : ∃ d, d = y / 4 := ⟨_, rfl⟩
          obtain ⟨q, eq⟩ : ∃ q, q = d % 20 := ⟨_, rfl⟩
          have hwr : IntKind.i64.wrap (y : Int) = (y : Int) := IntWalk.i64_in _ (by omega)
          have htm1 : Int.tmod (y : Int) 4 = (p : Int) := by rw [Int.tmod_eq_emod_of_nonneg (by omega), ep]; push_cast; rfl
          have hdv : Int.tdiv (y : Int) 4 = (d : Int) := by rw [Int.tdiv_eq_ediv_of_nonneg (by omega), ed]; push_cast; rfl
          have htm2 : Int.tmod (d : Int) 20 = (q : Int) := by rw [Int.tmod_eq_emod_of_nonneg (by omega), eq]; push_cast; rfl
          have hwp : IntKind.i64.wrap (p : Int) = (p : Int) := IntWalk.i64_in _ (by omega)
          have hwd : IntKind.i64.wrap (d : Int) = (d : Int) := IntWalk.i64_in _ (by omega)
          have hwq : IntKind.i64.wrap (q : Int) = (q : Int) := IntWalk.i64_in _ (by omega)
          clear hc ep ed eq
          go_wp2_with fail
          refine wp_region_still_tail 14 (by kernel_rfl) (by kernel_rfl) ?_
          simp only [List.take_succ_cons, List.take_zero, List.drop_succ_cons, List.drop_zero]
          change wpStill _ _ (wr.drewN 1) _ _ _
          repeat still_step
          refine wpStill_nil ?_
          change wpList _ _ _ _ _ (wr.drewN 1)
          go_wp2_with fail
          refine (add_is (s3.drewN 1) (p : Int) (q : Int)).mono ?_
          rintro e w4 ⟨rfl, s4, c4⟩
          have b4 := c4.below (below_drewN b3 1) b3.size (.inl (Nat.le_refl _))
          have r4 := (r3.drewN 1).chg c4 (.inl (Nat.le_refl _))
          have hcr4 := HCY.out _ b4
          have hh4 := s4.2.1
          have hI := s3.1
          clear s3 b3 c4 r3 hcr
          go_wp2_with fail
          have hcr5 : w4.drew.cell? ⟨b, off + k, none⟩ = some (.int .u8 y) := hcr4
          have R4 : Hid (LsAt w4.drew w1.heap.size _ 4 m) := r4.drewN 1
          have S4 := Lib.hid s4
          have B4 := Lib.hid b4
          have HI := Lib.hid hI
          clear s4 b4 r4 hI
          go_region_held3 (fun W => W.cell? ⟨b, off + k, none⟩ = some (.int .u8 y))
            (first | assumption)
            (first
              | (go_at_call 11
                 refine (radd R4.out hh4 HI.out (by omega) (by omega) (p : Int) (q : Int)).mono ?_
                 rintro e w5 ⟨v5, rfl, r5, b5⟩
                 have B6 := Lib.hid ((show Below w.heap.size w w4.drew from below_drewN B4.out 1).trans (b5.mono B4.out.size))
                 have S5 : Hid (ChainIn w5 w.heap.size w1.heap.size (.pointer (some ⟨g, 0, none⟩)) 4 20 (addM 4 20 m (p : Int) (q : Int))) := (show ChainIn w4.drew w.heap.size w1.heap.size (.pointer (some ⟨g, 0, none⟩)) 4 20 (addM 4 20 m (p : Int) (q : Int)) from S4.out.drewN 1).below b5
                 have R5 := Lib.hid r5
                 have hcr6 := HCY.out _ B6.out
                 clear r5 b5))
          go_wp2
          go_roundw
          case rel => exact ⟨k + 1, _, by omega, by go_num, S5.out, R5.out, B6.out⟩
          case measure => simp [intOf]; omega
        · have hge : ¬ (k : Int) < (len : Int) := by omega
          clear hlt hk hbig
          go_wp2
          clear hge
          go_loopw [6, 8] (fun rv i wr2 => ∃ (t : Nat) (m : Nat → List Nat), t ≤ len2 ∧ i = .int .i64 t ∧ ChainIn wr2 w.heap.size w1.heap.size (.pointer (some ⟨g, 0, none⟩)) 4 20 m ∧ LsAt wr2 w1.heap.size rv 4 m ∧ Below w.heap.size w wr2) (fun _ i _ => len2 - (intOf i).toNat)
          case atStart => exact ⟨0, _, Nat.zero_le _, rfl, s3, r3, b3⟩
          case round =>
            clear s3 r3 b3 hhi
            obtain ⟨t, m, ht, rfl, s4, r4, b4⟩ := hrel
            have hh4 := s4.2.1
            by_cases hlt : t < len2
            · have hi : 0 ≤ (t : Int) ∧ (t : Int) < (len2 : Int) := by omega
              obtain ⟨b, off, rfl, hbl, hcells⟩ := HR.out.cells (by simp) (by omega)
              have c0 : w.cell? ⟨b, off + t * 3, none⟩ = some (.int .i64 (f t 0)) := (hcells t 0 .i64 hlt rfl).1
              have c1 : w.cell? ⟨b, off + t * 3 + 1, none⟩ = some (.int .i64 (f t 1)) := (hcells t 1 .i64 hlt rfl).1
              have c2 : w.cell? ⟨b, off + t * 3 + 2, none⟩ = some (.int .i64 (f t 2)) := (hcells t 2 .i64 hlt rfl).1
              obtain ⟨a0, e0⟩ : ∃ a0, f t 0 = a0 := ⟨_, rfl⟩
              obtain ⟨a1, e1⟩ : ∃ a1, f t 1 = a1 := ⟨_, rfl⟩
              obtain ⟨a2, e2⟩ : ∃ a2, f t 2 = a2 := ⟨_, rfl⟩
              rw [e0] at c0
              rw [e1] at c1
              rw [e2] at c2
              have HC : Hid (∀ W : World, Below w.heap.size w W → W.cell? ⟨b, off + t * 3, none⟩ = some (.int .i64 a0) ∧ W.cell? ⟨b, off + t * 3 + 1, none⟩ = some (.int .i64 a1) ∧ W.cell? ⟨b, off + t * 3 + 2, none⟩ = some (.int .i64 a2)) :=
                fun W hW => ⟨(hW.cell (p := ⟨b, off + t * 3, none⟩) hbl).trans c0, (hW.cell (p := ⟨b, off + t * 3 + 1, none⟩) hbl).trans c1, (hW.cell (p := ⟨b, off + t * 3 + 2, none⟩) hbl).trans c2⟩
              have HI := Lib.hid s4.1
              obtain ⟨r, er⟩ : ∃ r, Int.tmod a0 2 = r := ⟨_, rfl⟩
              have hrr : -2 < r ∧ r < 2 := by
                rw [← er]
                rcases Int.le_total 0 a0 with h | h
                · rw [Int.tmod_eq_emod_of_nonneg h]; omega
                · have e : Int.tmod a0 2 = -(Int.tmod (-a0) 2) := by rw [Int.neg_tmod, Int.neg_neg]
                  rw [e, Int.tmod_eq_emod_of_nonneg (by omega)]; omega
              have hwm : IntKind.i64.wrap r = r := IntWalk.i64_in _ (by omega)
              obtain ⟨q0, q1, q2⟩ := HC.out _ b4
              clear c0 c1 c2 e0 e1 e2 hcells hrr
              go_wp2
              go_quiet (fail)
              replace s4 := s4.drewN nq
              replace r4 := r4.drewN nq
              replace b4 := below_drewN b4 nq
              have q0' : (wr.drewN nq).cell? ⟨b, off + t * 3, none⟩ = some (.int .i64 a0) := q0
              clear q0 q1 q2
              generalize wr.drewN nq = w4 at *
              replace hh4 := s4.2.1
              by_cases hr0 : r = 0
              · have hrb : (r == 0) = true := by simp [hr0]
                subst hr0
                · go_wp2_with fail
                  refine (rmove r4 hh4 HI.out (by omega) (by omega) a1 a2).mono ?_
                  rintro e w5 ⟨v5, rfl, r5, b5⟩
                  have s5 := s4.below b5
                  have b6 := b4.trans (b5.mono b4.size)
                  clear s4 r4 b4 b5
                  go_wp2_with fail
                  refine (move_is s5 a1 a2).mono ?_
                  rintro e w6 ⟨rfl, s6, c6⟩
                  have b7 := c6.below b6 b6.size (.inl (Nat.le_refl _))
                  have r6 := r5.chg c6 (.inl (Nat.le_refl _))
                  clear s5 b6 c6 r5
                  have hbne : (moveB 4 m a1 a2 != moveB 4 m a1 a2) = false := by simp
                  generalize moveB 4 m a1 a2 = ok at *
                  generalize moveM 4 m a1 a2 = m2 at *
                  go_wp2
                  clear hbne
                  go_loopw [12] (fun kk wr3 => ∃ q : Nat, q ≤ 4 ∧ kk = .int .i64 q ∧ ChainIn wr3 w.heap.size w1.heap.size (.pointer (some ⟨g, 0, none⟩)) 4 20 m2 ∧ LsAt wr3 w1.heap.size v5 4 m2 ∧ Below w.heap.size w wr3) (fun kk _ => 4 - (intOf kk).toNat)
                  case atStart => exact ⟨0, by omega, rfl, s6, r6, b7⟩
                  case round =>
                    clear s6 r6 b7
                    obtain ⟨q, hq, rfl, s7, r7, b8⟩ := hrel
                    by_cases hlq : q < 4
                    · have hqi : 0 ≤ (q : Int) ∧ (q : Int) < 4 := by omega
                      go_wp2_with fail
                      refine (same_ok s7 r7 a2 (q : Int)).mono ?_
                      rintro e w9 ⟨rfl, b9⟩
                      have s9 := s7.below b9
                      have r9 := r7.below b9
                      have b10 := b8.trans (b9.mono b8.size)
                      clear s7 r7 b8 b9
                      go_wp2_with fail
                      refine (same_ok s9 r9 a1 (q : Int)).mono ?_
                      rintro e w11 ⟨rfl, b11⟩
                      have s11 := s9.below b11
                      have r11 := r9.below b11
                      have b12 := b10.trans (b11.mono b10.size)
                      clear s9 r9 b10 b11
                      go_wp2
                      go_roundw
                      case rel => exact ⟨q + 1, by omega, by go_num, s11, r11, b12⟩
                      case measure => simp [intOf]; omega
                    · have hqe : ¬ (q : Int) < 4 := by omega
                      clear hlq hq
                      go_wp2
                      go_roundw
                      case rel => exact ⟨t + 1, m2, by omega, by go_num, s7, r7, b8⟩
                      case measure => simp [intOf]; omega
              · have hrb : (r == 0) = false := by simp [hr0]
                · go_wp2_with fail
                  refine (rjoin r4 hh4 HI.out (by omega) (by omega) a1 a2).mono ?_
                  rintro e w5 ⟨v5, rfl, r5, b5⟩
                  have s5 := s4.below b5
                  have b6 := b4.trans (b5.mono b4.size)
                  clear s4 r4 b4 b5
                  go_wp2_with fail
                  refine (join_is s5 a1 a2).mono ?_
                  rintro e w6 ⟨rfl, s6, c6⟩
                  have b7 := c6.below b6 b6.size (.inl (Nat.le_refl _))
                  have r6 := r5.chg c6 (.inl (Nat.le_refl _))
                  clear s5 b6 c6 r5
                  have hbne : (joinB 4 a1 a2 != joinB 4 a1 a2) = false := by simp
                  generalize joinB 4 a1 a2 = ok at *
                  generalize joinM 4 m a1 a2 = m2 at *
                  go_wp2
                  clear hbne
                  go_loopw [12] (fun kk wr3 => ∃ q : Nat, q ≤ 4 ∧ kk = .int .i64 q ∧ ChainIn wr3 w.heap.size w1.heap.size (.pointer (some ⟨g, 0, none⟩)) 4 20 m2 ∧ LsAt wr3 w1.heap.size v5 4 m2 ∧ Below w.heap.size w wr3) (fun kk _ => 4 - (intOf kk).toNat)
                  case atStart => exact ⟨0, by omega, rfl, s6, r6, b7⟩
                  case round =>
                    clear s6 r6 b7
                    obtain ⟨q, hq, rfl, s7, r7, b8⟩ := hrel
                    by_cases hlq : q < 4
                    · have hqi : 0 ≤ (q : Int) ∧ (q : Int) < 4 := by omega
                      go_wp2_with fail
                      refine (same_ok s7 r7 a2 (q : Int)).mono ?_
                      rintro e w9 ⟨rfl, b9⟩
                      have s9 := s7.below b9
                      have r9 := r7.below b9
                      have b10 := b8.trans (b9.mono b8.size)
                      clear s7 r7 b8 b9
                      go_wp2_with fail
                      refine (same_ok s9 r9 a1 (q : Int)).mono ?_
                      rintro e w11 ⟨rfl, b11⟩
                      have s11 := s9.below b11
                      have r11 := r9.below b11
                      have b12 := b10.trans (b11.mono b10.size)
                      clear s9 r9 b10 b11
                      go_wp2
                      go_roundw
                      case rel => exact ⟨q + 1, by omega, by go_num, s11, r11, b12⟩
                      case measure => simp [intOf]; omega
                    · have hqe : ¬ (q : Int) < 4 := by omega
                      clear hlq hq
                      go_wp2
                      go_roundw
                      case rel => exact ⟨t + 1, m2, by omega, by go_num, s7, r7, b8⟩
                      case measure => simp [intOf]; omega
            · have hge : ¬ (t : Int) < (len2 : Int) := by omega
              clear hlt ht hbig2 r4
              have hnc : Out (fun _ => []) 0 := fun i k e hk => by simp at hk
              go_wp2_with fail
              refine (move_no (nil_chain _ 0 (Nat.zero_le _)) (i := 0) (x := 0) (.inr hnc)).mono ?_
              rintro e w5 ⟨rfl, _, c5⟩
              have b5 := c5.below b4 b4.size (.inr (Nat.le_refl _))
              clear s4 b4 c5
              go_wp2_with fail
              refine (join_no (nil_chain _ 0 (Nat.zero_le _)) (i := 0) (j := 1) (.inl rfl)).mono ?_
              rintro e w6 ⟨rfl, _, c6⟩
              have b6 := c6.below b5 b5.size (.inr (Nat.le_refl _))
              clear b5 c6
              go_wp2_with fail
              refine works_any.mono ?_
              rintro e w7 ⟨rfl, b7⟩
              have b8 := b6.trans (b7.mono b6.size)
              go_wp2
              go_ret
              exact ⟨rfl, b8⟩
end Go.Proofs.Ytffpnpcbfogemaa
