/- The walk of BumpRow. -/
import Derived.Test.YtphpcfimooccdaaBumpPlace
namespace Go.Proofs.Ytphpcfimooccdaa
open Go.RowKit

theorem align_nil {a : Int} (h : powB a = true) : alignB 0 a = true ∧ upTo 0 a = 0 := by
  have h0 := (powB_iff.1 h).1
  have hu : upTo 0 a = 0 := upTo_same h0 (Int.zero_emod a)
  refine ⟨?_, hu⟩
  unfold alignB
  rw [hu, h, decide_eq_true (Int.le_refl 0), fitB_yes (by omega) (by omega)]; rfl
/-- an empty chunk has room for all that is not too large. -/
theorem place_nil {s a h : Int} (hh : h ≤ 9223372036854775807) :
    (placeE 0 s a h = 0 ∨ placeE 0 s a h = 2 ∨ placeE 0 s a h = 5) ∧ (1 ≤ s → 1 ≤ h → powB a = true → s ≤ h → a ≤ h → placeE 0 s a h = 0) := by
  rcases place_ways 0 s a h with ⟨g, k⟩ | ⟨_, _, k⟩ | ⟨_, _, _, k⟩ | ⟨_, _, _, g, k⟩ | ⟨g0, g1, g2, g3, more⟩
  · omega
  · exact ⟨.inr (.inl k), fun _ => by omega⟩
  · exact ⟨.inr (.inl k), fun _ _ => by omega⟩
  · exact ⟨.inr (.inl k), fun _ _ h => by rw [g] at h; cases h⟩
  · obtain ⟨n1, n2⟩ := align_nil g3
    rcases more with ⟨g4, k⟩ | ⟨g4, g5, k⟩ | ⟨g4, g5, ⟨g6, k⟩ | ⟨g6, ⟨g7, k⟩ | ⟨g7, ⟨g8, k⟩ | ⟨g8, k⟩⟩⟩⟩
    · exact ⟨.inr (.inr k), fun _ _ _ => by omega⟩
    · exact ⟨.inr (.inr k), fun _ _ _ _ => by omega⟩
    · rw [n1] at g6; cases g6
    · rw [n2, fitB_yes (by omega) (by omega)] at g7; cases g7
    · rw [n2] at g8; omega
    · exact ⟨.inl k, fun _ _ _ _ _ => k⟩
/-- what a Place that is right tells. -/
theorem place_row {c s a h : Int} (hh : h ≤ 9223372036854775807) (hk : placeE c s a h = 0) :
    placeE 0 s a h = 0 ∧ 1 ≤ a ∧ 0 ≤ c ∧ c ≤ upTo c a ∧ upTo c a % a = 0 ∧ 1 ≤ s ∧ upTo c a + s ≤ h ∧ placeA c s a h = upTo c a ∧ placeN c s a h = upTo c a + s ∧ wasteV c a = upTo c a - c := by
  rcases place_ways c s a h with ⟨g, k⟩ | ⟨_, _, k⟩ | ⟨_, _, _, k⟩ | ⟨_, _, _, g, k⟩ | ⟨g0, g1, g2, g3, more⟩
  any_goals omega
  rcases more with ⟨g4, k⟩ | ⟨g4, g5, k⟩ | ⟨g4, g5, ⟨g6, k⟩ | ⟨g6, ⟨g7, k⟩ | ⟨g7, ⟨g8, k⟩ | ⟨g8, k⟩⟩⟩⟩
  any_goals omega
  have ha := (powB_iff.1 g3).1
  obtain ⟨l1, l2, l3⟩ := upTo_law (n := c) ha
  refine ⟨(place_nil hh).2 g1 g2 g3 g4 g5, by omega, g0, l2, l1, g1, g8, ?_, ?_, ?_⟩
  · unfold placeA; rw [if_pos hk]
  · unfold placeN; rw [if_pos hk]
  · unfold wasteV; rw [if_pos g6]
set_option maxRecDepth 100000 in
set_option maxHeartbeats 3200000 in
theorem row_any {w : World} {A : Option Addr} {xs : List (Int × Int)} {len c : Nat} {h : Int} (hp : PairsAt w A xs) (hlen : len = xs.length) (hin : ∀ p ∈ xs, InInt p.1 ∧ InInt p.2) (hlen2 : len ≤ 9223372036854775807) (hh : InInt h) :
    Calls Try.prog 4 #[.int .i64 h, .slice A len c] w (TrueBelow w) := by
  have hnot := not_any
  by_cases h1 : h < 1
  · go_enter Try.func4, Try.ntmps4
    go_wp2_with (go_at_call 9; refine (works_any _).mono ?_; rintro e w' ⟨rfl, rfl⟩)
    go_ret
    exact ⟨rfl, Below.refl _ _⟩
  · by_cases hbig : 60 < (len : Int)
    · go_enter Try.func4, Try.ntmps4
      go_wp2_with (go_at_call 9; refine (works_any _).mono ?_; rintro e w' ⟨rfl, rfl⟩)
      go_ret
      exact ⟨rfl, Below.refl _ _⟩
    · have HN := Lib.hid hlen
      have H := Lib.hid hp
      have HI := Lib.hid hin
      have HH := Lib.hid hh
      clear hp hlen hin hh
      go_enter Try.func4, Try.ntmps4
      go_wp2
      go_loopw [5, 6] (fun u i wr => ∃ (k : Nat) (g : Int), k ≤ len ∧ 0 ≤ g ∧ g ≤ 9223372036854775807 ∧ u = .int .i64 g ∧ i = .int .i64 k ∧ Below w.heap.size w wr) (fun _ i _ => len - (intOf i).toNat)
      case atStart => exact ⟨0, 0, by omega, by omega, by omega, rfl, rfl, Below.refl _ _⟩
      case round =>
        obtain ⟨k, g, hk, g0, g1, rfl, rfl, b2⟩ := hrel
        by_cases hlt : k < len
        · have hxl : k < xs.length := by have := HN.out; omega
          obtain ⟨b, off, rfl, hc1, hc2⟩ := (H.out.below b2).at_ hxl
          have hmem := HI.out _ (List.getElem_mem hxl)
          generalize xs[k]'hxl = y at *
          obtain ⟨s, a⟩ := y
          have HS := Lib.hid hmem.1
          have HA := Lib.hid hmem.2
          have HG : Hid (InInt g) := ⟨by omega, g1⟩
          have HZ : Hid (InInt 0) := ⟨by omega, by omega⟩
          have hi : 0 ≤ (k : Int) ∧ (k : Int) < (len : Int) := by omega
          simp only at hc1 hc2
          clear hmem
          have hbl : b < wr.heap.size := by
            obtain ⟨_, hlt'⟩ := spot_none hc1
            exact hlt'
          have c0 : ∀ q : From wr, q.W.cell? ⟨b, off + k * 2, none⟩ = some (.int .i64 s) := fun q => (q.bel.cell (p := ⟨b, off + k * 2, none⟩) hbl).trans hc1
          have c1 : ∀ q : From wr, q.W.cell? ⟨b, off + k * 2 + 1, none⟩ = some (.int .i64 a) := fun q => (q.bel.cell (p := ⟨b, off + k * 2 + 1, none⟩) hbl).trans hc2
          have hk0 : decide ((k : Int) < 0) = false := decide_eq_false (by omega)
          have hk1 : decide ((len : Int) ≤ (k : Int)) = false := decide_eq_false (by omega)
          have hk2 : decide (len ≤ k) = false := decide_eq_false (by omega)
          have hb1 := Below.refl wr.heap.size wr
          clear hc1 hc2
          go_upto_region 7 with fail
          refine wp_region_from (w0 := wr) (by kernel_rfl) (by kernel_rfl) hb1 ?_
          repeat (go_big_quiet_step (fail))
          refine wpQuiet_nil ?_
          intro wq hw'
          obtain ⟨⟨wy, hq⟩, hw''⟩ := hw'
          subst hw''
          have b3 := b2.trans (hq.mono b2.size)
          clear c0 c1 hk0 hk1 hk2 hb1 b2 hq hbl
          obtain ⟨e, ee⟩ : ∃ x, placeE g s a h = x := ⟨_, rfl⟩
          have HF := place_nil (s := s) (a := a) HH.out.2
          obtain ⟨f, ef⟩ : ∃ x, placeE 0 s a h = x := ⟨_, rfl⟩
          obtain ⟨x', ex'⟩ : ∃ x, placeA 0 s a h = x := ⟨_, rfl⟩
          obtain ⟨y', ey'⟩ : ∃ x, placeN 0 s a h = x := ⟨_, rfl⟩
          have EX' := Lib.hid ex'
          have EY' := Lib.hid ey'
          clear ex' ey'
          by_cases he : e = 0
          · subst he
            obtain ⟨f0, a1, _, a2, a3, s1, a4, ea, en, eu⟩ := place_row HH.out.2 ee
            have EE := Lib.hid ee
            have EF := Lib.hid f0
            have EA := Lib.hid ea
            have EN := Lib.hid en
            have EU := Lib.hid eu
            clear ee ef f0 ea en eu HF
            generalize upTo g a = v at *
            obtain ⟨n, en⟩ : ∃ n, v + s = n := ⟨_, rfl⟩
            obtain ⟨u, eu⟩ : ∃ u, v - g = u := ⟨_, rfl⟩
            have a4' : n ≤ h := by omega
            have n0 : v < n := by omega
            have nmax : n ≤ 9223372036854775807 := by have := HH.out.2; omega
            have z1 : (n - v == s) = true := beq_iff_eq.2 (by omega)
            have z2 : (u == v - g) = true := beq_iff_eq.2 (by omega)
            have z5 : (n - v != s) = false := by rw [bne, z1]; rfl
            have z6 : (u != v - g) = false := by rw [bne, z2]; rfl
            have z3 : Int.tmod v a = 0 := by rw [Int.tmod_eq_emod_of_nonneg (by omega)]; exact a3
            have z4 : ¬ a = 0 := by omega
            have EN' : Hid (placeN g s a h = n) := EN.out.trans en
            have EU' : Hid (wasteV g a = u) := EU.out.trans eu
            have hs2 := HS.out.2
            unfold InInt at hs2
            clear en eu a4 EN EU
            go_wp2_with fail
            refine (place_is _ HG.out HS.out HA.out HH.out EA.out EN'.out EE.out).mono ?_
            rintro e w' ⟨rfl, rfl⟩
            go_wp2_with fail
            refine (place_is _ HZ.out HS.out HA.out HH.out EX'.out EY'.out EF.out).mono ?_
            rintro e w' ⟨rfl, rfl⟩
            go_wp2_with fail
            refine (waste_is _ HG.out HA.out EU'.out).mono ?_
            rintro e w' ⟨rfl, rfl⟩
            go_wp2
            go_roundw
            case rel => exact ⟨k + 1, n, by omega, by omega, by omega, rfl, by go_num, b3⟩
            case measure => simp [intOf]; omega
          · have he0 : (e == 0) = false := beq_eq_false_iff_ne.2 he
            have EE := Lib.hid ee
            obtain ⟨x, ex⟩ : ∃ x, placeA g s a h = x := ⟨_, rfl⟩
            obtain ⟨n, en⟩ : ∃ x, placeN g s a h = x := ⟨_, rfl⟩
            have EX := Lib.hid ex
            have EN := Lib.hid en
            have hf : f = 0 ∨ f = 2 ∨ f = 5 := by rw [← ef]; exact HF.1
            clear ee ex en HF
            rcases hf with rfl | rfl | rfl
            all_goals
              have EF := Lib.hid ef
              clear ef
              go_wp2_with fail
              refine (place_is _ HG.out HS.out HA.out HH.out EX.out EN.out EE.out).mono ?_
              rintro e' w' ⟨rfl, rfl⟩
              go_wp2_with fail
              refine (place_is _ HZ.out HS.out HA.out HH.out EX'.out EY'.out EF.out).mono ?_
              rintro e' w' ⟨rfl, rfl⟩
              go_wp2
              go_roundw
              case rel => exact ⟨k + 1, g, by omega, by omega, by omega, rfl, by go_num, b3⟩
              case measure => simp [intOf]; omega
        · have hge : (len : Int) ≤ (k : Int) := by omega
          have B := Lib.hid b2
          go_wp2_with (go_at_call 9; refine (works_any _).mono ?_; rintro e w' ⟨rfl, rfl⟩)
          go_ret
          exact ⟨rfl, B.out⟩
end Go.Proofs.Ytphpcfimooccdaa
