/- The walk of ChainMoves. -/
import Derived.Test.YtffpnpcbfogemaaChainWorks
import Derived.Test.YtffpnpcbfogemaaBaseRows
namespace Go.Proofs.Ytffpnpcbfogemaa
open Go.RowKit

/-- Lists 0 and 1 have these, no other has any. -/
def two (l k : List Nat) : Nat → List Nat := fun i => if i = 0 then l else if i = 1 then k else []
theorem two_one (l : List Nat) : one l = two l [] := by
  funext i
  unfold one two
  split
  · rfl
  · split <;> rfl
theorem two_upd0 (l k l' : List Nat) : upd (two l k) 0 l' = two l' k := by
  funext i
  unfold upd two
  split <;> rfl
theorem two_upd1 (l k k' : List Nat) : upd (two l k) 1 k' = two l k' := by
  funext i
  unfold upd two
  by_cases h : i = 1
  · subst h; rfl
  · rw [if_neg h, if_neg h, if_neg h]
theorem two_out {l k : List Nat} {x : Int} (h : ∀ y ∈ l, (y : Int) ≠ x) (h' : ∀ y ∈ k, (y : Int) ≠ x) : Out (two l k) x := fun i y e hy => by
  unfold two at hy
  split at hy
  · exact h y hy e
  · split at hy
    · exact h' y hy e
    · cases hy
theorem add_one {w : World} {lo hi L N y : Nat} {v : Value} {D : List Nat} (h : ChainIn w lo hi v L N (one D)) (hL : 0 < L) (hy : y < N) :
    Calls Try.prog 12 #[v, .int .i64 0, .int .i64 y] w fun e w' => ∃ b D', StepIn w lo hi v L N (one D') b e w' ∧ y ∈ D' ∧ ∀ z ∈ D, z ∈ D' := by
  by_cases hm : y ∈ D
  · exact (add_no h (i := 0) (x := y) (fun hc => hc.2.2 0 y rfl hm)).mono fun e w' hs => ⟨false, D, hs, hm, fun z hz => hz⟩
  · exact (add_yes h (i := 0) (x := y) hL hy (one_out fun k hk e => hm ((show k = y by omega) ▸ hk))).mono fun e w' ⟨h1, h2, h3⟩ => ⟨true, D ++ [y], ⟨h1, h2.like (one_upd _ _), h3⟩, by simp, fun z hz => by simp [hz]⟩
/-- Which of what is left stands where this stood. -/
def skip (p i : Nat) : Nat := if i ≤ p then i else i - 1
theorem skip_at {a b : List Nat} {x i : Nat} (hp : i ≠ a.length) : (a ++ b)[skip a.length i]? = (a ++ x :: b)[i]? := by
  unfold skip
  by_cases h : i ≤ a.length
  · rw [if_pos h, List.getElem?_append_left (by omega), List.getElem?_append_left (by omega)]
  · rw [if_neg h, List.getElem?_append_right (by omega), List.getElem?_append_right (by omega)]
    rw [show i - a.length = (i - 1 - a.length) + 1 by omega, List.getElem?_cons_succ]
theorem add_255 {w : World} {lo hi : Nat} {v : Value} {D : List Nat} (h : ChainIn w lo hi v 2 256 (one D)) :
    Calls Try.prog 12 #[v, .int .i64 1, .int .i64 255] w fun e w' => ∃ b E, StepIn w lo hi v 2 256 (two D E) b e w' := by
  by_cases hm : 255 ∈ D
  · exact (add_no h (i := 1) (x := 255) (fun hc => hc.2.2 0 255 rfl hm)).mono fun e w' ⟨h1, h2, h3⟩ => ⟨false, [], h1, h2.like (two_one D), h3⟩
  · exact (add_yes h (i := 1) (x := 255) (by omega) (by omega) (one_out fun k hk e => hm ((show k = 255 by omega) ▸ hk))).mono fun e w' ⟨h1, h2, h3⟩ => ⟨true, [255], h1, h2.like (by rw [two_one, two_upd1]; rfl), h3⟩
theorem skip_step {p i : Nat} (h : i ≠ p) : skip p (i + 1) = skip p i + 1 := by unfold skip; split <;> split <;> omega
theorem skip_same (p : Nat) : skip p (p + 1) = skip p p := by unfold skip; rw [if_neg (by omega), if_pos (by omega)]; omega
set_option maxRecDepth 100000 in
set_option maxHeartbeats 3200000 in
theorem moves_any {w : World} {A : Option Addr} {xs : List Nat} {len c kk : Nat} (h : BytesAt w A xs) (hlen : len = xs.length) (hkk : kk < 256) :
    Calls Try.prog 5 #[.slice A len c, .int .u8 kk] w (TrueBelow w) := by
  have hnot := not_any
  by_cases hbig : 100 < (len : Int)
  · clear h
    go_enter Try.func5, Try.ntmps5
    go_wp2_with fail
    refine works_any.mono ?_
    rintro e w' ⟨rfl, hb⟩
    go_wp2
    go_ret
    exact ⟨rfl, hb⟩
  · by_cases h0 : len = 0
    · subst h0
      clear h hlen hbig
      go_enter Try.func5, Try.ntmps5
      go_wp2_with fail
      refine works_any.mono ?_
      rintro e w' ⟨rfl, hb⟩
      go_wp2
      go_ret
      exact ⟨rfl, hb⟩
    · have hne0 : ((len : Int) == 0) = false := by simp; omega
      have hle : len ≤ 100 := by omega
      have HN := Lib.hid hlen
      have H := Lib.hid h
      clear h hlen
      go_enter Try.func5, Try.ntmps5
      go_wp2_with fail
      refine (new_in (L := 2) (N := 256) (by omega) (by omega)).mono ?_
      rintro e w1 ⟨g, rfl, s1, b1⟩
      have s1 := s1.like one_nil
      go_wp2
      go_loopw [6] (fun i wr => ∃ (k : Nat) (D : List Nat), k ≤ len ∧ i = .int .i64 k ∧ ChainIn wr w.heap.size w1.heap.size (.pointer (some ⟨g, 0, none⟩)) 2 256 (one D) ∧ Below w.heap.size w wr ∧ Hid (∀ (j y : Nat), j < k → xs[j]? = some y → y ∈ D)) (fun i _ => len - (intOf i).toNat)
      case atStart => exact ⟨0, [], Nat.zero_le _, rfl, s1, b1, fun j y hj => by omega⟩
      case round =>
        clear s1
        obtain ⟨k, D, hk, rfl, s2, b2, hin⟩ := hrel
        by_cases hlt : k < len
        · have hkx : k < xs.length := by have := HN.out; omega
          have hi : 0 ≤ (k : Int) ∧ (k : Int) < (len : Int) := by omega
          obtain ⟨b, off, rfl, h256, hc⟩ := H.out.at_ hkx
          have hbl := World.block_lt_of_cell? _ _ hc
          have HX : Hid (xs[k]? = some (xs[k]'hkx)) := List.getElem?_eq_getElem hkx
          generalize xs[k]'hkx = y at *
          have hcr : wr.cell? ⟨b, off + k, none⟩ = some (.int .u8 y) := (b2.cell (p := ⟨b, off + k, none⟩) hbl).trans hc
          have hwr : IntKind.i64.wrap (y : Int) = (y : Int) := IntWalk.i64_in _ (by omega)
          clear hc
          go_wp2_with fail
          refine (add_one s2 (by omega) h256).mono ?_
          rintro e w3 ⟨r, D', ⟨rfl, s3, c3⟩, hy, hsub⟩
          have b3 := c3.below b2 b2.size (.inl (Nat.le_refl _))
          have HIN : Hid (∀ (j z : Nat), j < k + 1 → xs[j]? = some z → z ∈ D') := fun j z hj hz => by
            by_cases e : j = k
            · subst e
              rw [HX.out] at hz
              injection hz with hz
              rw [← hz]; exact hy
            · exact hsub z (hin.out j z (by omega) hz)
          clear s2 b2 c3 hin hsub hy
          go_wp2
          go_roundw
          case rel => exact ⟨k + 1, D', by omega, by go_num, s3, b3, HIN⟩
          case measure => simp [intOf]; omega
        · obtain rfl : k = len := by omega
          have hq : kk % k < k := Nat.mod_lt _ (by omega)
          obtain ⟨q, eq⟩ : ∃ q, q = kk % k := ⟨_, rfl⟩
          rw [← eq] at hq
          have hqx : q < xs.length := by have := HN.out; omega
          obtain ⟨b, off, rfl, h256, hc⟩ := H.out.at_ hqx
          have hbl := World.block_lt_of_cell? _ _ hc
          have hxD : xs[q]'hqx ∈ D := hin.out q _ hq (List.getElem?_eq_getElem hqx)
          generalize xs[q]'hqx = x at *
          have htm : Int.tmod (kk : Int) (k : Int) = (q : Int) := by rw [Int.tmod_eq_emod_of_nonneg (by omega), eq]; push_cast; rfl
          have hw1 : IntKind.i64.wrap (kk : Int) = (kk : Int) := IntWalk.i64_in _ (by omega)
          have hw2 : IntKind.i64.wrap (q : Int) = (q : Int) := IntWalk.i64_in _ (by omega)
          have hw3 : IntKind.i64.wrap (x : Int) = (x : Int) := IntWalk.i64_in _ (by omega)
          have hqr : 0 ≤ (q : Int) ∧ (q : Int) < (k : Int) := by omega
          clear hin hlt eq hbig HN H
          go_wp2_with fail
          refine (add_255 s2).mono ?_
          rintro e w3 ⟨r, E, rfl, s3, c3⟩
          have b3 := c3.below b2 b2.size (.inl (Nat.le_refl _))
          have hcr : w3.cell? ⟨b, off + q, none⟩ = some (.int .u8 x) := (b3.cell (p := ⟨b, off + q, none⟩) hbl).trans hc
          clear s2 b2 c3 hc
          by_cases hx255 : x = 255
          · subst hx255
            go_wp2_with fail
            refine works_any.mono ?_
            rintro e w4 ⟨rfl, b4⟩
            have b5 := b3.trans (b4.mono b3.size)
            go_wp2
            go_ret
            exact ⟨rfl, b5⟩
          · have hbx : ((x : Int) == 255) = false := by simp; omega
            have hbxx : ((x : Int) != (x : Int)) = false := by simp
            obtain ⟨a, d, rfl⟩ := List.append_of_mem hxD
            have hnd : (a ++ x :: d).Nodup := s3.1.nodup 0
            have hlenD : (a ++ x :: d).length ≤ 256 := s3.1.len 0
            have ho : Out (two (a ++ d) E) (x : Int) := by
              have := out_drop s3.1 (i := 0) (x := x) (a := a) (b := d) rfl
              rwa [two_upd0] at this
            clear hxD hx255
            go_wp2_with fail
            refine (list_is s3 (x := 0) (l := a ++ x :: d) rfl).mono ?_
            rintro e w4 ⟨v4, rfl, ⟨A4, c4, rfl, _, i4, l4⟩, b4⟩
            obtain ⟨ld, eld⟩ : ∃ ld, (a ++ x :: d).length = ld := ⟨_, rfl⟩
            rw [eld] at hlenD ⊢
            have HLD := Lib.hid eld
            clear eld
            have s4 := s3.below b4
            have b5 := b3.trans (b4.mono b3.size)
            have hz3 := s3.2.1
            clear s3 b3
            go_wp2_with fail
            refine (drop_yes s4 (i := 0) (x := x) (a := a) (b := d) rfl).mono ?_
            rintro e w6 ⟨rfl, s6, c6⟩
            have s6 := s6.like (two_upd0 _ _ _)
            have b6 := c6.below b5 b5.size (.inl (Nat.le_refl _))
            have i6 := i4.chg l4 c6 (.inl hz3)
            clear s4 b5 i4
            go_wp2_with fail
            refine (add_yes s6 (i := 1) (x := x) (by omega) h256 ho).mono ?_
            rintro e w7 ⟨rfl, s7, c7⟩
            have s7 : ChainIn w7 _ _ _ 2 256 (two (a ++ d) (E ++ [x])) := s7.like (two_upd1 _ _ _)
            have b7 := c7.below b6 b6.size (.inl (Nat.le_refl _))
            have i7 := i6.chg l4 c7 (.inl hz3)
            clear s6 b6 i6 c6 c7 ho
            go_wp2_with fail
            refine (last_is s7 (x := 1) (r := (x : Int)) (lst_push E x (-1))).mono ?_
            rintro e w8 ⟨rfl, b8⟩
            have s8 := s7.below b8
            have b9 := b7.trans (b8.mono b7.size)
            have i8 := i7.chg l4 (Chg.of_below (lo := 0) (hi := 0) b8) (by omega)
            clear s7 b7 b8 i7
            go_wp2_with fail
            refine (of_is s8 (x := (x : Int)) (.at_ 1 E x [] rfl rfl)).mono ?_
            rintro e w10 ⟨rfl, b10⟩
            have s10 := s8.below b10
            have b11 := b9.trans (b10.mono b9.size)
            have i10 := i8.chg l4 (Chg.of_below (lo := 0) (hi := 0) b10) (by omega)
            clear s8 b9 b10 i8
            go_wp2_with fail
            refine (list_is s10 (x := 0) (l := a ++ d) rfl).mono ?_
            rintro e w12 ⟨v12, rfl, ⟨A12, c12, rfl, _, i12, _⟩, b12⟩
            have b13 := b11.trans (b12.mono b11.size)
            have i11 := i10.chg l4 (Chg.of_below (lo := 0) (hi := 0) b12) (by omega)
            clear s10 b11 b12 i10
            obtain ⟨ln, eln⟩ : ∃ ln, (a ++ d).length = ln := ⟨_, rfl⟩
            obtain ⟨p, ep⟩ : ∃ p, a.length = p := ⟨_, rfl⟩
            have hl : ld = ln + 1 ∧ p ≤ ln ∧ ld ≤ 256 := by
              have eld := HLD.out
              simp only [List.length_append, List.length_cons] at eld eln
              omega
            have HX : Hid (x ∉ a ++ d) := by
              obtain ⟨_, h1, h2⟩ := nodup_cut hnd
              show ¬ _
              intro h
              rcases List.mem_append.1 h with h | h
              · exact h1 h
              · exact h2 h
            have HS : Hid (∀ i y, i ≠ p → (a ++ x :: d)[i]? = some y → (a ++ d)[skip p i]? = some y) := fun i y hi hy => by
              subst ep
              rw [skip_at hi, hy]
            have HY : Hid ((a ++ x :: d)[p]? = some x) := by
              show _ = _
              subst ep
              rw [List.getElem?_append_right (Nat.le_refl _), Nat.sub_self]
              rfl
            have HLN := Lib.hid eln
            rw [eln]
            have I1 := Lib.hid i11
            have I2 := Lib.hid i12
            clear eln ep hnd hlenD i11 i12 l4 hq hqx hbl h256 htm hw1 hw2 hw3 hqr hbx b1 s1 hk hkk hle
            generalize hU : a ++ x :: d = U at *
            generalize hV : a ++ d = V at *
            clear hU hV
            go_wp2
            go_loopw [10, 11] (fun nv iv wr2 => ∃ i t : Nat, i ≤ ld ∧ iv = .int .i64 i ∧ nv = .int .i64 (skip p i : Nat) ∧ wr2 = w12.drewN t) (fun _ iv _ => ld - (intOf iv).toNat)
            case atStart => exact ⟨0, 0, Nat.zero_le _, rfl, rfl, rfl⟩
            case round =>
              obtain ⟨i, t, hi, rfl, rfl, rfl⟩ := hrel
              by_cases hlt : i < ld
              · have hir : 0 ≤ (i : Int) ∧ (i : Int) < (ld : Int) := by omega
                have hix : i < U.length := by have := HLD.out; omega
                have HG : Hid (U[i]? = some (U[i]'hix)) := List.getElem?_eq_getElem hix
                generalize U[i]'hix = y at *
                obtain ⟨b2, o2, rfl, hc2⟩ := I1.out.nat HG.out
                by_cases hip : i = p
                · subst hip
                  have hyx : y = x := by
                    have := HY.out
                    rw [HG.out] at this
                    injection this
                  subst hyx
                  have hbb : ((y : Int) == (y : Int)) = true := by simp
                  have HK : Hid (skip i (i + 1) = skip i i) := skip_same i
                  go_wp2
                  go_roundw
                  case rel => exact ⟨i + 1, t, by omega, by go_num, by rw [HK.out], rfl⟩
                  case measure => simp [intOf]; omega
                · have hgV := HS.out i y hip HG.out
                  have hyV : y ∈ V := List.mem_of_getElem? hgV
                  have hbb : ((y : Int) == (x : Int)) = false := by
                    have : y ≠ x := fun e => HX.out (e ▸ hyV)
                    simp; omega
                  have hsl : skip p i < ln := by
                    have := (List.getElem?_eq_some_iff.1 hgV).1
                    have := HLN.out
                    omega
                  obtain ⟨b3, o3, rfl, hc3⟩ := I2.out.nat hgV
                  have HK : Hid (skip p (i + 1) = skip p i + 1) := skip_step hip
                  have hbn : ((y : Int) != (y : Int)) = false := by simp
                  clear hyV hgV
                  generalize skip p i = n at *
                  have hnr : 0 ≤ (n : Int) ∧ (n : Int) < (ln : Int) := by omega
                  have hge : ¬ (ln : Int) ≤ (n : Int) := by omega
                  have hdg : decide ((ln : Int) ≤ (n : Int)) = false := decide_eq_false hge
                  go_wp2
                  go_quiet (fail)
                  go_wp2
                  go_roundw
                  case rel => exact ⟨i + 1, t + nq, by omega, by go_num, by rw [HK.out]; go_num, rfl⟩
                  case measure => simp [intOf]; omega
              · have hsk : skip p i = ln := by unfold skip; rw [if_neg (by omega)]; omega
                rw [hsk]
                have hbb : ((ln : Int) == (ln : Int)) = true := by simp
                have b14 := below_drewN b13 t
                go_wp2_with fail
                refine works_any.mono ?_
                rintro e w14 ⟨rfl, b15⟩
                have b16 := b14.trans (b15.mono b14.size)
                go_wp2
                go_ret
                exact ⟨rfl, b16⟩
end Go.Proofs.Ytffpnpcbfogemaa
