/- Layer 10 (bytes): the walk of BytesPlays. -/
import Derived.Test.YtcfnnchbnlcppaaBytesSame
import Derived.Test.YtcfnnchbnlcppaaBaseStrs
namespace Go.Proofs.Ytcfnnchbnlcppaa
open Go.RowKit Go.Maps

/-- A call: its kind, two numbers, a text. -/
abbrev ActS := Int × Int × Int × ByteArray
def ActsS (w : World) (A : Option Addr) (acs : List ActS) : Prop := acs = [] ∨ ∃ b off, A = some ⟨b, off, none⟩ ∧ b < w.heap.size ∧ ∀ (k : Nat) (p : ActS), acs[k]? = some p →
  w.cell? ⟨b, off + k * 4, none⟩ = some (.int .i64 p.1) ∧ w.cell? ⟨b, off + k * 4 + 1, none⟩ = some (.int .i64 p.2.1) ∧ w.cell? ⟨b, off + k * 4 + 2, none⟩ = some (.int .i64 p.2.2.1) ∧ w.cell? ⟨b, off + k * 4 + 3, none⟩ = some (.string p.2.2.2) ∧ InInt p.2.1 ∧ InInt p.2.2.1
theorem ActsS.at_ {w : World} {A : Option Addr} {acs : List ActS} (h : ActsS w A acs) {k : Nat} (hk : k < acs.length) : ∃ b off K x n t, A = some ⟨b, off, none⟩ ∧ b < w.heap.size ∧
    w.cell? ⟨b, off + k * 4, none⟩ = some (.int .i64 K) ∧ w.cell? ⟨b, off + k * 4 + 1, none⟩ = some (.int .i64 x) ∧ w.cell? ⟨b, off + k * 4 + 2, none⟩ = some (.int .i64 n) ∧ w.cell? ⟨b, off + k * 4 + 3, none⟩ = some (.string t) ∧ InInt x ∧ InInt n := by
  rcases h with h | ⟨b, off, e, hb, hc⟩
  · subst h; simp at hk
  · obtain ⟨h1, h2, h3, h4, h5, h6⟩ := hc k _ (List.getElem?_eq_getElem hk)
    exact ⟨b, off, _, _, _, _, e, hb, h1, h2, h3, h4, h5, h6⟩
theorem ActsS.below {w w' : World} {A : Option Addr} {acs : List ActS} (h : ActsS w A acs) (hb : Below w.heap.size w w') : ActsS w' A acs := by
  rcases h with h | ⟨b, off, e, hlt, hc⟩
  · exact .inl h
  · refine .inr ⟨b, off, e, Nat.lt_of_lt_of_le hlt hb.size, fun k p hk => ?_⟩
    obtain ⟨h1, h2, h3, h4, h5⟩ := hc k p hk
    have cell : ∀ j, w'.cell? ⟨b, j, none⟩ = w.cell? ⟨b, j, none⟩ := fun j => hb.cell (p := ⟨b, j, none⟩) hlt
    exact ⟨(cell _).trans h1, (cell _).trans h2, (cell _).trans h3, (cell _).trans h4, h5⟩
open Classical in
noncomputable def intOfV (v : Value) : Int := if h : ∃ n, v = .int .i64 n ∧ (Lit.int .i64 n).wf = true then h.choose else 0
open Classical in
noncomputable def strOfV (v : Value) : ByteArray := if h : ∃ s : ByteArray, v = .string s ∧ s.size ≤ maxLen then h.choose else ByteArray.empty
theorem intOfV_is {v : Value} (h : KindS (some (some .i64)) v) : v = .int .i64 (intOfV v) ∧ InInt (intOfV v) := by
  unfold intOfV
  have h' : ∃ n, v = .int .i64 n ∧ (Lit.int .i64 n).wf = true := h
  rw [dif_pos h']
  exact ⟨h'.choose_spec.1, int_range_i64 h'.choose_spec.2⟩
theorem strOfV_is {v : Value} (h : KindS none v) : v = .string (strOfV v) := by
  unfold strOfV
  have h' : ∃ s : ByteArray, v = .string s ∧ s.size ≤ maxLen := h
  rw [dif_pos h']
  exact h'.choose_spec.1
theorem strs_acts {w : World} {a : Option Addr} {len cap : Nat} {f : Nat → Nat → Value} (h : StrIn w a len cap [some (some .i64), some (some .i64), some (some .i64), none] f) : ∃ acs, ActsS w a acs ∧ len = acs.length := by
  refine ⟨(List.range len).map fun i => (intOfV (f i 0), intOfV (f i 1), intOfV (f i 2), strOfV (f i 3)), ?_, by simp⟩
  by_cases h0 : len = 0
  · subst h0; exact .inl rfl
  · obtain ⟨b, off, e, hb, hc⟩ := h.cells (by simp) (by omega)
    refine .inr ⟨b, off, e, hb, fun k p hp => ?_⟩
    have hk : k < len := by
      have := (List.getElem?_eq_some_iff.1 hp).1
      simpa using this
    rw [List.getElem?_map, List.getElem?_range hk] at hp
    injection hp with hp
    subst hp
    obtain ⟨a0, b0⟩ := hc k 0 _ hk rfl
    obtain ⟨a1, b1⟩ := hc k 1 _ hk rfl
    obtain ⟨a2, b2⟩ := hc k 2 _ hk rfl
    obtain ⟨a3, b3⟩ := hc k 3 _ hk rfl
    rw [(intOfV_is b0).1] at a0
    rw [(intOfV_is b1).1] at a1
    rw [(intOfV_is b2).1] at a2
    rw [strOfV_is b3] at a3
    exact ⟨a0, a1, a2, a3, (intOfV_is b1).2, (intOfV_is b2).2⟩
set_option maxRecDepth 100000 in
set_option maxHeartbeats 8000000 in
theorem plays_in {w : World} {A : Option Addr} {cap N : Nat} {acs : List ActS} (h : ActsS w A acs) (h40 : acs.length ≤ 40) (h1 : 1 ≤ N) (h2 : N ≤ 2000) : Calls Try.prog 3 #[.int .i64 N, .slice A acs.length cap] w (Well w) := by
  obtain ⟨len, hl⟩ : ∃ len, acs.length = len := ⟨_, rfl⟩
  rw [hl] at h40 ⊢
  have HL := Lib.hid hl
  have HA := Lib.hid h
  have d0 : decide ((40 : Int) < (len : Int)) = false := decide_eq_false (by omega)
  have d0' : decide (40 < len) = false := decide_eq_false (by omega)
  have d1 : decide ((2000 : Int) < (N : Int)) = false := decide_eq_false (by omega)
  have d1' : decide (2000 < N) = false := decide_eq_false (by omega)
  have d2 : decide ((N : Int) < 1) = false := decide_eq_false (by omega)
  have d2' : decide (N < 1) = false := decide_eq_false (by omega)
  have d3 : decide ((1048576 : Int) < (N : Int)) = false := decide_eq_false (by omega)
  have d3' : decide (1048576 < N) = false := decide_eq_false (by omega)
  have hNI : InInt (N : Int) := ⟨by omega, by omega⟩
  clear h hl
  go_enter Try.func3, Try.ntmps3
  go_wp2_with fail
  refine (new_in w (n := N) h1 (by omega)).mono ?_
  rintro e w1 ⟨g, b, rfl, c1, hg1, hb1, bel1⟩
  have C1 := Lib.hid c1
  have HBb := Lib.hid hb1
  have HB1 := Lib.hid bel1
  clear c1 hg1 hb1 bel1
  go_wp2_with fail
  refine (rnew_is w1 (n := N) (by omega)).mono ?_
  rintro e w2 ⟨rfl, b2⟩
  have C2 : Hid (ChunkAt w2 g b N (byteAt (zeros N))) := by
    show ChunkAt _ _ _ _ _
    rw [zeros_at]
    exact C1.out.more b2
  have HB2 := Lib.hid (step_below HB1.out b2)
  have HS2 : Hid ((zeros N).size = N) := zeros_size N
  generalize zeros N = s0 at *
  clear b2
  go_wp2_with fail
  go_loopw [6, 7] (fun sv iv wr => ∃ (i : Nat) (s : ByteArray), i ≤ len ∧ iv = .int .i64 i ∧ sv = .string s ∧ Hid (s.size = N) ∧ Hid (ChunkAt wr g b N (byteAt s)) ∧ Hid (Below w.heap.size w wr)) (fun _ iv _ => len - (RowKit.intOf iv).toNat)
  case atStart => exact ⟨0, s0, by omega, rfl, rfl, HS2, C2, HB2⟩
  case round =>
    obtain ⟨i, s, hi, rfl, rfl, HS, HC, HB⟩ := hrel
    by_cases hlt : i < len
    · have e1 : decide ((i : Int) < (len : Int)) = true := decide_eq_true (by omega)
      have e1' : decide (i < len) = true := decide_eq_true hlt
      have hil : 0 ≤ (i : Int) ∧ (i : Int) < (len : Int) := by omega
      obtain ⟨bb, off, K, x, m, t, rfl, hbb, k0, k1, k2, k3, hx, hm⟩ := HA.out.at_ (k := i) (by rw [HL.out]; exact hlt)
      have hc : ∀ j, wr.cell? ⟨bb, j, none⟩ = w.cell? ⟨bb, j, none⟩ := fun j => HB.out.cell (p := ⟨bb, j, none⟩) hbb
      have j0 := (hc _).trans k0
      have j1 := (hc _).trans k1
      have j2 := (hc _).trans k2
      have j3 := (hc _).trans k3
      clear hc k0 k1 k2 k3 hbb
      have n4 := World.rowIs_alloc wr #[.int .i64 K, .int .i64 x, .int .i64 m, .string t] 28 (fun | 0 => .int .i64 K | 1 => .int .i64 x | 2 => .int .i64 m | _ => .string t) (by
        intro i hi
        match i, hi with
        | 0, _ => rfl
        | 1, _ => rfl
        | 2, _ => rfl
        | 3, _ => rfl)
      go_upto_region 13 with fail
      have HCb := Lib.hid (HC.out.alloc (.cells #[.int .i64 K, .int .i64 x, .int .i64 m, .string t] 28))
      have HBb2 := Lib.hid (HB.out.alloc HB.out.size (.cells #[.int .i64 K, .int .i64 x, .int .i64 m, .string t] 28))
      have hqz : wr.heap.size < (wr.alloc (.cells #[.int .i64 K, .int .i64 x, .int .i64 m, .string t] 28)).heap.size := by simp
      generalize wr.alloc (.cells #[.int .i64 K, .int .i64 x, .int .i64 m, .string t] 28) = Wb at *
      generalize wr.heap.size = z at *
      have HBox : Hid (∀ W, Below Wb.heap.size Wb W → W.cell? ⟨z, 0, none⟩ = some (.int .i64 K) ∧ W.cell? ⟨z, 1, none⟩ = some (.int .i64 x) ∧ W.cell? ⟨z, 2, none⟩ = some (.int .i64 m) ∧ W.cell? ⟨z, 3, none⟩ = some (.string t)) := fun W hb => by
        have k := n4.of_block (hb.block _ hqz)
        exact ⟨k.cell (i := 0) (by simp), k.cell (i := 1) (by simp), k.cell (i := 2) (by simp), k.cell (i := 3) (by simp)⟩
      clear n4 hqz j0 j1 j2 j3
      have HX := Lib.hid hx
      have HM := Lib.hid hm
      clear hx hm
      obtain ⟨q0, q1, q2, q3⟩ := HBox.out Wb (Below.refl _ _)
      by_cases hbig : 3000 < t.size
      · have f1 : decide ((3000 : Int) < (t.size : Int)) = true := decide_eq_true (by omega)
        have f1' : decide (3000 < t.size) = true := decide_eq_true hbig
        go_wp2_with fail
        refine (works_is _).mono ?_
        rintro e w3 ⟨rfl, b3⟩
        go_wp2
        go_ret
        exact ⟨rfl, step_below HBb2.out b3⟩
      · have f1 : decide ((3000 : Int) < (t.size : Int)) = false := decide_eq_false (by omega)
        have f1' : decide (3000 < t.size) = false := decide_eq_false hbig
        have HT : Hid (t.size ≤ 1048576) := by show _ ≤ _; omega
        clear hbig
        by_cases hk0 : K = 0
        · subst hk0
          have HR : Hid (∀ W, Calls Try.prog 10 #[.string s, .int .i64 x, .string t] W fun e w' => e = .returned (.tuple #[.string (storeS s x t), .int .i64 (rangeE N x t.size)]) ∧ Below W.heap.size W w') := fun W => by
            have := rstore_is W s t (by rw [HS.out]; omega) HT.out HX.out
            rw [storeV_is, HS.out] at this
            exact this
          have HP : Hid (∀ W, Below Wb.heap.size Wb W → Calls Try.prog 11 #[.pointer (some ⟨g, 0, none⟩), .int .i64 x, .string t] W (Done W g b N (byteAt (storeS s x t)) (rangeE N x t.size))) := fun W hb => store_any (HCb.out.more hb) HS.out HX.out HT.out
          have HSz : Hid ((storeS s x t).size = N) := (storeS_size _ _ _).trans HS.out
          generalize storeS s x t = S at *
          generalize rangeE N x t.size = r at *
          go_wp2_with fail
          refine (HR.out _).mono ?_
          rintro e w3 ⟨rfl, b3⟩
          have HP3 := Lib.hid (HP.out w3 b3)
          have HB3 := Lib.hid (step_below HBb2.out b3)
          clear q0 q1 q2 q3
          obtain ⟨q0, q1, q2, q3⟩ := HBox.out w3 b3
          clear b3
          go_wp2_with fail
          refine HP3.out.mono ?_
          rintro e w4 ⟨rfl, c4, but4⟩
          have HC4 := Lib.hid c4
          have HB4 : Hid (Below w.heap.size w w4) := HB3.out.trans (but4.below HB3.out.size fun j hj => by subst hj; exact HBb.out)
          clear c4 but4 q0 q1 q2 q3
          obtain ⟨d, hd⟩ : ∃ d, cnt (byteAt S) N = d := ⟨_, rfl⟩
          have HD := Lib.hid hd
          have HD2 : Hid (cnt (byteAt S) S.size = d) := by show _ = _; rw [HSz.out]; exact hd
          have HSm : Hid (S.size ≤ 1048576) := by show _ ≤ _; rw [HSz.out]; omega
          obtain ⟨q, hq⟩ : ∃ q, ((d : Int) == 0) = q := ⟨_, rfl⟩
          have HQ : Hid ((cnt (byteAt S) N == 0) = q) := by
            show _ = _
            rw [hd, ← hq, Bool.eq_iff_iff]
            simp only [beq_iff_eq]
            omega
          clear hd
          go_wp2_with fail
          refine (clean_at HC4.out HQ.out).mono ?_
          rintro e wA ⟨rfl, rfl⟩
          go_wp2_with fail
          refine (rdirty_is _ S HSm.out HD2.out).mono ?_
          rintro e wA ⟨rfl, rfl⟩
          go_wp2_with fail
          refine (dirty_at HC4.out HD.out).mono ?_
          rintro e wB ⟨rfl, bB⟩
          have HCy := Lib.hid (HC4.out.more bB)
          have HBy := Lib.hid (step_below HB4.out bB)
          clear bB
          go_wp2_with fail
          refine (rdirty_is _ S HSm.out HD2.out).mono ?_
          rintro e wC ⟨rfl, rfl⟩
          go_wp2_with fail
          go_roundw
          case rel => exact ⟨i + 1, S, by omega, by simp, rfl, HSz, HCy, HBy⟩
          case measure => simp [RowKit.intOf]; omega
        have g0 : (K == 0) = false := by rw [beq_eq_false_iff_ne]; exact hk0
        by_cases hk1 : K = 1
        · subst hk1
          have HR : Hid (∀ W, Calls Try.prog 12 #[.string s, .int .i64 x, .int .i64 m] W fun e w' => e = .returned (.tuple #[.string (wipeS s x m), .int .i64 (rangeE N x m)]) ∧ Below W.heap.size W w') := fun W => by
            have := rwipe_is W s (by rw [HS.out]; omega) HX.out HM.out
            rw [wipeV_is, HS.out] at this
            exact this
          have HP : Hid (∀ W, Below Wb.heap.size Wb W → Calls Try.prog 13 #[.pointer (some ⟨g, 0, none⟩), .int .i64 x, .int .i64 m] W (Done W g b N (byteAt (wipeS s x m)) (rangeE N x m))) := fun W hb => wipe_any (HCb.out.more hb) HS.out HX.out HM.out
          have HSz : Hid ((wipeS s x m).size = N) := (wipeS_size _ _ _).trans HS.out
          generalize wipeS s x m = S at *
          generalize rangeE N x m = r at *
          clear hk0
          go_wp2_with fail
          refine (HR.out _).mono ?_
          rintro e w3 ⟨rfl, b3⟩
          have HP3 := Lib.hid (HP.out w3 b3)
          have HB3 := Lib.hid (step_below HBb2.out b3)
          clear q0 q1 q2 q3
          obtain ⟨q0, q1, q2, q3⟩ := HBox.out w3 b3
          clear b3
          go_wp2_with fail
          refine HP3.out.mono ?_
          rintro e w4 ⟨rfl, c4, but4⟩
          have HC4 := Lib.hid c4
          have HB4 : Hid (Below w.heap.size w w4) := HB3.out.trans (but4.below HB3.out.size fun j hj => by subst hj; exact HBb.out)
          clear c4 but4 q0 q1 q2 q3
          obtain ⟨d, hd⟩ : ∃ d, cnt (byteAt S) N = d := ⟨_, rfl⟩
          have HD := Lib.hid hd
          have HD2 : Hid (cnt (byteAt S) S.size = d) := by show _ = _; rw [HSz.out]; exact hd
          have HSm : Hid (S.size ≤ 1048576) := by show _ ≤ _; rw [HSz.out]; omega
          obtain ⟨q, hq⟩ : ∃ q, ((d : Int) == 0) = q := ⟨_, rfl⟩
          have HQ : Hid ((cnt (byteAt S) N == 0) = q) := by
            show _ = _
            rw [hd, ← hq, Bool.eq_iff_iff]
            simp only [beq_iff_eq]
            omega
          clear hd
          go_wp2_with fail
          refine (clean_at HC4.out HQ.out).mono ?_
          rintro e wA ⟨rfl, rfl⟩
          go_wp2_with fail
          refine (rdirty_is _ S HSm.out HD2.out).mono ?_
          rintro e wA ⟨rfl, rfl⟩
          go_wp2_with fail
          refine (dirty_at HC4.out HD.out).mono ?_
          rintro e wB ⟨rfl, bB⟩
          have HCy := Lib.hid (HC4.out.more bB)
          have HBy := Lib.hid (step_below HB4.out bB)
          clear bB
          go_wp2_with fail
          refine (rdirty_is _ S HSm.out HD2.out).mono ?_
          rintro e wC ⟨rfl, rfl⟩
          go_wp2_with fail
          go_roundw
          case rel => exact ⟨i + 1, S, by omega, by simp, rfl, HSz, HCy, HBy⟩
          case measure => simp [RowKit.intOf]; omega
        have g1 : (K == 1) = false := by rw [beq_eq_false_iff_ne]; exact hk1
        by_cases hk2 : K = 2
        · subst hk2
          have HR : Hid (∀ W, Calls Try.prog 14 #[.string s, .int .i64 x, .int .i64 m] W fun e w' => e = .returned (loadV s x m) ∧ W = w') := fun W => rload_is W s (by rw [HS.out]; omega) HX.out HM.out
          have HP : Hid (Calls Try.prog 15 #[.pointer (some ⟨g, 0, none⟩), .int .i64 x, .int .i64 m] Wb fun e w' => e = .returned (loadV s x m) ∧ Below Wb.heap.size Wb w') := load_any HCb.out HS.out HX.out HM.out
          obtain ⟨T, r, hv⟩ : ∃ T r, loadV s x m = .tuple #[.string T, .int .i64 r] := by
            unfold loadV
            split
            · exact ⟨_, _, rfl⟩
            · exact ⟨_, _, rfl⟩
          rw [hv] at HR HP
          clear hv hk0 hk1
          go_wp2_with fail
          refine (HR.out _).mono ?_
          rintro e w3 ⟨rfl, rfl⟩
          go_wp2_with fail
          refine HP.out.mono ?_
          rintro e w4 ⟨rfl, b4⟩
          have HC4 := Lib.hid (HCb.out.more b4)
          have HB4 := Lib.hid (step_below HBb2.out b4)
          clear b4 q0 q1 q2 q3
          obtain ⟨d, hd⟩ : ∃ d, cnt (byteAt s) N = d := ⟨_, rfl⟩
          have HD := Lib.hid hd
          have HD2 : Hid (cnt (byteAt s) s.size = d) := by show _ = _; rw [HS.out]; exact hd
          have HSm : Hid (s.size ≤ 1048576) := by show _ ≤ _; rw [HS.out]; omega
          obtain ⟨q, hq⟩ : ∃ q, ((d : Int) == 0) = q := ⟨_, rfl⟩
          have HQ : Hid ((cnt (byteAt s) N == 0) = q) := by
            show _ = _
            rw [hd, ← hq, Bool.eq_iff_iff]
            simp only [beq_iff_eq]
            omega
          clear hd
          go_wp2_with fail
          refine (clean_at HC4.out HQ.out).mono ?_
          rintro e wA ⟨rfl, rfl⟩
          go_wp2_with fail
          refine (rdirty_is _ s HSm.out HD2.out).mono ?_
          rintro e wA ⟨rfl, rfl⟩
          go_wp2_with fail
          refine (dirty_at HC4.out HD.out).mono ?_
          rintro e wB ⟨rfl, bB⟩
          have HCy := Lib.hid (HC4.out.more bB)
          have HBy := Lib.hid (step_below HB4.out bB)
          clear bB
          go_wp2_with fail
          refine (rdirty_is _ s HSm.out HD2.out).mono ?_
          rintro e wC ⟨rfl, rfl⟩
          go_wp2_with fail
          go_roundw
          case rel => exact ⟨i + 1, s, by omega, by simp, rfl, HS, HCy, HBy⟩
          case measure => simp [RowKit.intOf]; omega
        have g2 : (K == 2) = false := by rw [beq_eq_false_iff_ne]; exact hk2
        clear hk0 hk1 hk2
        obtain ⟨d, hd⟩ : ∃ d, cnt (byteAt s) N = d := ⟨_, rfl⟩
        have HD := Lib.hid hd
        have HD2 : Hid (cnt (byteAt s) s.size = d) := by show _ = _; rw [HS.out]; exact hd
        have HSm : Hid (s.size ≤ 1048576) := by show _ ≤ _; rw [HS.out]; omega
        obtain ⟨q, hq⟩ : ∃ q, ((d : Int) == 0) = q := ⟨_, rfl⟩
        have HQ : Hid ((cnt (byteAt s) N == 0) = q) := by
          show _ = _
          rw [hd, ← hq, Bool.eq_iff_iff]
          simp only [beq_iff_eq]
          omega
        clear hd
        go_wp2_with fail
        refine (clean_at HCb.out HQ.out).mono ?_
        rintro e wA ⟨rfl, rfl⟩
        go_wp2_with fail
        refine (rdirty_is _ s HSm.out HD2.out).mono ?_
        rintro e wA ⟨rfl, rfl⟩
        go_wp2_with fail
        refine (dirty_at HCb.out HD.out).mono ?_
        rintro e wB ⟨rfl, bB⟩
        have HCy := Lib.hid (HCb.out.more bB)
        have HBy := Lib.hid (step_below HBb2.out bB)
        clear bB
        go_wp2_with fail
        refine (rdirty_is _ s HSm.out HD2.out).mono ?_
        rintro e wC ⟨rfl, rfl⟩
        go_wp2_with fail
        go_roundw
        case rel => exact ⟨i + 1, s, by omega, by simp, rfl, HS, HCy, HBy⟩
        case measure => simp [RowKit.intOf]; omega
    · obtain rfl : i = len := by omega
      have e1 : decide ((i : Int) < (i : Int)) = false := decide_eq_false (by omega)
      go_wp2_with fail
      refine (load_all HC.out HS.out).mono ?_
      rintro e w3 ⟨rfl, b3⟩
      have HC3 := Lib.hid (HC.out.more b3)
      have HB3 := Lib.hid (step_below HB.out b3)
      clear b3
      go_wp2_with fail
      refine (size_at HC3.out).mono ?_
      rintro e w4 ⟨rfl, rfl⟩
      go_wp2_with fail
      refine (works_is _).mono ?_
      rintro e w5 ⟨rfl, b5⟩
      go_wp2
      go_ret
      exact ⟨rfl, step_below HB3.out b5⟩
set_option maxRecDepth 100000 in
set_option maxHeartbeats 4000000 in
theorem plays_any {w : World} {A : Option Addr} {cap : Nat} {acs : List ActS} {N : Int} (h : ActsS w A acs) (hN : InInt N) : Calls Try.prog 3 #[.int .i64 N, .slice A acs.length cap] w (Well w) := by
  by_cases h40 : acs.length ≤ 40
  · by_cases h1 : 1 ≤ N ∧ N ≤ 2000
    · obtain ⟨n, rfl⟩ := Int.eq_ofNat_of_zero_le (show 0 ≤ N by omega)
      exact plays_in h h40 (by omega) (by omega)
    · have d0 : decide ((40 : Int) < (acs.length : Int)) = false := decide_eq_false (by omega)
      have d0' : decide (40 < acs.length) = false := decide_eq_false (by omega)
      by_cases hin : 2000 < N ∧ N ≤ 1048576
      · have d1 : decide (2000 < N) = true := decide_eq_true hin.1
        have d2 : decide (N ≤ 1048576) = true := decide_eq_true hin.2
        clear h1
        go_enter Try.func3, Try.ntmps3
        go_wp2_with fail
        refine (works_is _).mono ?_
        rintro e w1 ⟨rfl, b1⟩
        go_wp2
        go_ret
        exact ⟨rfl, b1⟩
      · have HO := Lib.hid (new_out w (n := N) (by omega) hN)
        by_cases hlo : N < 1
        · have d1 : decide (2000 < N) = false := decide_eq_false (by omega)
          have d3 : decide (N < 1) = true := decide_eq_true hlo
          clear h1 hin
          go_enter Try.func3, Try.ntmps3
          go_wp2_with fail
          refine HO.out.mono ?_
          rintro e w1 ⟨rfl, rfl⟩
          go_wp2_with fail
          refine (works_is _).mono ?_
          rintro e w1 ⟨rfl, b1⟩
          go_wp2
          go_ret
          exact ⟨rfl, b1⟩
        · have d1 : decide (2000 < N) = true := decide_eq_true (by omega)
          have d2 : decide (N ≤ 1048576) = false := decide_eq_false (by omega)
          have d3 : decide (N < 1) = false := decide_eq_false hlo
          have d4 : decide (1048576 < N) = true := decide_eq_true (by omega)
          clear h1 hin
          go_enter Try.func3, Try.ntmps3
          go_wp2_with fail
          refine HO.out.mono ?_
          rintro e w1 ⟨rfl, rfl⟩
          go_wp2_with fail
          refine (works_is _).mono ?_
          rintro e w1 ⟨rfl, b1⟩
          go_wp2
          go_ret
          exact ⟨rfl, b1⟩
  · have d0 : decide ((40 : Int) < (acs.length : Int)) = true := decide_eq_true (by omega)
    have d0' : decide (40 < acs.length) = true := decide_eq_true (by omega)
    go_enter Try.func3, Try.ntmps3
    go_wp2_with fail
    refine (works_is _).mono ?_
    rintro e w1 ⟨rfl, b1⟩
    go_wp2
    go_ret
    exact ⟨rfl, b1⟩
end Go.Proofs.Ytcfnnchbnlcppaa
