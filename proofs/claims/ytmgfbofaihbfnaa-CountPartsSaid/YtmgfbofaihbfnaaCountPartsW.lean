/- Layer 14 (count): the walk of CountParts. -/
import Derived.Test.YtmgfbofaihbfnaaCountWorks
import Derived.Test.YtmgfbofaihbfnaaBaseU16
namespace Go.Proofs.Ytmgfbofaihbfnaa
open Go.RowKit

/-- A book of the counts L beside a zero one at z. -/
def With (w0 w : World) (S : Nat → Prop) (q z : Nat) (L : List Nat) : Prop := Both w0 w S (fun k => k = z) q none L [] ∧ BookRow w z 0 0 0 (.slice none 0 0)
section
variable {w0 w w' : World} {S S' : Nat → Prop} {q z : Nat} {L L' : List Nat}
theorem With.step (h : With w0 w S q z L) (hb : BookAt w' S' q L') (hm : Moved S w S' w') : With w0 w' S' q z L' :=
  ⟨h.1.step hb hm, h.2.same (hm.turn.block z h.2.lt fun e => h.1.apart z e rfl)⟩
theorem With.below (h : With w0 w S q z L) (hb : Below w.heap.size w w') : With w0 w' S q z L := ⟨h.1.below hb, h.2.same (hb.block z h.2.lt)⟩
theorem With.zero (h : With w0 w S q z L) : NoBook w (.pointer (some ⟨z, 0, none⟩)) := .inr ⟨z, rfl, h.2⟩
theorem z_add (h : With w0 w S q z L) (i y : Int) {r : Nat} {N : List Nat} (hr : addE L i y = r) (hM : addV L i y = N) :
    Calls Try.prog 9 #[.pointer (some ⟨q, 0, none⟩), .int .i64 i, .int .i64 y] w fun e w' => ∃ S', e = .returned (.int .i64 r) ∧ With w0 w' S' q z N :=
  (add_is h.1.book i y hr hM).mono fun _ _ ⟨S', e, hb, hm⟩ => ⟨S', e, h.step hb hm⟩
theorem z_get (h : With w0 w S q z L) (i : Int) {r : Nat} (hr : getV L i = r) :
    Calls Try.prog 10 #[.pointer (some ⟨q, 0, none⟩), .int .i64 i] w fun e w' => ∃ S', e = .returned (.int .i64 r) ∧ With w0 w' S' q z L :=
  (get_is h.1.book i hr).mono fun _ _ ⟨S', e, hb, hm⟩ => ⟨S', e, h.step hb hm⟩
end
theorem part_add {t x u : Nat} (hu : t + x = u) (h : u ≤ 4611686018427387904) : addE [t, 0] 0 (x : Int) = 0 ∧ addV [t, 0] 0 (x : Int) = [u, 0] := by
  have h := add_good (L := [t, 0]) (k := 0) (m := x) (by simp) (by show t + x ≤ _; omega)
  refine ⟨h.1, h.2.trans ?_⟩
  show [t + x, 0] = [u, 0]
  rw [hu]
theorem part_all {t : Nat} (h : t ≤ 4611686018427387904) : addE [t, 0] 1 (t : Int) = 0 ∧ addV [t, 0] 1 (t : Int) = [t, t] := by
  have h := add_good (L := [t, 0]) (k := 1) (m := t) (by simp) (by show 0 + t ≤ _; omega)
  refine ⟨h.1, h.2.trans ?_⟩
  show [t, 0 + t] = [t, t]
  rw [Nat.zero_add]
set_option maxRecDepth 100000 in
set_option maxHeartbeats 3200000 in
theorem parts_any {w : World} {A : Option Addr} {n c : Nat} {xs : List Nat} (h : U16sAt w A xs) (hn : xs.length = n) : Calls Try.prog 4 #[.slice A n c] w (TrueBelow w) := by
  by_cases hle : n ≤ 100
  · have d1 : ¬ 100 < (n : Int) := by omega
    have HN := Lib.hid hn
    have HP := Lib.hid h
    have HW := Lib.hid fun W => works_is W
    have HLE := Lib.hid hle
    clear h hn hle
    go_enter Try.func4, Try.ntmps4
    go_wp2_with fail
    refine (new_is w (n := 2) (by omega) (by omega)).mono ?_
    rintro e w1 ⟨q, rfl, hq, hb, hB⟩
    have H1 : Hid (Both w w1 (fun k => k = q) NoBlock q none [0, 0] []) := Both.start hb hB (by rintro k rfl; exact hq)
    clear hb hB hq
    go_wp2_with fail
    go_loopw [4, 5, 6] (fun va vb vi wr => ∃ (k t : Nat) (S : Nat → Prop), k ≤ n ∧ t ≤ 65535 * k ∧ va = .int .i64 t ∧ vb = .int .i64 t ∧ vi = .int .i64 k ∧ Hid (Both w wr S NoBlock q none [t, 0] [])) (fun _ _ vi _ => n - (RowKit.intOf vi).toNat)
    case atStart => exact ⟨0, 0, _, by omega, by omega, rfl, rfl, rfl, H1⟩
    case round =>
      clear H1
      obtain ⟨k, t, S, hk, ht, rfl, rfl, rfl, HB⟩ := hrel
      have hle := HLE.out
      by_cases hlt : k < n
      · obtain ⟨b, off, rfl, hbl, hxl, hc⟩ := HP.out.at_ (k := k) (by rw [HN.out]; exact hlt)
        obtain ⟨x, hx⟩ : ∃ x, xs.getD k 0 = x := ⟨_, rfl⟩
        rw [hx] at hxl hc
        have HC : Hid (∀ W, Below w.heap.size w W → W.cell? ⟨b, off + k, none⟩ = some (.int .u16 x)) := fun W hW => (hW.cell (p := ⟨b, off + k, none⟩) hbl).trans hc
        obtain ⟨u, hu⟩ : ∃ u, t + x = u := ⟨_, rfl⟩
        have hpa := part_add hu (by omega)
        have HA1 := Lib.hid hpa.1
        have HA2 := Lib.hid hpa.2
        have hi : 0 ≤ (k : Int) ∧ (k : Int) < (n : Int) := by omega
        have wx : IntKind.i64.wrap (x : Int) = (x : Int) := by rw [IntKind.wrap_i64]; omega
        have wu : IntKind.i64.wrap ((t : Int) + (x : Int)) = (u : Int) := by rw [IntKind.wrap_i64]; omega
        have dd : ¬ (u : Int) < (t : Int) := by omega
        have hu2 : u ≤ 65535 * (k + 1) := by omega
        have c0 := HC.out _ HB.out.bel
        clear hx hc hbl hpa
        clear hu
        go_wp2_with fail
        refine (k_add HB.out 0 x HA1.out HA2.out).mono ?_
        rintro e w2 ⟨S2, rfl, h2⟩
        have HB2 := Lib.hid h2
        clear h2 HB c0
        go_wp2_with fail
        refine (k_get HB2.out 0 (r := u) rfl).mono ?_
        rintro e w3 ⟨S3, rfl, h3⟩
        have HB3 := Lib.hid h3
        clear h3 HB2
        go_wp2_with fail
        refine (k_get HB3.out 0 (r := u) rfl).mono ?_
        rintro e w4 ⟨S4, rfl, h4⟩
        have HB4 := Lib.hid h4
        have c4 := HC.out _ h4.bel
        clear h4 HB3
        go_wp2
        go_roundw
        case rel => exact ⟨k + 1, u, S4, by omega, hu2, rfl, rfl, by go_num, HB4⟩
        case measure => simp [RowKit.intOf]; omega
      · have h62 : t ≤ 4611686018427387904 := by omega
        have hpa := part_all h62
        have HA1 := Lib.hid hpa.1
        have HA2 := Lib.hid hpa.2
        have zz : ((t : Int) == (t : Int)) = true := by simp
        have HZ : Hid (With w (wr.alloc (.cells #[.int .i64 0, .int .u32 0, .int .i32 0, .int .u32 0, .slice none 0 0] 57)) S q wr.heap.size [t, 0]) :=
          ⟨HB.out.turn (.inl rfl) (by rintro j rfl; simp) (by rintro j rfl; exact .inr (Nat.le_refl _)) (new_below _ _), book_lit wr 0⟩
        clear HB hpa
        go_wp2_with fail
        generalize wr.alloc (.cells #[.int .i64 0, .int .u32 0, .int .i32 0, .int .u32 0, .slice none 0 0] 57) = wa at *
        generalize wr.heap.size = z at *
        refine (sum_no (w := wa) (v := .pointer none) (.inl rfl)).mono ?_
        rintro e w2 ⟨rfl, b2⟩
        have H2 := Lib.hid (HZ.out.below b2)
        clear b2 HZ
        go_wp2_with fail
        refine (sum_no H2.out.zero).mono ?_
        rintro e w3 ⟨rfl, b3⟩
        have H3 := Lib.hid (H2.out.below b3)
        clear b3 H2
        go_wp2_with fail
        refine (z_add H3.out 1 t HA1.out HA2.out).mono ?_
        rintro e w4 ⟨S4, rfl, h4⟩
        have H4 := Lib.hid h4
        clear h4 H3
        go_wp2_with fail
        refine (z_get H4.out 1 (r := t) rfl).mono ?_
        rintro e w5 ⟨S5, rfl, h5⟩
        have H5 := Lib.hid h5
        clear h5 H4
        go_wp2_with fail
        refine (z_get H5.out 0 (r := t) rfl).mono ?_
        rintro e w6 ⟨S6, rfl, h6⟩
        have H6 := Lib.hid h6
        clear h6 H5
        go_wp2_with fail
        refine (add_no (w := w6) (v := .pointer none) (.inl rfl) 0 1).mono ?_
        rintro e w7 ⟨rfl, b7⟩
        have H7 := Lib.hid (H6.out.below b7)
        clear b7 H6
        go_wp2_with fail
        refine (add_no H7.out.zero 0 1).mono ?_
        rintro e w8 ⟨rfl, b8⟩
        have H8 := Lib.hid (H7.out.below b8)
        clear b8 H7
        go_wp2_with fail
        refine (get_no (w := w8) (v := .pointer none) (.inl rfl) 0).mono ?_
        rintro e w9 ⟨rfl, b9⟩
        have H9 := Lib.hid (H8.out.below b9)
        clear b9 H8
        go_wp2_with fail
        refine (get_no H9.out.zero 0).mono ?_
        rintro e w10 ⟨rfl, b10⟩
        have H10 := Lib.hid (H9.out.below b10)
        clear b10 H9
        go_wp2_with fail
        refine (top_no (w := w10) (v := .pointer none) (.inl rfl)).mono ?_
        rintro e w11 ⟨rfl, b11⟩
        have H11 := Lib.hid (H10.out.below b11)
        clear b11 H10
        go_wp2_with fail
        refine (top_no H11.out.zero).mono ?_
        rintro e w12 ⟨rfl, b12⟩
        have H12 := Lib.hid (H11.out.below b12)
        clear b12 H11
        go_wp2_with fail
        refine (all_no (w := w12) (v := .pointer none) (.inl rfl)).mono ?_
        rintro e w13 ⟨A13, c13, rfl, b13⟩
        have H13 := Lib.hid (H12.out.below b13)
        clear b13 H12
        go_wp2_with fail
        refine (all_no H13.out.zero).mono ?_
        rintro e w14 ⟨A14, c14, rfl, b14⟩
        have H14 := Lib.hid (H13.out.below b14).1.bel
        clear b14 H13
        go_wp2_with fail
        refine (HW.out _).mono ?_
        rintro e w15 ⟨rfl, b15⟩
        have B15 := Lib.hid (step_below H14.out b15)
        clear b15 H14
        go_wp2
        go_ret
        exact ⟨rfl, B15.out⟩
  · have d1 : 100 < (n : Int) := by omega
    clear h hn hle
    go_enter Try.func4, Try.ntmps4
    go_wp2_with fail
    refine (works_is _).mono ?_
    rintro e w3 ⟨rfl, b3⟩
    have B3 := Lib.hid b3
    clear b3
    go_wp2
    go_ret
    exact ⟨rfl, B3.out⟩
end Go.Proofs.Ytmgfbofaihbfnaa
