/- Layer 16 (tags): tags beside the document's, each call as one contract; the chapter's example (works). -/
import Derived.Test.YtiidkfcblnkghaaTagsRHand
import Derived.Test.YtiidkfcblnkghaaTagsROwn
import Derived.Test.YtiidkfcblnkghaaTagsOwners
namespace Go.Proofs.Ytiidkfcblnkghaa
open Go.RowKit

def TrueBelow (w : World) (e : Ending) (w' : World) : Prop := e = .returned (.bool true) ∧ Below w.heap.size w w'
/-- Tags alone, made since w0. -/
structure One (w0 w : World) (q n : Nat) (O G : List Nat) : Prop where
  tags : TagsAt w q n O G
  bel : Below w0.heap.size w0 w
  low : w0.heap.size ≤ q
section
variable {w0 w w' : World} {q n : Nat} {O G O' G' : List Nat}
theorem One.step (h : One w0 w q n O G) (ht : TagsAt w' q n O' G') (hm : Turn (Blk q) w w') : One w0 w' q n O' G' :=
  ⟨ht, hm.below h.bel h.bel.size fun _ hk => Nat.le_trans h.low hk.1, h.low⟩
theorem One.below (h : One w0 w q n O G) (hb : Below w.heap.size w w') : One w0 w' q n O G := ⟨h.tags.below hb, step_below h.bel hb, h.low⟩
theorem o_own (h : One w0 w q n O G) (i x : Int) (hx : InInt x) {e : Nat} (he : ownE O i x = e) (hO : ownV O i x = O') : Calls Try.prog 10 #[ptrAt q, .int .i64 i, .int .i64 x] w fun a w' => a = .returned (.int .i64 e) ∧ One w0 w' q n O' G :=
  (own_is h.tags hx he hO).mono fun _ _ ⟨h1, h2, h3⟩ => ⟨h1, h.step h2 h3⟩
theorem o_leave (h : One w0 w q n O G) (i : Int) {e : Nat} (he : leaveE O i = e) (hO : leaveV O i = O') : Calls Try.prog 12 #[ptrAt q, .int .i64 i] w fun a w' => a = .returned (.int .i64 e) ∧ One w0 w' q n O' G :=
  (leave_is h.tags he hO).mono fun _ _ ⟨h1, h2, h3⟩ => ⟨h1, h.step h2 h3⟩
theorem o_raise (h : One w0 w q n O G) (i : Int) {e : Nat} (he : raiseE O G i = e) (hG : raiseV O G i = G') : Calls Try.prog 14 #[ptrAt q, .int .i64 i] w fun a w' => a = .returned (.int .i64 e) ∧ One w0 w' q n O G' :=
  (raise_is h.tags he hG).mono fun _ _ ⟨h1, h2, h3⟩ => ⟨h1, h.step h2 h3⟩
theorem o_of (h : One w0 w q n O G) {x : Int} (hx : InInt x) {l : List Nat} (hl : ofV O x = l) : Calls Try.prog 20 #[ptrAt q, .int .i64 x] w fun a w' => ∃ A c, a = .returned (.slice A l.length c) ∧ IntsAt w' A (ints l) ∧ One w0 w' q n O G :=
  (of_is h.tags hx hl).mono fun _ _ ⟨v, h1, ⟨A, c, h2, _, h3, _⟩, h4⟩ => ⟨A, c, by rw [h1, h2], h3, h.below h4⟩
end
set_option maxHeartbeats 800000 in
theorem works_is (w : World) : Calls Try.prog 6 #[] w (TrueBelow w) := by
  go_enter Try.func6, Try.ntmps6
  go_wp2_with fail
  refine (new_is w (n := 4) (by omega)).mono ?_
  rintro e w1 ⟨rfl, ht, hB, _⟩
  have H1 : Hid (One w w1 w.heap.size 4 [0, 0, 0, 0] [0, 0, 0, 0]) := ⟨ht, hB, Nat.le_refl _⟩
  clear ht hB
  generalize w.heap.size = q at H1 ⊢
  go_wp2_with fail
  refine (o_own H1.out 2 7 ⟨by omega, by omega⟩ (e := 0) (O' := [0, 0, 7, 0]) (by decide) (by decide)).mono ?_
  rintro e w2 ⟨rfl, h2⟩
  have H2 := Lib.hid h2
  clear h2 H1
  go_wp2_with fail
  refine (o_own H2.out 0 7 ⟨by omega, by omega⟩ (e := 0) (O' := [7, 0, 7, 0]) (by decide) (by decide)).mono ?_
  rintro e w3 ⟨rfl, h3⟩
  have H3 := Lib.hid h3
  clear h3 H2
  go_wp2_with fail
  refine (o_own H3.out 0 8 ⟨by omega, by omega⟩ (e := 19) (O' := [7, 0, 7, 0]) (by decide) (by decide)).mono ?_
  rintro e w4 ⟨rfl, h4⟩
  have H4 := Lib.hid h4
  clear h4 H3
  go_wp2_with fail
  refine (o_of H4.out (x := 7) ⟨by omega, by omega⟩ (l := [0, 2]) (by decide)).mono ?_
  rintro e w5 ⟨A5, c5, rfl, i5, h5⟩
  rw [show ([0, 2] : List Nat).length = 2 from rfl]
  have I5 : Hid (IntsAt (w5.alloc (.cells #[.int .i64 0, .int .i64 2] 3)) A5 [0, 2]) := i5.alloc _
  have J5 : Hid (IntsAt (w5.alloc (.cells #[.int .i64 0, .int .i64 2] 3)) (some ⟨w5.heap.size, 0, none⟩) [0, 2]) := lit_ints w5 [0, 2]
  have H5 := Lib.hid (h5.below (new_below w5 (.cells #[.int .i64 0, .int .i64 2] 3)))
  clear h5 i5 H4
  go_wp2_with fail
  refine (same_is (r := true) I5.out J5.out rfl rfl (by simp) (by decide)).mono ?_
  rintro e w' ⟨rfl, m, rfl⟩
  have H6 := Lib.hid (H5.out.below (below_drewN (Below.refl _ _) m))
  clear I5 J5 H5
  generalize (w5.alloc (.cells #[.int .i64 0, .int .i64 2] 3)).drewN m = w6 at *
  go_wp2_with fail
  refine (o_leave H6.out 0 (e := 0) (O' := [0, 0, 7, 0]) (by decide) (by decide)).mono ?_
  rintro e w7 ⟨rfl, h7⟩
  have H7 := Lib.hid h7
  clear h7 H6
  go_wp2_with fail
  refine (o_raise H7.out 0 (e := 0) (G' := [1, 0, 0, 0]) (by decide) (by decide)).mono ?_
  rintro e w8 ⟨rfl, h8⟩
  have H8 := Lib.hid h8
  clear h8 H7
  go_wp2_with fail
  refine (gen_is H8.out.tags (i := 0) (r := 1) (by decide)).mono ?_
  rintro e w9 ⟨rfl, rfl⟩
  go_wp2_with fail
  refine (count_is H8.out.tags (x := 7) ⟨by omega, by omega⟩ (r := 1) (by decide)).mono ?_
  rintro e w9 ⟨rfl, rfl⟩
  have B8 := Lib.hid H8.out.bel
  clear H8
  go_wp2
  go_ret
  exact ⟨rfl, B8.out⟩

/-! ### tags beside the document's -/
def Out (q rb : Nat) : Nat → Prop := fun k => q + 3 ≤ k ∧ k ≠ rb
/-- Tags of O and G at q, and the document's of P and H, which the variable in block rb holds: all made since w0. -/
structure Two (w0 w : World) (q rb n : Nat) (A B : Option Addr) (c d : Nat) (O G P H : List Nat) : Prop where
  tags : TagsAt w q n O G
  box : w.rowIs rb 28 2 (duoF (.slice A n c) (.slice B n d))
  docO : IntsF w (Out q rb) A (ints P)
  docG : IntsF w (Out q rb) B (ints H)
  lp : n = P.length
  lh : n = H.length
  bel : Below w0.heap.size w0 w
  low : w0.heap.size ≤ q
  up : q + 3 ≤ rb
section
variable {w0 w w' : World} {q rb n : Nat} {A B A' B' : Option Addr} {c d c' d' : Nat} {O G P H O' G' P' H' : List Nat}
theorem Two.small (h : Two w0 w q rb n A B c d O G P H) : n ≤ 1048576 := h.tags.len.2.2
theorem Two.above (h : Two w0 w q rb n A B c d O G P H) : ∀ k, w.heap.size ≤ k → Out q rb k := fun k hk => by
  have h1 := h.box.lt
  have h2 := h.up
  exact ⟨by omega, by omega⟩
theorem Two.step (h : Two w0 w q rb n A B c d O G P H) (ht : TagsAt w' q n O' G') (hm : Turn (Blk q) w w') : Two w0 w' q rb n A B c d O' G' P H := by
  have hs : Same (Out q rb) w w' := hm.same fun k h1 h2 => by have := h1.2; have := h2.1; omega
  refine ⟨ht, ?_, h.docO.keep hs, h.docG.keep hs, h.lp, h.lh, hm.below h.bel h.bel.size fun _ hk => Nat.le_trans h.low hk.1, h.low, h.up⟩
  exact h.box.of_block (hm.block rb h.box.lt fun e => by have := e.2; have := h.up; omega)
theorem Two.below (h : Two w0 w q rb n A B c d O G P H) (hb : Below w.heap.size w w') : Two w0 w' q rb n A B c d O G P H :=
  ⟨h.tags.below hb, duo_keep h.box hb, h.docO.keep (.of_below _ hb), h.docG.keep (.of_below _ hb), h.lp, h.lh, step_below h.bel hb, h.low, h.up⟩
/-- The document's tags are others now: stored into the variable. -/
theorem Two.doc (h : Two w0 w q rb n A B c d O G P H) (hb : Below w.heap.size w w') (hO : IntsF w' (Out q rb) A' (ints P')) (hG : IntsF w' (Out q rb) B' (ints H')) (lp : n = P'.length) (lh : n = H'.length) :
    Two w0 ((w'.setCell ⟨rb, 0, none⟩ (.slice A' n c')).setCell ⟨rb, 1, none⟩ (.slice B' n d')) q rb n A' B' c' d' O G P' H' := by
  have t := duo_turn (S := fun k => k = rb) w' rfl (.slice A' n c') (.slice B' n d')
  have h1 := h.up
  have h2 := h.low
  have h3 := h.bel.size
  have s1 : Same (Out q rb) w' _ := t.same fun k e1 e2 => e2.2 e1
  refine ⟨(h.tags.below hb).keep (t.same fun k e1 e2 => by have := e2.2; omega), duo_all (duo_keep h.box hb) _ _, hO.keep s1, hG.keep s1, lp, lh, ?_, h.low, h.up⟩
  exact t.below (step_below h.bel hb) (by have := hb.size; omega) fun k e => by omega
theorem Two.start (ht : TagsAt w q n O G) (hb : Below w0.heap.size w0 w) (hl : w0.heap.size ≤ q) (hq : q + 3 ≤ w.heap.size) {w' : World} (hw : Below w.heap.size w w') (hO : IntsF w' (fun k => w.heap.size ≤ k) A (ints P)) (hG : IntsF w' (fun k => w.heap.size ≤ k) B (ints H)) (lp : n = P.length) (lh : n = H.length) :
    Two w0 (w'.alloc (.cells #[.slice A n c, .slice B n d] 28)) q w'.heap.size n A B c d O G P H := by
  have hb2 := new_below w' (.cells #[.slice A n c, .slice B n d] 28)
  have hs := hw.size
  have far : ∀ {X : Option Addr} {l : List Int}, IntsF w' (fun k => w.heap.size ≤ k) X l → IntsF (w'.alloc (.cells #[.slice A n c, .slice B n d] 28)) (Out q w'.heap.size) X l := fun hX => by
    rcases hX with hX | ⟨b, off, e, ht, hlt, hc⟩
    · exact .inl hX
    · exact .inr ⟨b, off, e, ⟨by have := ht; omega, by omega⟩, Nat.lt_of_lt_of_le hlt hb2.size, fun k x hx => (hb2.cell (p := ⟨b, off + k, none⟩) hlt).trans (hc k x hx)⟩
  exact ⟨(ht.below hw).below hb2, duo_lit _ _ _ _, far hO, far hG, lp, lh, step_below (step_below hb hw) hb2, hl, by omega⟩
theorem k_own (h : Two w0 w q rb n A B c d O G P H) (i x : Int) (hx : InInt x) {e : Nat} (he : ownE O i x = e) (hO : ownV O i x = O') : Calls Try.prog 10 #[ptrAt q, .int .i64 i, .int .i64 x] w fun a w' => a = .returned (.int .i64 e) ∧ Two w0 w' q rb n A B c d O' G P H ∧ Turn (Blk q) w w' :=
  (own_is h.tags hx he hO).mono fun _ _ ⟨h1, h2, h3⟩ => ⟨h1, h.step h2 h3, h3⟩
theorem k_leave (h : Two w0 w q rb n A B c d O G P H) (i : Int) {e : Nat} (he : leaveE O i = e) (hO : leaveV O i = O') : Calls Try.prog 12 #[ptrAt q, .int .i64 i] w fun a w' => a = .returned (.int .i64 e) ∧ Two w0 w' q rb n A B c d O' G P H ∧ Turn (Blk q) w w' :=
  (leave_is h.tags he hO).mono fun _ _ ⟨h1, h2, h3⟩ => ⟨h1, h.step h2 h3, h3⟩
theorem k_raise (h : Two w0 w q rb n A B c d O G P H) (i : Int) {e : Nat} (he : raiseE O G i = e) (hG : raiseV O G i = G') : Calls Try.prog 14 #[ptrAt q, .int .i64 i] w fun a w' => a = .returned (.int .i64 e) ∧ Two w0 w' q rb n A B c d O G' P H ∧ Turn (Blk q) w w' :=
  (raise_is h.tags he hG).mono fun _ _ ⟨h1, h2, h3⟩ => ⟨h1, h.step h2 h3, h3⟩
theorem k_hand (h : Two w0 w q rb n A B c d O G P H) {fr to : Int} (hf : InInt fr) (ht : InInt to) {r : Nat} (hr : handE O fr to = r) (hO : handV O fr to = O') : Calls Try.prog 22 #[ptrAt q, .int .i64 fr, .int .i64 to] w fun a w' => a = .returned (.int .i64 r) ∧ Two w0 w' q rb n A B c d O' G P H ∧ Turn (Blk q) w w' :=
  (hand_is h.tags hf ht hr hO).mono fun _ _ ⟨h1, h2, h3⟩ => ⟨h1, h.step h2 h3, h3⟩
/-- What the document's calls give, and what is so when that is stored. -/
def DocNext (w0 w : World) (q rb n : Nat) (O G P H : List Nat) (r : Nat) (a : Ending) (w' : World) : Prop :=
  ∃ A c B d, a = .returned (.tuple #[.agg #[.slice A n c, .slice B n d], .int .i64 r]) ∧ Below w.heap.size w w' ∧ Two w0 ((w'.setCell ⟨rb, 0, none⟩ (.slice A n c)).setCell ⟨rb, 1, none⟩ (.slice B n d)) q rb n A B c d O G P H
theorem DocNext.of {r : Nat} {a : Ending} (h : Two w0 w q rb n A B c d O G P H) (hd : DocTo w (Out q rb) n P' H' r a w') (lp : n = P'.length) (lh : n = H'.length) : DocNext w0 w q rb n O G P' H' r a w' := by
  obtain ⟨A', c', B', d', e, h1, h2, hb⟩ := hd
  exact ⟨A', c', B', d', e, hb, h.doc hb h1 h2 lp lh⟩
theorem d_own (h : Two w0 w q rb n A B c d O G P H) (i x : Int) {e : Nat} (he : ownE P i x = e) (hP : ownV P i x = P') : Calls Try.prog 9 #[.agg #[.slice A n c, .slice B n d], .int .i64 i, .int .i64 x] w (DocNext w0 w q rb n O G P' H e) :=
  (rown_is h.docO h.docG h.above h.small h.lp h.lh he hP).mono fun _ _ hd => .of h hd (by rw [← hP, ownV_length]; exact h.lp) h.lh
theorem d_leave (h : Two w0 w q rb n A B c d O G P H) (i : Int) {e : Nat} (he : leaveE P i = e) (hP : leaveV P i = P') : Calls Try.prog 11 #[.agg #[.slice A n c, .slice B n d], .int .i64 i] w (DocNext w0 w q rb n O G P' H e) :=
  (rleave_is h.docO h.docG h.above h.small h.lp h.lh he hP).mono fun _ _ hd => .of h hd (by rw [← hP, leaveV_length]; exact h.lp) h.lh
theorem d_raise (h : Two w0 w q rb n A B c d O G P H) (i : Int) {e : Nat} (he : raiseE P H i = e) (hH : raiseV P H i = H') : Calls Try.prog 13 #[.agg #[.slice A n c, .slice B n d], .int .i64 i] w (DocNext w0 w q rb n O G P H' e) :=
  (rraise_is h.docO h.docG h.above h.small h.lp h.lh he hH).mono fun _ _ hd => .of h hd h.lp (by rw [← hH, raiseV_length]; exact h.lh)
/-- What a call gives that makes a list. -/
def GiveL (w : World) (l : List Nat) (n : Nat) (a : Ending) (w' : World) : Prop := ∃ A c, a = .returned (.slice A n c) ∧ IntsAt w' A (ints l) ∧ Below w.heap.size w w'
theorem GiveL.of {l : List Nat} {m : Nat} {a : Ending} (h : MadeL w l a w') (hm : l.length = m) : GiveL w l m a w' := by
  obtain ⟨v, e, ⟨A, c, ev, _, hi, _⟩, hb⟩ := h
  exact ⟨A, c, by rw [e, ev, hm], hi, hb⟩
theorem k_of (h : Two w0 w q rb n A B c d O G P H) {x : Int} (hx : InInt x) {l : List Nat} (hl : ofV O x = l) {m : Nat} (hm : l.length = m) : Calls Try.prog 20 #[ptrAt q, .int .i64 x] w (GiveL w l m) :=
  (of_is h.tags hx hl).mono fun _ _ hd => .of hd hm
theorem k_owners (h : Two w0 w q rb n A B c d O G P H) {l : List Nat} (hl : ownersL O = l) {m : Nat} (hm : l.length = m) : Calls Try.prog 23 #[ptrAt q] w (GiveL w l m) :=
  (owners_is h.tags hl).mono fun _ _ hd => .of hd hm
theorem d_of (h : Two w0 w q rb n A B c d O G P H) {x : Int} {l : List Nat} (hl : ofV P x = l) {m : Nat} (hm : l.length = m) : Calls Try.prog 18 #[.agg #[.slice A n c, .slice B n d], .int .i64 x] w (GiveL w l m) :=
  (rof_is h.docO h.lp h.small hl).mono fun _ _ hd => .of hd hm
theorem d_owners (h : Two w0 w q rb n A B c d O G P H) {l : List Nat} (hl : ownersL P = l) {m : Nat} (hm : l.length = m) : Calls Try.prog 24 #[.agg #[.slice A n c, .slice B n d]] w (GiveL w l m) :=
  (rowners_is h.docO h.lp h.small hl).mono fun _ _ hd => .of hd hm
end
end Go.Proofs.Ytiidkfcblnkghaa
