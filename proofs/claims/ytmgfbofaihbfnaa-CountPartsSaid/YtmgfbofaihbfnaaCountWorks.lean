/- Layer 14 (count): a book beside a list of the document's, each call as one contract; the chapter's example (works). -/
import Derived.Test.YtmgfbofaihbfnaaCountRefs
import Derived.Test.YtmgfbofaihbfnaaBaseSame
import Derived.Test.YtmgfbofaihbfnaaBaseZs
namespace Go.Proofs.Ytmgfbofaihbfnaa
open Go.RowKit

def TrueBelow (w : World) (e : Ending) (w' : World) : Prop := e = .returned (.bool true) ∧ Below w.heap.size w w'
/-- A book of the counts L, and a list that reads as M, apart from each other, both made since w0. -/
structure Both (w0 w : World) (S T : Nat → Prop) (q : Nat) (A : Option Addr) (L M : List Nat) : Prop where
  book : BookAt w S q L
  list : IntsF w T A (ints M)
  apart : Apart S T
  heap : InHeap T w
  bel : Below w0.heap.size w0 w
  from_ : ∀ k, S k → w0.heap.size ≤ k
section
variable {w0 w w' : World} {S T S' T' : Nat → Prop} {q : Nat} {A A' : Option Addr} {L L' M M' : List Nat}
theorem Both.step (h : Both w0 w S T q A L M) (hb : BookAt w' S' q L') (hm : Moved S w S' w') : Both w0 w' S' T q A L' M :=
  ⟨hb, h.list.keep (hm.turn.same h.apart), hm.apart h.apart h.heap, h.heap.more hm.turn.size, hm.below h.bel h.bel.size h.from_, hm.from_ h.from_ h.bel.size⟩
theorem Both.below (h : Both w0 w S T q A L M) (hb : Below w.heap.size w w') : Both w0 w' S T q A L M :=
  ⟨h.book.below hb, h.list.keep (.of_below _ hb), h.apart, h.heap.more hb.size, step_below h.bel hb, h.from_⟩
theorem Both.turn (h : Both w0 w S T q A L M) (hi : IntsF w' T' A' (ints M')) (hh : InHeap T' w') (hn : ∀ k, T' k → T k ∨ w.heap.size ≤ k) (hb : Below w.heap.size w w') : Both w0 w' S T' q A' L M' := by
  refine ⟨h.book.below hb, hi, fun k hs ht => ?_, hh, step_below h.bel hb, h.from_⟩
  rcases hn k ht with e | e
  · exact h.apart k hs e
  · have := h.book.heap k hs; omega
theorem Both.start {q : Nat} (hb : BookAt w' S q L) (hB : Below w.heap.size w w') (hS : ∀ k, S k → w.heap.size ≤ k) : Both w w' S NoBlock q none L [] :=
  ⟨hb, .inl rfl, fun _ _ h => h, fun _ h => h.elim, hB, hS⟩
theorem k_add (h : Both w0 w S T q A L M) (i y : Int) {r : Nat} {N : List Nat} (hr : addE L i y = r) (hM : addV L i y = N) :
    Calls Try.prog 9 #[.pointer (some ⟨q, 0, none⟩), .int .i64 i, .int .i64 y] w fun e w' => ∃ S', e = .returned (.int .i64 r) ∧ Both w0 w' S' T q A N M :=
  (add_is h.book i y hr hM).mono fun _ _ ⟨S', e, hb, hm⟩ => ⟨S', e, h.step hb hm⟩
theorem k_get (h : Both w0 w S T q A L M) (i : Int) {r : Nat} (hr : getV L i = r) :
    Calls Try.prog 10 #[.pointer (some ⟨q, 0, none⟩), .int .i64 i] w fun e w' => ∃ S', e = .returned (.int .i64 r) ∧ Both w0 w' S' T q A L M :=
  (get_is h.book i hr).mono fun _ _ ⟨S', e, hb, hm⟩ => ⟨S', e, h.step hb hm⟩
theorem k_sum (h : Both w0 w S T q A L M) {s : Nat} {r : Bool} (hs : sumV L = s) (hr : sumB L = r) :
    Calls Try.prog 11 #[.pointer (some ⟨q, 0, none⟩)] w fun e w' => ∃ S', e = .returned (.tuple #[.int .i64 s, .bool r]) ∧ Both w0 w' S' T q A L M :=
  (sum_is h.book hs hr).mono fun _ _ ⟨S', e, hb, hm⟩ => ⟨S', e, h.step hb hm⟩
theorem k_all (h : Both w0 w S T q A L M) {n : Nat} (hn : L.length = n) :
    Calls Try.prog 14 #[.pointer (some ⟨q, 0, none⟩)] w fun e w' => ∃ S' B c, e = .returned (.slice B n c) ∧ IntsAt w' B (ints L) ∧ Both w0 w' S' T q A L M :=
  (all_is h.book).mono fun _ _ ⟨S', B, c, e, hi, hb, hm⟩ => ⟨S', B, c, by rw [← hn]; exact e, hi, h.step hb hm⟩
theorem k_top (h : Both w0 w S T q A L M) :
    Calls Try.prog 15 #[.pointer (some ⟨q, 0, none⟩)] w fun e w' => ∃ (S' : Nat → Prop) (t : Nat), e = .returned (.int .i64 t) ∧ IsTop L t ∧ Both w0 w' S' T q A L M :=
  (top_is h.book).mono fun _ _ ⟨S', t, e, ht, hb, hm⟩ => ⟨S', t, e, ht, h.step hb hm⟩
theorem k_top_is (h : Both w0 w S T q A L M) {t : Nat} (ht : IsTop L t) :
    Calls Try.prog 15 #[.pointer (some ⟨q, 0, none⟩)] w fun e w' => ∃ (S' : Nat → Prop), e = .returned (.int .i64 t) ∧ Both w0 w' S' T q A L M :=
  (k_top h).mono fun _ _ ⟨S', u, e, hu, hb⟩ => ⟨S', by rw [ht.one hu]; exact e, hb⟩
end
theorem ex_top : IsTop [0, 7, 0] 1 := by
  refine ⟨by decide, fun j => ?_, fun j hj => ?_⟩
  · match j with
    | 0 => decide
    | 1 => decide
    | 2 => decide
    | j + 3 => exact Nat.zero_le _
  · match j, hj with
    | 0, _ => decide
set_option maxHeartbeats 800000 in
theorem works_is (w : World) : Calls Try.prog 6 #[] w (TrueBelow w) := by
  go_enter Try.func6, Try.ntmps6
  go_wp2_with fail
  refine (new_is w (n := 3) (by omega) (by omega)).mono ?_
  rintro e w1 ⟨q, rfl, hq, hb, hB⟩
  have H1 : Hid (Both w w1 (fun k => k = q) NoBlock q none [0, 0, 0] []) := Both.start hb hB (by rintro k rfl; exact hq)
  clear hb hB hq
  go_wp2_with fail
  refine (k_add H1.out 1 5 (r := 0) (N := [0, 5, 0]) (by decide) (by decide)).mono ?_
  rintro e w2 ⟨S2, rfl, h2⟩
  have H2 := Lib.hid h2
  clear h2 H1
  go_wp2_with fail
  refine (k_add H2.out 1 2 (r := 0) (N := [0, 7, 0]) (by decide) (by decide)).mono ?_
  rintro e w3 ⟨S3, rfl, h3⟩
  have H3 := Lib.hid h3
  clear h3 H2
  go_wp2_with fail
  refine (k_sum H3.out (s := 7) (r := true) (by decide) (by decide)).mono ?_
  rintro e w4 ⟨S4, rfl, h4⟩
  have H4 := Lib.hid h4
  clear h4 H3
  go_wp2_with fail
  refine (k_all H4.out (n := 3) rfl).mono ?_
  rintro e w5 ⟨S5, A5, c5, rfl, i5, h5⟩
  have I5 : Hid (IntsAt (w5.alloc (.cells #[.int .i64 0, .int .i64 7, .int .i64 0] 3)) A5 [0, 7, 0]) := i5.alloc _
  have J5 : Hid (IntsAt (w5.alloc (.cells #[.int .i64 0, .int .i64 7, .int .i64 0] 3)) (some ⟨w5.heap.size, 0, none⟩) [0, 7, 0]) := lit_ints w5 [0, 7, 0]
  have H5 := Lib.hid (h5.below (new_below w5 (.cells #[.int .i64 0, .int .i64 7, .int .i64 0] 3)))
  clear h5 i5 H4
  go_wp2_with fail
  refine (same_is (r := true) I5.out J5.out rfl rfl (by simp) (by decide)).mono ?_
  rintro e w' ⟨rfl, m, rfl⟩
  have H6 := Lib.hid (H5.out.below (below_drewN (Below.refl _ _) m))
  clear I5 J5 H5
  generalize (w5.alloc (.cells #[.int .i64 0, .int .i64 7, .int .i64 0] 3)).drewN m = w6 at *
  go_wp2_with fail
  refine (k_top_is H6.out ex_top).mono ?_
  rintro e w7 ⟨S7, rfl, h7⟩
  have H7 := Lib.hid h7
  clear h7 H6
  go_wp2_with fail
  refine (k_add H7.out 3 0 (r := 2) (N := [0, 7, 0]) (by decide) (by decide)).mono ?_
  rintro e w8 ⟨S8, rfl, h8⟩
  have H8 := Lib.hid h8.bel
  clear h8 H7
  go_wp2
  go_ret
  exact ⟨rfl, H8.out⟩
end Go.Proofs.Ytmgfbofaihbfnaa
