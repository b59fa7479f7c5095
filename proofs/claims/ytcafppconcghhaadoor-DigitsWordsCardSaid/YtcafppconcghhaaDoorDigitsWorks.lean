/- Layer 11 (digits): the chapter's examples: what works returns: a contract. -/
import Derived.Test.YtcafppconcghhaaDoorDigitsJoin
namespace Go.Proofs.YtcafppconcghhaaDoor
open Go.RowKit
open Go.Lib (itoa)

theorem itoa_seven : itoa 7 = [55] := by
  unfold itoa
  rw [if_neg (by decide)]
  exact dec_small (u := 7) (by omega)
theorem lit_two (w : World) : TextsAt (w.alloc (.cells #[.string ⟨#[97]⟩, .string ⟨#[98]⟩] 9)) (.slice (some ⟨w.heap.size, 0, none⟩) 2 2) [[97], [98]] := by
  have hb := heap_alloc_new w (.cells #[.string ⟨#[97]⟩, .string ⟨#[98]⟩] 9)
  refine ⟨_, 2, rfl, fun j x hx => ⟨w.heap.size, 0, rfl, (Array.getElem?_eq_some_iff.1 hb).1, ?_⟩⟩
  match j, hx with
  | 0, hx =>
    simp at hx
    subst hx
    rw [Lib.cell_of_heap hb]
    rfl
  | 1, hx =>
    simp at hx
    subst hx
    rw [Lib.cell_of_heap hb]
    rfl
set_option maxHeartbeats 2000000 in
theorem works_is {B : Nat} (w : World) (hT : Tabs B w) (hB : B ≤ w.heap.size) : Calls Tryd.prog 7 #[] w fun e w' => e = .returned (.bool true) ∧ Below w.heap.size w w' := by
  have HR1 : Hid (∀ W, Calls Tryd.prog 8 #[.string ⟨#[45, 48, 53]⟩] W fun e w' => e = .returned (.tuple #[.int .i64 0, .bool false]) ∧ Below W.heap.size W w') := fun W => read_is W _ (by kernel_rfl)
  have HR2 : Hid (∀ W, Calls Tryd.prog 8 #[.string ⟨#[45, 53, 48]⟩] W fun e w' => e = .returned (.tuple #[.int .i64 (-50), .bool true]) ∧ Below W.heap.size W w') := fun W => read_is W _ (by kernel_rfl)
  have HW1 : Hid (∀ W, Calls Tryd.prog 14 #[.string ⟨#[97, 32, 98]⟩] W fun e w' => ∃ v, e = .returned (.tuple #[v, .bool true]) ∧ TextsAt w' v [[97], [98]] ∧ Below W.heap.size W w') := fun W => words_is W _ (by decide) (by kernel_rfl)
  have HW2 : Hid (∀ W, Calls Tryd.prog 14 #[.string ⟨#[97, 32, 32, 98]⟩] W fun e w' => ∃ v, e = .returned (.tuple #[v, .bool false]) ∧ TextsAt w' v [] ∧ Below W.heap.size W w') := fun W => words_is W _ (by decide) (by kernel_rfl)
  have HN : Hid (∀ W, Tabs B W → Calls Tryd.prog 12 #[.int .i64 7] W fun e w' => e = .returned (.string ⟨#[55]⟩) ∧ Below W.heap.size W w') := fun W hT => by
    have h := num_is W (n := 7) (by omega) hT
    rw [itoa_seven] at h
    exact h
  have HD : Hid (∀ W, Calls Tryd.prog 16 #[.string ⟨#[97]⟩] W fun e w' => e = .returned (.bool true) ∧ Below W.heap.size W w') := fun W => word_is W _ (by kernel_rfl)
  have HT := Lib.hid hT
  have HBs := Lib.hid hB
  clear hT hB
  go_enter Tryd.func7, Tryd.ntmps7
  go_wp2_with fail
  refine (HR1.out _).mono ?_
  rintro e w1 ⟨rfl, b1⟩
  go_wp2_with fail
  refine (HR2.out _).mono ?_
  rintro e w2 ⟨rfl, b2⟩
  have B2 : Hid (Below w.heap.size w w2) := below_next b1.size b1 b2
  clear b1 b2
  go_wp2_with fail
  refine (HW1.out _).mono ?_
  rintro e w3 ⟨v, rfl, T3, b3⟩
  have B3 : Hid (Below w.heap.size w w3) := below_next B2.out.size B2.out b3
  clear b3
  go_wp2_with fail
  refine (HW2.out _).mono ?_
  rintro e w4 ⟨v', rfl, _, b4⟩
  have B4 : Hid (Below w.heap.size w w4) := below_next B3.out.size B3.out b4
  have T4 := Lib.hid (T3.below b4)
  clear b4 T3
  go_wp2_with fail
  have B5 : Hid (Below w.heap.size w (w4.alloc (.cells #[.string ⟨#[97]⟩, .string ⟨#[98]⟩] 9))) := B4.out.alloc B4.out.size _
  have T5 : Hid (TextsAt (w4.alloc (.cells #[.string ⟨#[97]⟩, .string ⟨#[98]⟩] 9)) v [[97], [98]]) := T4.out.below ((Below.refl _ w4).alloc (Nat.le_refl _) _)
  refine (same_texts T5.out (lit_two w4) (by decide) (r := true) (by kernel_rfl)).mono ?_
  rintro e w6 ⟨rfl, n6, hw6⟩
  have B6 : Hid (Below w.heap.size w w6) := by rw [hw6]; exact below_drewN B5.out n6
  have T6 : Hid (TextsAt w6 v [[97], [98]]) := by rw [hw6]; exact T5.out.drewN n6
  clear hw6
  go_wp2_with fail
  refine (HN.out _ (HT.out.on (B6.out.mono HBs.out))).mono ?_
  rintro e w7 ⟨rfl, b7⟩
  have B7 : Hid (Below w.heap.size w w7) := below_next B6.out.size B6.out b7
  have T7 := Lib.hid (T6.out.below b7)
  clear b7
  go_wp2_with fail
  refine (HD.out _).mono ?_
  rintro e w8 ⟨rfl, b8⟩
  have B8 : Hid (Below w.heap.size w w8) := below_next B7.out.size B7.out b8
  have T8 := Lib.hid (T7.out.below b8)
  clear b8
  go_wp2_with fail
  refine (join_is w8 T8.out (by decide) (by simp) (S := ⟨#[97, 32, 98]⟩) rfl).mono ?_
  rintro e w9 ⟨rfl, b9⟩
  have B9 : Hid (Below w.heap.size w w9) := below_next B8.out.size B8.out b9
  clear b9
  go_wp2
  go_ret
  exact ⟨rfl, B9.out⟩
end Go.Proofs.YtcafppconcghhaaDoor
