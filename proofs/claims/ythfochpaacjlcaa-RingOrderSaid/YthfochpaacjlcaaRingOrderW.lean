/- The walk of RingOrder. -/
import Derived.Test.YthfochpaacjlcaaRingWorks
namespace Go.Proofs.Ythfochpaacjlcaa
open Go.RowKit

theorem zero_ring {W : World} : RingIn (W.alloc (.cells #[.slice none 0 0, .int .i64 0, .int .i64 0] 45)) W.heap.size (W.heap.size + 1) (.pointer (some ⟨W.heap.size, 0, none⟩)) 0 [] := by
  refine ⟨W.heap.size, none, 0, rfl, ⟨?_, .inl ⟨rfl, rfl⟩, by omega, by simp, .inr ⟨rfl, rfl⟩⟩, Nat.le_refl _, by omega, by simp, fun b e => by cases e⟩
  have := World.rowIs_alloc W #[.slice none 0 0, .int .i64 0, .int .i64 0] 45 (ringF none 0 0 0) (by
    intro i hi
    match i, hi with
    | 0, _ => rfl
    | 1, _ => rfl
    | 2, _ => rfl)
  simpa using this
/-- What is there behind k calls of Put and j of Take. -/
def part (xs : List Int) (j k : Nat) : List Int := (xs.take k).drop j
theorem part_length {xs : List Int} {j k : Nat} (hk : k ≤ xs.length) : (part xs j k).length = k - j := by unfold part; rw [List.length_drop, List.length_take]; omega
theorem part_cons {xs : List Int} {j k : Nat} (h : j < k) (hk : k ≤ xs.length) : part xs j k = (xs[j]'(by omega)) :: part xs (j + 1) k := by
  unfold part
  rw [List.drop_eq_getElem_cons (by rw [List.length_take]; omega), List.getElem_take]
theorem part_snoc {xs : List Int} {j k : Nat} (h : j ≤ k) (hk : k < xs.length) : part xs j (k + 1) = part xs j k ++ [xs[k]'hk] := by
  unfold part
  rw [List.take_succ_eq_append_getElem hk, List.drop_append_of_le_length (by rw [List.length_take]; omega)]
set_option maxRecDepth 100000 in
set_option maxHeartbeats 3200000 in
theorem order_any {w : World} {A : Option Addr} {xs : List Int} {room len c : Nat} (h : IntsAt w A xs) (hlen : len = xs.length) (hlen2 : len ≤ 9223372036854775807) (hroom : room < 256) :
    Calls Try.prog 4 #[.int .u8 room, .slice A len c] w (TrueBelow w) := by
  have hnot := not_any
  by_cases hbig : 200 < (len : Int)
  · go_enter Try.func4, Try.ntmps4
    go_wp2_with (go_at_call 5; refine works_any.mono ?_; rintro e w' ⟨rfl, hb⟩)
    go_ret
    exact ⟨rfl, hb⟩
  · by_cases h0 : room = 0
    · subst h0
      go_enter Try.func4, Try.ntmps4
      go_wp2_with (go_at_call 5; refine works_any.mono ?_; rintro e w' ⟨rfl, hb⟩)
      go_ret
      exact ⟨rfl, hb⟩
    · have hne0 : ((room : Int) == 0) = false := by simp; omega
      have HN := Lib.hid hlen
      have H := Lib.hid h
      clear h hlen
      have hwr : IntKind.i64.wrap (room : Int) = (room : Int) := IntWalk.i64_in _ (by omega)
      go_enter Try.func4, Try.ntmps4
      go_wp2_with fail
      refine (new_in (n := room) (by omega)).mono ?_
      rintro e w1 ⟨g, rfl, s1, b1⟩
      go_wp2
      go_loopw [6, 7] (fun nx i wr => ∃ j k : Nat, j ≤ k ∧ k ≤ len ∧ nx = .int .i64 j ∧ i = .int .i64 k ∧ RingIn wr w.heap.size w1.heap.size (.pointer (some ⟨g, 0, none⟩)) room (part xs j k) ∧ Below w.heap.size w wr) (fun _ i _ => len - (intOf i).toNat)
      case atStart => exact ⟨0, 0, Nat.le_refl _, Nat.zero_le _, rfl, rfl, s1, b1⟩
      case round =>
        obtain ⟨j, k, hjk, hk, rfl, rfl, s2, b2⟩ := hrel
        have hkx : k ≤ xs.length := by have := HN.out; omega
        by_cases hlt : k < len
        · have hkx2 : k < xs.length := by have := HN.out; omega
          have hi : 0 ≤ (k : Int) ∧ (k : Int) < (len : Int) := by omega
          have hji : 0 ≤ (j : Int) ∧ (j : Int) < (len : Int) := by omega
          have hpl := part_length (j := j) hkx
          have hle := s2.small
          by_cases hfull : k - j = room
          · have hjk2 : j < k := by omega
            have HC := Lib.hid (part_cons hjk2 hkx)
            have HS := Lib.hid (part_snoc (j := j + 1) (by omega) hkx2)
            have hpl3 := part_length (j := j + 1) hkx
            have HP : Hid (putL room (part xs (j + 1) k) (xs[k]'hkx2) = part xs (j + 1) (k + 1) ∧ putB room (part xs (j + 1) k) = true) :=
              ⟨by rw [HS.out]; exact if_pos (by omega), decide_eq_true (by omega)⟩
            obtain ⟨b, off, rfl, hcj⟩ := H.out.at_ (show j < xs.length by omega)
            obtain ⟨b', off', e', hck⟩ := H.out.at_ hkx2
            injection e' with e'
            injection e' with e1 e2
            subst e1 e2
            have hbl := World.block_lt_of_cell? _ _ hcj
            rw [HC.out] at s2
            have HLN : Hid ((xs[j]'(by omega) :: part xs (j + 1) k).length = room) := by show _ = _; rw [← HC.out, hpl]; exact hfull
            generalize xs[j]'(by omega) = y at *
            generalize xs[k]'hkx2 = z at *
            have HR : Hid (∀ W : World, Below w.heap.size w W → W.cell? ⟨b, off + j, none⟩ = some (.int .i64 y) ∧ W.cell? ⟨b, off + k, none⟩ = some (.int .i64 z)) :=
              fun W hW => ⟨(hW.cell (p := ⟨b, off + j, none⟩) hbl).trans hcj, (hW.cell (p := ⟨b, off + k, none⟩) hbl).trans hck⟩
            clear HC HS hpl hpl3 hcj hck
            go_wp2_with fail
            refine (len_is s2 HLN.out).mono ?_
            rintro e w' ⟨rfl, rfl⟩
            go_wp2_with fail
            refine (take_is (l' := part xs (j + 1) k) (t := y) (r := true) s2 rfl rfl rfl).mono ?_
            rintro e w3 ⟨rfl, s3, c3⟩
            have b3 := c3.below b2 b2.size (.inl (Nat.le_refl _))
            obtain ⟨q1, q2⟩ := HR.out _ b3
            clear s2 b2 c3
            go_wp2_with fail
            refine (put_is s3 z HP.out.1 HP.out.2).mono ?_
            rintro e w4 ⟨rfl, s4, c4⟩
            have b4 := c4.below b3 b3.size (.inl (Nat.le_refl _))
            clear s3 b3 c4 q1 q2
            go_wp2
            go_roundw
            case rel => exact ⟨j + 1, k + 1, by omega, by omega, by go_num, by go_num, s4, b4⟩
            case measure => simp [intOf]; omega
          · have HS := Lib.hid (part_snoc (j := j) hjk hkx2)
            have HP : Hid (putL room (part xs j k) (xs[k]'hkx2) = part xs j (k + 1) ∧ putB room (part xs j k) = true) :=
              ⟨by rw [HS.out]; exact if_pos (by omega), decide_eq_true (by omega)⟩
            obtain ⟨b, off, rfl, hck⟩ := H.out.at_ hkx2
            have hbl := World.block_lt_of_cell? _ _ hck
            obtain ⟨m, em⟩ : ∃ m, (part xs j k).length = m := ⟨_, rfl⟩
            have hmf : ((m : Int) == (room : Int)) = false := by simp; omega
            have HLN := Lib.hid em
            generalize xs[k]'hkx2 = z at *
            have q2 : wr.cell? ⟨b, off + k, none⟩ = some (.int .i64 z) := (b2.cell (p := ⟨b, off + k, none⟩) hbl).trans hck
            clear HS hpl hck em
            go_wp2_with fail
            refine (len_is s2 HLN.out).mono ?_
            rintro e w' ⟨rfl, rfl⟩
            go_wp2_with fail
            refine (put_is s2 z HP.out.1 HP.out.2).mono ?_
            rintro e w4 ⟨rfl, s4, c4⟩
            have b4 := c4.below b2 b2.size (.inl (Nat.le_refl _))
            clear s2 b2 c4 q2
            go_wp2
            go_roundw
            case rel => exact ⟨j, k + 1, by omega, by omega, by go_num, by go_num, s4, b4⟩
            case measure => simp [intOf]; omega
        · have hlt2 : ¬ (k : Int) < (len : Int) := by omega
          obtain rfl : k = len := by omega
          clear b1 s1 hlt
          go_wp2
          go_loopw [6] (fun nx wr => ∃ j : Nat, j ≤ k ∧ nx = .int .i64 j ∧ RingIn wr w.heap.size w1.heap.size (.pointer (some ⟨g, 0, none⟩)) room (part xs j k) ∧ Below w.heap.size w wr) (fun nx _ => k - (intOf nx).toNat)
          case atStart => exact ⟨j, hjk, rfl, s2, b2⟩
          case round =>
            clear s2 b2 hjk
            obtain ⟨j, hj, rfl, s2, b2⟩ := hrel
            by_cases hlt : j < k
            · have hji : 0 ≤ (j : Int) ∧ (j : Int) < (k : Int) := by omega
              have HC := Lib.hid (part_cons hlt hkx)
              obtain ⟨b, off, rfl, hcj⟩ := H.out.at_ (show j < xs.length by omega)
              have hbl := World.block_lt_of_cell? _ _ hcj
              rw [HC.out] at s2
              generalize xs[j]'(by omega) = y at *
              have HR : Hid (∀ W : World, Below w.heap.size w W → W.cell? ⟨b, off + j, none⟩ = some (.int .i64 y)) :=
                fun W hW => (hW.cell (p := ⟨b, off + j, none⟩) hbl).trans hcj
              clear HC hcj
              go_wp2_with fail
              refine (take_is (l' := part xs (j + 1) k) (t := y) (r := true) s2 rfl rfl rfl).mono ?_
              rintro e w3 ⟨rfl, s3, c3⟩
              have b3 := c3.below b2 b2.size (.inl (Nat.le_refl _))
              have q1 := HR.out _ b3
              clear s2 b2 c3
              go_wp2
              go_roundw
              case rel => exact ⟨j + 1, by omega, by go_num, s3, b3⟩
              case measure => simp [intOf]; omega
            · have hlt2 : ¬ (j : Int) < (k : Int) := by omega
              have HL0 : Hid ((part xs j k).length = 0) := by show _ = _; rw [part_length hkx]; omega
              clear hlt
              go_wp2_with fail
              refine (take_nil _).mono ?_
              rintro e w' ⟨rfl, rfl⟩
              have z2 := zero_ring (W := wr)
              have s3 := s2.chg (Chg.alloc 0 0 wr (.cells #[.slice none 0 0, .int .i64 0, .int .i64 0] 45)) (by omega)
              have b3 := b2.alloc b2.size (.cells #[.slice none 0 0, .int .i64 0, .int .i64 0] 45)
              clear s2 b2
              go_wp2_with fail
              refine (first_is (r := 0) (s := false) z2 rfl rfl).mono ?_
              rintro e w' ⟨rfl, m, rfl⟩
              have z3 := z2.drewN m
              have s4 := s3.drewN m
              have b4 := below_drewN b3 m
              clear z2 s3 b3
              generalize (wr.alloc (.cells #[.slice none 0 0, .int .i64 0, .int .i64 0] 45)).drewN m = w4 at *
              go_wp2_with fail
              refine (at_nil _ _).mono ?_
              rintro e w' ⟨rfl, rfl⟩
              go_wp2_with fail
              refine (len_is s4 HL0.out).mono ?_
              rintro e w' ⟨rfl, rfl⟩
              go_wp2_with fail
              refine (put_nil _ _).mono ?_
              rintro e w' ⟨rfl, rfl⟩
              go_wp2_with fail
              refine (put_full z3 rfl 1).mono ?_
              rintro e w' ⟨rfl, rfl⟩
              go_wp2_with fail
              refine (len_nil _).mono ?_
              rintro e w' ⟨rfl, rfl⟩
              go_wp2_with fail
              refine (len_is (n := 0) z3 rfl).mono ?_
              rintro e w' ⟨rfl, rfl⟩
              go_wp2_with fail
              refine (room_nil _).mono ?_
              rintro e w' ⟨rfl, rfl⟩
              go_wp2_with fail
              refine (room_is z3).mono ?_
              rintro e w' ⟨rfl, rfl⟩
              go_wp2_with fail
              refine (place_nil _ _).mono ?_
              rintro e w5 ⟨rfl, b5⟩
              have z5 := z3.chg (Chg.of_below (lo := 0) (hi := 0) b5) (by omega)
              have b6 := b4.trans (b5.mono b4.size)
              clear z3 s4 b4 b5
              go_wp2_with fail
              refine (place_is (r := -1) z5 rfl).mono ?_
              rintro e w6 ⟨rfl, b7⟩
              have z6 := z5.chg (Chg.of_below (lo := 0) (hi := 0) b7) (by omega)
              have b8 := b6.trans (b7.mono b6.size)
              clear z5 b6 b7
              go_wp2_with fail
              refine (list_nil _).mono ?_
              rintro e w7 ⟨A7, c7, rfl, i7, b9⟩
              rw [show ([] : List Int).length = 0 from rfl]
              have z7 := z6.chg (Chg.of_below (lo := 0) (hi := 0) b9) (by omega)
              have b10 := b8.trans (b9.mono b8.size)
              clear z6 b8 b9 i7
              go_wp2_with fail
              refine (list_is z7).mono ?_
              rintro e w8 ⟨A8, c8, rfl, i8, b11⟩
              rw [show ([] : List Int).length = 0 from rfl]
              have b12 := b10.trans (b11.mono b10.size)
              clear z7 b10 b11 i8
              go_wp2_with fail
              refine works_any.mono ?_
              rintro e w9 ⟨rfl, b13⟩
              have b14 := b12.trans (b13.mono b12.size)
              go_wp2
              go_ret
              exact ⟨rfl, b14⟩
end Go.Proofs.Ythfochpaacjlcaa
