/- The walk of FreeBoth. -/
import Derived.Test.YtgooajgoofojmaaDoorFreePlaysW
import Derived.Test.YtgooajgoofojmaaDoorBaseRows
namespace Go.Proofs.YtgooajgoofojmaaDoor
open Go.RowKit

theorem quiet_more {P : Program} {f : FuncId} {args : Array Value} {w : World} {n : Nat} {v : Value} (h : Calls P f args (w.drewN n) fun e w' => e = .returned v ∧ ∃ m, w' = (w.drewN n).drewN m) : Calls P f args (w.drewN n) fun e w' => e = .returned v ∧ ∃ m, w' = w.drewN m :=
  h.mono fun _ _ ⟨he, m, hm⟩ => ⟨he, n + m, by rw [hm]; exact World.drewN_drewN _ _ _⟩
set_option maxRecDepth 100000 in
set_option maxHeartbeats 6400000 in
theorem both_any {w : World} {A : Option Addr} {xs : List Nat} {len c : Nat} (hT : TabOk w) (h : BytesAt w A xs) (hlen : len = xs.length) :
    Calls Tryd.prog 4 #[.slice A len c] w (TrueBelow w) := by
  have hnot := not_any
  by_cases hbig : 100 < (len : Int)
  · go_enter Tryd.func4, Tryd.ntmps4
    go_wp2_with fail
    refine works_any.mono ?_
    rintro e w' ⟨rfl, hb⟩
    go_wp2
    go_ret
    exact ⟨rfl, hb⟩
  · have HN := Lib.hid hlen
    have H := Lib.hid h
    have HTT := Lib.hid hT
    clear h hlen hT
    go_enter Tryd.func4, Tryd.ntmps4
    go_wp2_with fail
    refine (fnew_in (n := 20) (by omega)).mono ?_
    rintro e w1 ⟨q, hi, rfl, s1, b1⟩
    generalize downK 20 20 = L0 at *
    go_wp2
    go_loopw [4] (fun i wr => ∃ (k : Nat) (L : List Nat), k ≤ len ∧ i = .int .i64 k ∧ FreeIn wr w.heap.size hi (.pointer (some ⟨q, 0, none⟩)) 20 L ∧ Below w.heap.size w wr) (fun i _ => len - (intOf i).toNat)
    case atStart => exact ⟨0, _, by omega, rfl, s1, b1⟩
    case round =>
      clear s1 b1
      obtain ⟨k, L, hk, rfl, s2, b2⟩ := hrel
      by_cases hlt : k < len
      · have hxl : k < xs.length := by have := HN.out; omega
        obtain ⟨b, off, rfl, hyl, hc⟩ := (H.out.below b2).at_ hxl
        generalize xs[k]'hxl = y at *
        have hi0 : 0 ≤ (k : Int) ∧ (k : Int) < (len : Int) := by omega
        obtain ⟨d, ed⟩ : ∃ d : Nat, (y : Int) % 25 = (d : Int) := ⟨y % 25, by omega⟩
        have ed2 : Int.tmod (y : Int) 25 = (d : Int) := by rw [Int.tmod_eq_emod_of_nonneg (by omega)]; exact ed
        have hdl : d < 25 := by omega
        clear hxl
        by_cases h128 : y < 128
        · have HP := Lib.hid (pick_at s2 (d : Int) rfl rfl)
          clear s2
          go_wp2_with fail
          refine HP.out.mono ?_
          rintro e w3 ⟨rfl, s3, c3⟩
          have b3 := c3.below b2 b2.size (.inl (Nat.le_refl _))
          clear c3 b2 HP hc ed ed2
          generalize dropI L (d : Int) = L' at *
          go_wp2
          go_roundw
          case rel => exact ⟨k + 1, L', by omega, by go_num, s3, b3⟩
          case measure => simp [intOf]; omega
        · obtain ⟨r, er⟩ : ∃ r, pushB 20 L (d : Int) = r := ⟨_, rfl⟩
          have HP := Lib.hid (give_at s2 (d : Int) rfl er)
          clear s2
          cases r with
          | false =>
            clear er
            go_wp2_with fail
            refine HP.out.mono ?_
            rintro e w3 ⟨rfl, s3, c3⟩
            have b3 := c3.below b2 b2.size (.inl (Nat.le_refl _))
            clear c3 b2 HP hc ed ed2
            generalize pushL 20 L (d : Int) = L' at *
            go_wp2
            go_roundw
            case rel => exact ⟨k + 1, L', by omega, by go_num, s3, b3⟩
            case measure => simp [intOf]; omega
          | true =>
            have HL : Hid (pushL 20 L (d : Int) = L ++ [d]) := if_pos er
            have hdd : ((d : Int) != (d : Int)) = false := by simp
            clear er
            go_wp2_with fail
            refine HP.out.mono ?_
            rintro e w3 ⟨rfl, s3, c3⟩
            rw [HL.out] at s3
            have b3 := c3.below b2 b2.size (.inl (Nat.le_refl _))
            have HK := Lib.hid (peek_at s3 (topV_snoc L d) (r := true) (by unfold someB; simp))
            clear c3 b2 HP HL hc ed ed2
            go_wp2_with fail
            refine HK.out.mono ?_
            rintro e w4 ⟨rfl, m4, rfl⟩
            have s4 := s3.drewN m4
            have b4 := below_drewN b3 m4
            clear s3 b3 HK
            generalize L ++ [d] = L' at *
            generalize w3.drewN m4 = w4 at *
            go_wp2
            go_roundw
            case rel => exact ⟨k + 1, L', by omega, by go_num, s4, b4⟩
            case measure => simp [intOf]; omega
      · obtain ⟨hsm, hll, hnd, hx⟩ := s2.small
        have HL : Hid ((ints L).length = L.length) := ints_length L
        have HTW : Hid (∀ W, Below w.heap.size w W → TabOk W) := fun W hb => HTT.out.upon hb
        have HLT : Hid (0 < w.heap.size) := HTT.out.lt
        obtain ⟨z, ez⟩ : ∃ z, listV (inL L) 20 = z := ⟨_, rfl⟩
        obtain ⟨m, em⟩ : ∃ m, L.length = m := ⟨_, rfl⟩
        have hzl : z.length = m := by rw [← ez, sorted_length hnd hx, em]
        have HZ := Lib.hid ez
        have HZL := Lib.hid hzl
        have HM := Lib.hid em
        have HND : Hid (L.Nodup ∧ L.length ≤ 1048576) := ⟨hnd, by omega⟩
        have hm20 : m ≤ 20 := by omega
        have hmm : ((m : Int) == (m : Int)) = true := by simp
        clear hnd hx ez hzl
        go_wp2_with fail
        refine (order_at s2).mono ?_
        rintro e w3 ⟨u3, rfl, l3, b3⟩
        have hl3 := l3
        obtain ⟨A3, c3, rfl, _, i3, _⟩ := l3
        have s3 := s2.below b3
        have b3' := b2.trans (b3.mono b2.size)
        rw [em]
        rw [em] at hl3
        clear s2 b2 b3 em hll hlt
        have HL3 := Lib.hid hl3
        have HI3 := Lib.hid i3
        have HS3 := Lib.hid s3
        have HB3 := Lib.hid b3'
        clear hl3 i3 s3 b3'
        go_wp2
        go_loopw [9] (fun i wr => ∃ k j : Nat, k ≤ m ∧ i = .int .i64 k ∧ wr = w3.drewN j) (fun i _ => m - (intOf i).toNat)
        case atStart => exact ⟨0, 0, by omega, rfl, rfl⟩
        case round =>
          obtain ⟨k, j, hk, rfl, rfl⟩ := hrel
          by_cases hlt : k < m
          · have hxl : k < (ints L).length := by rw [HL.out, HM.out]; exact hlt
            obtain ⟨b, off, rfl, hc⟩ := HI3.out.at_ hxl
            have hq : (ints L)[k]? = some ((ints L)[k]'hxl) := List.getElem?_eq_getElem hxl
            generalize (ints L)[k]'hxl = x at *
            have hp := placeI_at HND.out.1 hq
            have hr : dropB L x = true := by
              cases e : dropB L x with
              | true => rfl
              | false => rw [dropB_place e] at hp; omega
            have HP : Hid (∀ j', Calls Tryd.prog 9 #[.slice (some ⟨b, off, none⟩) m c3, .int .i64 x] (w3.drewN j') fun e w' => e = .returned (.int .i64 k) ∧ w3.drewN j' = w') := fun j' => rplace_any (HL3.out.drewN j') HND.out.1 HND.out.2 hp
            have HH : Hid (∀ j', Calls Tryd.prog 8 #[.pointer (some ⟨q, 0, none⟩), .int .i64 x] (w3.drewN j') fun e w' => e = .returned (.bool true) ∧ ∃ n, w' = (w3.drewN j').drewN n) := fun j' => fhas_at (HS3.out.drewN j') x hr
            have hi0 : 0 ≤ (k : Int) ∧ (k : Int) < (m : Int) := by omega
            have hkk : ((k : Int) != (k : Int)) = false := by simp
            clear hq hp hr hxl
            go_wp2_with fail
            refine (HH.out _).mono ?_
            rintro e w4 ⟨rfl, nq, rfl⟩
            go_wp2_with fail
            refine (HP.out (j + nq)).mono ?_
            rintro e w5 ⟨rfl, rfl⟩
            go_wp2
            go_roundw
            case rel => exact ⟨k + 1, j + nq, by omega, by go_num, rfl⟩
            case measure => simp [intOf]; omega
          · have s4 := HS3.out.drewN j
            have b4 := below_drewN HB3.out j
            clear HS3 HB3 HI3 HL3
            generalize w3.drewN j = w4 at *
            have hz := zero_idx w4
            have s5 := s4.chg (Chg.alloc 0 0 w4 (.cells #[.pointer none, .pointer none] 48)) (by omega)
            have b5 := b4.alloc b4.size (.cells #[.pointer none, .pointer none] 48)
            have c5 : (w4.alloc (.cells #[.pointer none, .pointer none] 48)).cell? ⟨w4.heap.size, 0, none⟩ = some (.pointer none) := hz _ (Below.refl _ _)
            have hhi := s4.hiw
            have hlt4 : w4.heap.size < (w4.alloc (.cells #[.pointer none, .pointer none] 48)).heap.size := by simp
            have HC := Lib.hid (flist_at s5 (HTW.out _ b5) HLT.out)
            have HF := Lib.hid (flen_is s5 HM.out)
            clear hz s4 b4
            go_wp2_with fail
            refine (take_nil _).mono ?_
            rintro e w' ⟨rfl, rfl⟩
            go_wp2_with fail
            refine (zpeek c5).mono ?_
            rintro e w' ⟨rfl, rfl⟩
            go_wp2_with fail
            refine HF.out.mono ?_
            rintro e w' ⟨rfl, rfl⟩
            go_wp2_with fail
            refine HC.out.mono ?_
            rintro e w6 ⟨u6, rfl, l6, s6, c6⟩
            rw [HZ.out] at l6
            obtain ⟨A6, d6, rfl, _, _, _⟩ := l6
            rw [HZL.out]
            have z6 : w6.cell? ⟨w4.heap.size, 0, none⟩ = some (.pointer none) := (World.cell?_of_block (a := ⟨w4.heap.size, 0, none⟩) (c6.block w4.heap.size hlt4 (by omega))).trans c5
            have b6 := c6.below b5 b5.size (.inl (Nat.le_refl _))
            clear HC HF s5 b5 c5 s6 c6 hlt4
            go_wp2_with fail
            refine (give_nil _ _).mono ?_
            rintro e w' ⟨rfl, rfl⟩
            go_wp2_with fail
            refine (zpick z6 _).mono ?_
            rintro e w' ⟨rfl, rfl⟩
            go_wp2_with fail
            refine (fhas_nil _ _).mono ?_
            rintro e w7 ⟨rfl, m7, rfl⟩
            have z7 : (w6.drewN m7).cell? ⟨w4.heap.size, 0, none⟩ = some (.pointer none) := z6
            have b7 := below_drewN b6 m7
            clear z6 b6
            generalize w6.drewN m7 = w7 at *
            go_wp2_with fail
            refine (flen_nil _).mono ?_
            rintro e w' ⟨rfl, rfl⟩
            go_wp2_with fail
            refine (zlen z7).mono ?_
            rintro e w' ⟨rfl, rfl⟩
            go_wp2_with fail
            refine (flist_nil _).mono ?_
            rintro e w' ⟨rfl, rfl⟩
            go_wp2_with fail
            refine (zorder z7).mono ?_
            rintro e w8 ⟨u8, rfl, l8, b8⟩
            obtain ⟨A8, d8, rfl, _, _, _⟩ := l8
            have b8' := b7.trans (b8.mono b7.size)
            clear z7 b7 b8
            go_wp2_with fail
            refine works_any.mono ?_
            rintro e w9 ⟨rfl, b9⟩
            have b10 := b8'.trans (b9.mono b8'.size)
            clear b8' b9
            go_wp2
            go_ret
            exact ⟨rfl, b10⟩
end Go.Proofs.YtgooajgoofojmaaDoor
