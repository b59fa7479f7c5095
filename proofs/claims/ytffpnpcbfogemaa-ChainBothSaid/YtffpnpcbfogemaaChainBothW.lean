/- The walk of ChainBoth. -/
import Derived.Test.YtffpnpcbfogemaaChainDo
import Derived.Test.YtffpnpcbfogemaaChainMovesW
namespace Go.Proofs.Ytffpnpcbfogemaa
open Go.RowKit

/-- What nil and zero chains tell: the law's last row. -/
theorem lst_cut (d : List Nat) (y : Nat) : lst (d ++ [y]) (-1) = (y : Int) := lst_push d y (-1)
set_option maxRecDepth 100000 in
set_option maxHeartbeats 3200000 in
theorem both_any {w : World} {A B : Option Addr} {xs ys : List Nat} {len len2 c c' : Nat} (h : BytesAt w A xs) (hlen : len = xs.length) (h' : BytesAt w B ys) (hlen' : len2 = ys.length) :
    Calls Try.prog 4 #[.slice A len c, .slice B len2 c'] w (TrueBelow w) := by
  have hnot := not_any
  by_cases hbig : 300 < (len : Int)
  · clear h h'
    go_enter Try.func4, Try.ntmps4
    go_wp2_with fail
    refine works_any.mono ?_
    rintro e w' ⟨rfl, hb⟩
    go_wp2
    go_ret
    exact ⟨rfl, hb⟩
  · by_cases hbig2 : 300 < (len2 : Int)
    · clear h h'
      go_enter Try.func4, Try.ntmps4
      go_wp2_with fail
      refine works_any.mono ?_
      rintro e w' ⟨rfl, hb⟩
      go_wp2
      go_ret
      exact ⟨rfl, hb⟩
    · have hle : len ≤ 300 := by omega
      have hle2 : len2 ≤ 300 := by omega
      have HN := Lib.hid hlen
      have H := Lib.hid h
      have HN2 := Lib.hid hlen'
      have H2 := Lib.hid h'
      clear h hlen h' hlen'
      go_enter Try.func4, Try.ntmps4
      go_wp2_with fail
      refine (new_in (L := 3) (N := 256) (by omega) (by omega)).mono ?_
      rintro e w1 ⟨g, rfl, s1, b1⟩
      go_wp2
      go_loopw [6] (fun i wr => ∃ (k : Nat) (m : Nat → List Nat), k ≤ len ∧ i = .int .i64 k ∧ ChainIn wr w.heap.size w1.heap.size (.pointer (some ⟨g, 0, none⟩)) 3 256 m ∧ Below w.heap.size w wr) (fun i _ => len - (intOf i).toNat)
      case atStart => exact ⟨0, _, Nat.zero_le _, rfl, s1, b1⟩
      case round =>
        clear s1
        obtain ⟨k, m, hk, rfl, s2, b2⟩ := hrel
        by_cases hlt : k < len
        · have hkx : k < xs.length := by have := HN.out; omega
          have hi : 0 ≤ (k : Int) ∧ (k : Int) < (len : Int) := by omega
          obtain ⟨b, off, rfl, h256, hc⟩ := H.out.at_ hkx
          have hbl := World.block_lt_of_cell? _ _ hc
          generalize xs[k]'hkx = y at *
          have hcr : wr.cell? ⟨b, off + k, none⟩ = some (.int .u8 y) := (b2.cell (p := ⟨b, off + k, none⟩) hbl).trans hc
          have hwr : IntKind.i64.wrap (y : Int) = (y : Int) := IntWalk.i64_in _ (by omega)
          obtain ⟨q, eq⟩ : ∃ q, q = k % 3 := ⟨_, rfl⟩
          have htm : Int.tmod (k : Int) 3 = (q : Int) := by rw [Int.tmod_eq_emod_of_nonneg (by omega), eq]; push_cast; rfl
          have hwq : IntKind.i64.wrap (q : Int) = (q : Int) := IntWalk.i64_in _ (by omega)
          clear hc eq
          go_wp2_with fail
          refine (add_is s2 _ (y : Int)).mono ?_
          rintro e w3 ⟨rfl, s3, c3⟩
          have b3 := c3.below b2 b2.size (.inl (Nat.le_refl _))
          clear s2 b2 c3
          go_wp2
          go_roundw
          case rel => exact ⟨k + 1, _, by omega, by go_num, s3, b3⟩
          case measure => simp [intOf]; omega
        · have hge : ¬ (k : Int) < (len : Int) := by omega
          clear hlt hk hbig
          go_wp2
          clear hge
          go_loopw [7] (fun i wr => ∃ (k : Nat) (m : Nat → List Nat), k ≤ len2 ∧ i = .int .i64 k ∧ ChainIn wr w.heap.size w1.heap.size (.pointer (some ⟨g, 0, none⟩)) 3 256 m ∧ Below w.heap.size w wr) (fun i _ => len2 - (intOf i).toNat)
          case atStart => exact ⟨0, _, Nat.zero_le _, rfl, s2, b2⟩
          case round =>
            clear s2 b2
            obtain ⟨k2, m, hk, rfl, s2, b2⟩ := hrel
            by_cases hlt : k2 < len2
            · have hkx : k2 < ys.length := by have := HN2.out; omega
              have hi : 0 ≤ (k2 : Int) ∧ (k2 : Int) < (len2 : Int) := by omega
              obtain ⟨b, off, rfl, h256, hc⟩ := H2.out.at_ hkx
              have hbl := World.block_lt_of_cell? _ _ hc
              generalize ys[k2]'hkx = y at *
              have hcr : wr.cell? ⟨b, off + k2, none⟩ = some (.int .u8 y) := (b2.cell (p := ⟨b, off + k2, none⟩) hbl).trans hc
              have hwr : IntKind.i64.wrap (y : Int) = (y : Int) := IntWalk.i64_in _ (by omega)
              clear hc
              go_wp2_with fail
              refine (drop_is s2 (y : Int)).mono ?_
              rintro e w3 ⟨rfl, s3, c3⟩
              have b3 := c3.below b2 b2.size (.inl (Nat.le_refl _))
              clear s2 b2 c3
              go_wp2
              go_roundw
              case rel => exact ⟨k2 + 1, _, by omega, by go_num, s3, b3⟩
              case measure => simp [intOf]; omega
            · have hge : ¬ (k2 : Int) < (len2 : Int) := by omega
              clear hlt hk hbig2
              go_wp2
              clear hge
              go_loopw [8] (fun i wr => ∃ q : Nat, q ≤ 3 ∧ i = .int .i64 q ∧ ChainIn wr w.heap.size w1.heap.size (.pointer (some ⟨g, 0, none⟩)) 3 256 m ∧ Below w.heap.size w wr) (fun i _ => 3 - (intOf i).toNat)
              case atStart => exact ⟨0, by omega, rfl, s2, b2⟩
              case round =>
                clear s2 b2
                obtain ⟨q, hq, rfl, s2, b2⟩ := hrel
                by_cases hlt : q < 3
                · have hi : 0 ≤ (q : Int) ∧ (q : Int) < 3 := by omega
                  obtain ⟨l, el⟩ : ∃ l, m q = l := ⟨_, rfl⟩
                  have HL := Lib.hid el
                  have HND : Hid (l.Nodup) := by show _; rw [← el]; exact s2.1.nodup q
                  have hle3 : l.length ≤ 256 := by rw [← el]; exact s2.1.len q
                  have HRW : Hid (rowOf m (q : Int) = l) := (rowOf_nat m q).trans el
                  clear el
                  go_wp2_with fail
                  refine (list_is s2 (x := (q : Int)) HRW.out).mono ?_
                  rintro e w4 ⟨v4, rfl, ⟨A4, c4, rfl, _, i4, l4⟩, b4⟩
                  have s4 := s2.below b4
                  have b5 := b2.trans (b4.mono b2.size)
                  clear s2 b2 b4
                  obtain ⟨n, en⟩ : ∃ n, l.length = n := ⟨_, rfl⟩
                  rw [en] at hle3 ⊢
                  have HLN := Lib.hid en
                  clear en
                  go_wp2_with fail
                  refine (last_is s4 (x := (q : Int)) (r := lst l (-1)) (by rw [HRW.out])).mono ?_
                  rintro e w5 ⟨rfl, b6⟩
                  have s5 := s4.below b6
                  have b7 := b5.trans (b6.mono b5.size)
                  have i5 := i4.chg l4 (Chg.of_below (lo := 0) (hi := 0) b6) (by omega)
                  clear s4 b5 b6 i4 l4
                  have hws : IntKind.i64.wrap ((n : Int) - 1) = (n : Int) - 1 := IntWalk.i64_in _ (by omega)
                  go_wp2
                  clear hws
                  go_loopw [10, 11] (fun x i wr2 => ∃ d r : List Nat, Hid (l = d ++ r) ∧ x = .int .i64 (lst d (-1)) ∧ i = .int .i64 ((d.length : Int) - 1) ∧ ChainIn wr2 w.heap.size w1.heap.size (.pointer (some ⟨g, 0, none⟩)) 3 256 m ∧ IntsAt wr2 A4 (ints l) ∧ Below w.heap.size w wr2) (fun _ i _ => (intOf i + 1).toNat)
                  case atStart => exact ⟨l, [], by show _ = _; simp, rfl, by rw [HLN.out], s5, i5, b7⟩
                  case round =>
                    clear s5 i5 b7
                    obtain ⟨d, r, hdr, rfl, rfl, s6, i6, b8⟩ := hrel
                    by_cases hd0 : d = []
                    · subst hd0
                      rw [show lst [] (-1) = -1 from rfl, show ((([] : List Nat).length : Nat) : Int) - 1 = -1 from rfl]
                      have hbn : ((n : Int) != (n : Int)) = false := by simp
                      go_wp2_with fail
                      refine (len_is s6 (x := (q : Int)) (r := n) (by rw [HRW.out]; exact HLN.out)).mono ?_
                      rintro e w7 ⟨rfl, b9⟩
                      have s7 := s6.below b9
                      have b10 := b8.trans (b9.mono b8.size)
                      clear s6 i6 b8 b9
                      go_wp2
                      go_roundw
                      case rel => exact ⟨q + 1, by omega, by go_num, s7, b10⟩
                      case measure => simp [intOf]; omega
                    · obtain ⟨d', y, rfl⟩ := lst_ne hd0
                      obtain ⟨p, ep⟩ : ∃ p, d'.length = p := ⟨_, rfl⟩
                      rw [lst_push, show (((d' ++ [y]).length : Nat) : Int) - 1 = (p : Int) by rw [List.length_append, ← ep]; simp]
                      have HS : Hid (Spot m (y : Int) (q : Int) (lst d' (-1)) (hd r (-1))) := .at_ q d' y r rfl (by rw [HL.out, hdr.out]; simp)
                      have hyl : l[p]? = some y := by
                        rw [hdr.out, ← ep]
                        simp
                      have hpn : p < n := by
                        have := (List.getElem?_eq_some_iff.1 hyl).1
                        have := HLN.out
                        omega
                      have HDR : Hid (l = d' ++ (y :: r)) := by show _ = _; rw [hdr.out]; simp
                      have HEP := Lib.hid ep
                      obtain ⟨b, off, rfl, hc⟩ := i6.nat hyl
                      have hpr : 0 ≤ (p : Int) ∧ (p : Int) < (n : Int) := by omega
                      have hbb : ((y : Int) != (y : Int)) = false := by simp
                      have hbq : ((q : Int) != (q : Int)) = false := by simp
                      have hws : IntKind.i64.wrap ((p : Int) - 1) = (p : Int) - 1 := IntWalk.i64_in _ (by omega)
                      clear hdr hd0 ep hyl
                      go_wp2_with fail
                      refine (of_is s6 HS.out).mono ?_
                      rintro e w7 ⟨rfl, b9⟩
                      have s7 := s6.below b9
                      have b10 := b8.trans (b9.mono b8.size)
                      have i7 := i6.below b9
                      clear s6 i6 b8 b9 hc
                      go_wp2_with fail
                      refine (back_is s7 HS.out).mono ?_
                      rintro e w8 ⟨rfl, b11⟩
                      have s8 := s7.below b11
                      have b12 := b10.trans (b11.mono b10.size)
                      have i8 := i7.below b11
                      clear s7 i7 b10 b11
                      go_wp2
                      go_roundw
                      case rel => exact ⟨d', y :: r, HDR.out, rfl, by rw [HEP.out], s8, i8, b12⟩
                      case measure => simp [intOf]
                · have hge : ¬ (q : Int) < 3 := by omega
                  have hW := b2.size
                  clear hlt hq
                  have z0 := zero_chain wr
                  have b3 := b2.alloc b2.size (.cells #[.slice none 0 0, .slice none 0 0] 44)
                  obtain ⟨z, ez⟩ : ∃ z, wr.heap.size = z := ⟨_, rfl⟩
                  have hnc : ∀ m' : Nat → List Nat, ¬ Can 0 0 m' 0 0 := fun m' hc => absurd hc.1 (by decide)
                  have hno : Out (fun _ => []) 0 := fun i k e hk => by simp at hk
                  have HNC := Lib.hid hnc
                  have HNO := Lib.hid hno
                  clear hnc hno b2 s2
                  rw [ez] at z0 hW
                  go_wp2_with fail
                  clear ez hge
                  generalize hW0 : wr.alloc (.cells #[.slice none 0 0, .slice none 0 0] 44) = v0 at *
                  clear hW0
                  refine (add_no (nil_chain _ 0 (Nat.zero_le _)) (HNC.out _)).mono ?_
                  rintro e v1 ⟨rfl, _, d0⟩
                  have z1 := z0.chg d0 (by omega)
                  have b4 := d0.below b3 b3.size (.inr (Nat.le_refl _))
                  clear z0 b3 d0
                  go_wp2_with fail
                  refine (add_no z1 (HNC.out _)).mono ?_
                  rintro e v2 ⟨rfl, z2, d1⟩
                  have b5 := d1.below b4 b4.size (.inl hW)
                  clear z1 b4 d1
                  go_wp2_with fail
                  refine (drop_no (nil_chain _ 0 (Nat.zero_le _)) HNO.out).mono ?_
                  rintro e v3 ⟨rfl, _, d2⟩
                  have z3 := z2.chg d2 (by omega)
                  have b6 := d2.below b5 b5.size (.inr (Nat.le_refl _))
                  clear z2 b5 d2
                  go_wp2_with fail
                  refine (drop_no z3 HNO.out).mono ?_
                  rintro e v4 ⟨rfl, z4, d3⟩
                  have b7 := d3.below b6 b6.size (.inl hW)
                  clear z3 b6 d3
                  go_wp2_with fail
                  refine (of_is (nil_chain _ 0 (Nat.zero_le _)) (.out HNO.out)).mono ?_
                  rintro e v5 ⟨rfl, d4⟩
                  have z5 := z4.below d4
                  have b8 := b7.trans (d4.mono b7.size)
                  clear z4 b7 d4
                  go_wp2_with fail
                  refine (first_is z5 (x := 0) (r := -1) rfl).mono ?_
                  rintro e v6 ⟨rfl, d5⟩
                  have z6 := z5.below d5
                  have b9 := b8.trans (d5.mono b8.size)
                  clear z5 b8 d5
                  go_wp2_with fail
                  refine (last_is (nil_chain _ 0 (Nat.zero_le _)) (x := 0) (r := -1) rfl).mono ?_
                  rintro e v7 ⟨rfl, d6⟩
                  have z7 := z6.below d6
                  have b10 := b9.trans (d6.mono b9.size)
                  clear z6 b9 d6
                  go_wp2_with fail
                  refine (next_is z7 (.out HNO.out)).mono ?_
                  rintro e v8 ⟨rfl, d7⟩
                  have z8 := z7.below d7
                  have b11 := b10.trans (d7.mono b10.size)
                  clear z7 b10 d7
                  go_wp2_with fail
                  refine (back_is (nil_chain _ 0 (Nat.zero_le _)) (.out HNO.out)).mono ?_
                  rintro e v9 ⟨rfl, d8⟩
                  have z9 := z8.below d8
                  have b12 := b11.trans (d8.mono b11.size)
                  clear z8 b11 d8
                  go_wp2_with fail
                  refine (len_is (nil_chain _ 0 (Nat.zero_le _)) (x := 0) (r := 0) rfl).mono ?_
                  rintro e v10 ⟨rfl, d9⟩
                  have z10 := z9.below d9
                  have b13 := b12.trans (d9.mono b12.size)
                  clear z9 b12 d9
                  go_wp2_with fail
                  refine (len_is z10 (x := 0) (r := 0) rfl).mono ?_
                  rintro e v11 ⟨rfl, d10⟩
                  have z11 := z10.below d10
                  have b14 := b13.trans (d10.mono b13.size)
                  clear z10 b13 d10
                  go_wp2_with fail
                  refine (list_is (nil_chain _ 0 (Nat.zero_le _)) (x := 0) (l := []) rfl).mono ?_
                  rintro e v12 ⟨u11, rfl, ⟨A11, c11, rfl, _, _, _⟩, d11⟩
                  rw [show ([] : List Nat).length = 0 from rfl]
                  have z12 := z11.below d11
                  have b15 := b14.trans (d11.mono b14.size)
                  clear z11 b14 d11
                  go_wp2_with fail
                  refine (list_is z12 (x := 0) (l := []) rfl).mono ?_
                  rintro e v13 ⟨u12, rfl, ⟨A12, c12, rfl, _, _, _⟩, d12⟩
                  rw [show ([] : List Nat).length = 0 from rfl]
                  have z13 := z12.below d12
                  have b16 := b15.trans (d12.mono b15.size)
                  clear z12 b15 d12
                  go_wp2_with fail
                  refine works_any.mono ?_
                  rintro e w99 ⟨rfl, d99⟩
                  have b99 := b16.trans (d99.mono b16.size)
                  go_wp2
                  go_ret
                  exact ⟨rfl, b99⟩
end Go.Proofs.Ytffpnpcbfogemaa
