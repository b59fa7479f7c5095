/- Layer 10 (bytes): Dirty: a contract. -/
import Derived.Test.YtcfnnchbnlcppaaBytesGone
namespace Go.Proofs.Ytcfnnchbnlcppaa
open Go.RowKit Go.Maps

theorem index_row {f : Nat → UInt8} {A : Array Value} (hA : A = rowArr f) {j : Nat} (hj : j < 64) (W : World) : (Instr.index 55 (.agg A) (.int .i64 (j : Int))).run Try.prog W = .ok (.int .u8 ((f j).toNat : Int)) W := by
  obtain ⟨ti, hi, _, hz, _⟩ := info_parts u8_info
  have p : (part 5 A (j * 1)).run Try.prog W = .ok (byteV (f j)) W := by
    rw [Nat.mul_one, hA]
    exact run_part_plain W (by kernel_rfl) (rowArr_at hj)
  have e1 : (0 : Int) ≤ (j : Int) ∧ (j : Int) < 64 := by omega
  rw [Nat.mul_one] at p
  simp only [Instr.index, asIntOf, Sem.run_bind, Sem.run_pure, Result.andThen_ok, run_underlying row_u, sizeOf, typeInfo]
  simp [hi, hz, p, Result.andThen]
  rw [if_pos e1.2]
  rfl
/-- The keys met so far, as numbers. -/
def natsOf (ss : List Int) : List Nat := ss.map Int.toNat
theorem nats_ints (l : List Nat) : natsOf (ints l) = l := by
  unfold natsOf ints
  rw [List.map_map]
  conv => rhs; rw [← List.map_id l]
  exact List.map_congr_left fun x _ => by simp
theorem hasI_yes {c : Nat → UInt8} {x : Int} (h : hasI c x = true) : ∃ k : Nat, x = k ∧ k < 16384 ∧ rowHas c k = true := by
  unfold hasI at h
  rw [Bool.and_eq_true] at h
  have h0 := of_decide_eq_true h.1
  exact ⟨x.toNat, by omega, by omega, h.2⟩
section
variable {w : World} {g b n : Nat} {c : Nat → UInt8}
theorem cntRow_le (c : Nat → UInt8) (k : Nat) : cntRow c k ≤ 64 := cnt_le _ 64
theorem sumL_le {g : Nat → Nat} {N : Nat} (h : ∀ k, g k ≤ N) : ∀ l : List Nat, sumL g l ≤ N * l.length
  | [] => Nat.le_refl _
  | k :: r => by
    have h1 := h k
    have h2 := sumL_le h r
    show g k + sumL g r ≤ N * (r.length + 1)
    rw [Nat.mul_add, Nat.mul_one]
    omega
set_option maxRecDepth 100000 in
set_option maxHeartbeats 2000000 in
theorem dirty_at (h : ChunkAt w g b n c) {r : Nat} (hr : cnt c n = r) : Calls Try.prog 18 #[.pointer (some ⟨g, 0, none⟩)] w fun e w' => e = .returned (.int .i64 r) ∧ Below w.heap.size w w' := by
  obtain ⟨D, hm, hd⟩ := h.mapp
  have c1 := h.c1
  have hz := row_zero
  obtain ⟨Z, hZ⟩ : ∃ Z, Z = rowArr zeroF := ⟨_, rfl⟩
  have hZs : Z.size = 64 := by rw [hZ]; exact rowArr_size _
  rw [← hZ] at hz
  have HD : Hid (RowsAre D c) := hd
  have HE : Hid (∀ ss : List Int, ss.Perm (intKeys D) → sumL (cntRow c) (natsOf ss) = r) := fun ss hp => by
    have h1 : (natsOf ss).Perm (keysOf c) := by
      have := (hp.trans (keys_perm hm hd).symm).map Int.toNat
      rw [show (ints (keysOf c)).map Int.toNat = keysOf c from nats_ints _] at this
      exact this
    rw [sumL_perm h1, sum_keys h.small h.out, hr]
  obtain ⟨K, hK⟩ : ∃ K, Maps.size D = K := ⟨_, rfl⟩
  have hK2 : K ≤ 16384 := by
    rw [← hK, size_keys hm hd]
    exact keysL_length 16384 0
  rw [hK] at hm
  have HM := Lib.hid hm
  have HK := Lib.hid hK
  clear hZ hd hm h hr hK
  go_enter Try.func18, Try.ntmps18
  go_wp2_with (first | (at_range; refine wpList_range_own _ rfl _ 39 rfl 3 55 intKey Try.underlying39 _ b _ D rfl HM.out ?_; intro w0 hrg0 hg0 hs0) | go_in)
  go_frame
  go_loopw [3] (fun cv wr => ∃ (left : Lit → Bool) (cnt0 : Nat) (ss : List Int), wr.ranges Try.prog 3 rowElem b w.heap.size K D left cnt0 ∧ Hid (CollectedI D left ss) ∧ cv = .int .i64 (sumL (cntRow c) (natsOf ss)) ∧ Below w.heap.size w wr ∧ ss.length + cnt0 ≤ K) (fun _ wr => wr.rangeLeft b w.heap.size)
  case atStart => exact ⟨_, _, [], hrg0, CollectedI.start D, rfl, ⟨hg0.os, hg0.tape, hg0.output, hg0.size, fun k hk => hg0.block k hk (by simp)⟩, by rw [HK.out]; simp⟩
  case round =>
    obtain ⟨left, cnt0, ss, hrg, hC, rfl, hbl, hle⟩ := hrel
    have hsum : sumL (cntRow c) (natsOf ss) ≤ 64 * ss.length := by
      have := sumL_le (cntRow_le c) (natsOf ss)
      unfold natsOf at this ⊢
      rwa [List.length_map] at this
    obtain ⟨S, hS⟩ : ∃ S, sumL (cntRow c) (natsOf ss) = S := ⟨_, rfl⟩
    rw [hS] at hsum ⊢
    have HS := Lib.hid hS
    clear hS
    go_wp2_with (first
      | (at_next; refine wpList_next_ranges _ rfl _ rfl 3 intKey rowElem (Value.int .i64) (fun f => .agg (rowArr f)) (fun key kl hk => by obtain ⟨x, hx, _⟩ := Maps.keyOf_i64 Try.underlying3 hk; exact ⟨x, hx⟩) (fun v y hv => by obtain ⟨f, hf, _⟩ := rowElem_inv hv; exact ⟨f, hf⟩) b w.heap.size K _ _ _ rfl hrg ?_ ?_)
      | go_in)
    · intro hc0 hl0
      have HL := Lib.hid hl0
      clear hl0
      go_wp2
      go_ret
      refine ⟨?_, hbl⟩
      rw [← HS.out, HE.out ss (hC.out.perm HM.out intKey Try.underlying3 HL.out)]
      rfl
    · intro x f kl yd yp w1 cnt1 hkey hlk hv hat hrg1 hlt0 hg1 hs1 hen
      obtain ⟨x', ex, rfl, _⟩ := Maps.keyOf_i64 Try.underlying3 hkey
      obtain rfl : x = x' := encZ_inj ex
      rw [rowElem_of] at hv
      injection hv with hv
      injection hv with hv _
      subst hv
      have hhas := has_true_of_atKey hat
      rw [HD.out.has] at hhas
      obtain ⟨k, rfl, hk, _⟩ := hasI_yes hhas
      have hrow : ∀ i, i < 64 → f i = rowOf c k i := rowDat_inj ((hat _).symm.trans (HD.out.at_ k hk))
      have HF : Hid (cnt f 64 = cntRow c k) := cnt_same hrow
      have HC2 : Hid (CollectedI D (fun z => left z && !z.sameKey (.int .i64 (k : Int))) (ss ++ [(k : Int)])) := hC.out.step hlk hat
      have HB1 : Hid (Below w.heap.size w w1) := hbl.trans ⟨hg1.os, hg1.tape, hg1.output, hg1.size, fun j hj => hg1.block j (by have := hbl.size; omega) (by intro e; injection e with e; omega)⟩
      have HR1 := Lib.hid hrg1
      have hsl : ss.length + 1 + cnt1 ≤ K := by omega
      obtain ⟨A, hA⟩ : ∃ A, A = rowArr f := ⟨_, rfl⟩
      have hAs : A.size = 64 := by rw [hA]; exact rowArr_size _
      have hA1 : A.all (·.oneCell') = true := by rw [hA]; exact rowArr_one _
      have HI : (Try.prog.info? 55).map (·.size) = some A.size := by rw [hAs]; exact row_info
      have HX : Hid (∀ j : Nat, j < 64 → ∀ W, (Instr.index 55 (.agg A) (.int .i64 (j : Int))).run Try.prog W = .ok (.int .u8 ((f j).toNat : Int)) W) := fun j hj W => index_row hA hj W
      rw [← hA] at hen ⊢
      clear hA hat hhas hlk hkey hC hrg1 hs1 hg1 hrow ex
      go_wp2_with (first
        | (refine wpList_store_var rfl 55 (.tmp 5) (.tmp 18) rfl _ rfl _ rfl _ (store_row_new w1 hZs hAs hA1) ?_)
        | (refine wpList_load_row rfl 55 (.tmp 5) rfl w1.heap.size rfl 55 A (0, 0) _ (heap_alloc_last w1 _) row_u rfl HI ?_))
      have HB2 : Hid (Below w.heap.size w (w1.alloc (.cells A 55))) := HB1.out.alloc HB1.out.size _
      have HR2 := Lib.hid (HR1.out.alloc (.cells A 55))
      generalize w1.alloc (.cells A 55) = W at *
      go_loopw [3, 20] (fun cv iv wr' => ∃ j : Nat, j ≤ 64 ∧ iv = .int .i64 j ∧ cv = .int .i64 ((S + cnt f j : Nat) : Int) ∧ wr' = W) (fun _ iv _ => 64 - (RowKit.intOf iv).toNat)
      case atStart => exact ⟨0, by omega, rfl, rfl, rfl⟩
      case round =>
        obtain ⟨j, hj, rfl, rfl, rfl⟩ := hrel
        by_cases hlt : j < 64
        · have d1 : decide ((j : Int) < 64) = true := decide_eq_true (by omega)
          have d1' : decide (j < 64) = true := decide_eq_true hlt
          have hix := HX.out j hlt wr
          have hcl := cnt_le f j
          have HCn : Hid (cnt f (j + 1) = cnt f j + if f j = 0 then 0 else 1) := rfl
          obtain ⟨C, hC⟩ : ∃ C, S + cnt f j = C := ⟨_, rfl⟩
          have HCC := Lib.hid hC
          have hCb : C ≤ 64 * 16384 + 64 := by omega
          rw [hC]
          clear hC
          by_cases h0 : f j = 0
          · have e0 : ((f j).toNat : Int) = 0 := by rw [h0]; rfl
            rw [e0] at hix
            have HN : Hid (S + cnt f (j + 1) = C) := by
              show _ = _
              rw [HCn.out, if_pos h0]
              exact HCC.out
            clear h0 e0
            go_wp2_with fail
            go_roundw
            case rel => exact ⟨j + 1, by omega, by simp, by rw [HN.out], trivial⟩
            case measure => simp [RowKit.intOf]; omega
          · have e0 : (((f j).toNat : Int) != 0) = true := by
              rw [bne_iff_ne]
              intro e
              refine h0 (UInt8.toNat_inj.1 ?_)
              have : (f j).toNat = 0 := by omega
              rw [this]
              rfl
            have e1 : (((f j).toNat : Int) == 0) = false := by simpa using e0
            have HN : Hid (S + cnt f (j + 1) = C + 1) := by
              show _ = _
              rw [HCn.out, if_neg h0, ← HCC.out]
              omega
            obtain ⟨y, hy⟩ : ∃ y, (f j).toNat = y := ⟨_, rfl⟩
            rw [hy] at hix e0 e1
            clear h0 hy
            go_wp2_with fail
            go_roundw
            case rel => exact ⟨j + 1, by omega, by simp, by rw [HN.out]; simp, trivial⟩
            case measure => simp [RowKit.intOf]; omega
        · obtain rfl : j = 64 := by omega
          have HN : Hid (sumL (cntRow c) (natsOf (ss ++ [(k : Int)])) = S + cnt f 64) := by
            show _ = _
            unfold natsOf
            rw [List.map_append, sumL_append, HF.out]
            show sumL (cntRow c) (natsOf ss) + (cntRow c (k : Int).toNat + 0) = _
            rw [HS.out]
            simp
          obtain ⟨C, hC⟩ : ∃ C, S + cnt f 64 = C := ⟨_, rfl⟩
          rw [hC] at HN ⊢
          clear hC
          go_wp2_with fail
          go_roundw
          case rel => exact ⟨_, cnt1, ss ++ [(k : Int)], HR2.out, HC2.out, by rw [HN.out], HB2.out, by simp; omega⟩
          case measure => rw [HR2.out.left_eq, hrg.left_eq]; exact hlt0
end
end Go.Proofs.Ytcfnnchbnlcppaa
