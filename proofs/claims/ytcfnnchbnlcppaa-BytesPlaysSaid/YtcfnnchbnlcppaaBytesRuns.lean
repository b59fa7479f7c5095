/- Layer 10 (bytes): Runs (the keys of the map, sorted: the library's own text by its contracts): a contract. -/
import Derived.Test.YtcfnnchbnlcppaaBytesDirty
import Derived.Test.YtcfnnchbnlcppaaBytesWith
import Derived.Laws.IdiomRangeMap
import Derived.LoopN
namespace Go.Proofs.Ytcfnnchbnlcppaa
open Go.RowKit Go.Maps Go.Sort Go.Shelf

theorem sorts (m : Nat) : AnyZI.SortsIn Try.prog Try.sortedA_ren Fence.wide m :=
  ⟨fun blk off cap ss W hH hblk hsz => callsIn_wide.2 (AnyM.slices_Sort_int Try.sortA blk off cap ss W hH hblk hsz),
   fun p cap W => callsIn_wide.2 (AnyM.slices_Sort_int_none Try.sortA p cap W)⟩
theorem keys_any (mb : Option Nat) (W : World) : Calls Try.prog 36 #[.map mb] W fun e w' => e = .returned (.func (.func 42) #[] #[.pointer (some ⟨W.heap.size, 0, none⟩)]) ∧ w' = W.alloc (.cells #[.map mb] 39) :=
  (callsIn_wide (n := 5)).1 (AnyZI.keys_in Try.keysA Fence.wide 5 trivial rfl mb W)
theorem sorted_any (b nn : Nat) (D0 : DataW Unit) (R : Value → Option (DataW Unit × List MemPlace)) (w : World) (hown : w.ownsMap Try.prog 3 R b nn D0) (hmax : Maps.size D0 ≤ maxLen) (hbytes : Maps.size D0 * 8 ≤ 140737488355328) :
    Calls Try.prog 35 #[.func (.func 42) #[] #[.pointer (some ⟨w.heap.size, 0, none⟩)]] (w.alloc (.cells #[.map (some b)] 39)) fun e w' => ∃ (v : Value) (ss : List Int), e = .returned v ∧ ss.Perm (intKeys D0) ∧
      w'.ownsRow (w.alloc (.cells #[.map (some b)] 39)).heap.size 3 1 v ss.length ((ss.mergeSort (fun x y => decide (x ≤ y))).map encZ) ∧ (v = .slice none 0 0 ↔ ss = []) ∧ Below (w.alloc (.cells #[.map (some b)] 39)).heap.size (w.alloc (.cells #[.map (some b)] 39)) w' := by
  have hbl := hown.lt
  have hseq : SeqGives Fence.wide 2 Try.prog 42 #[.pointer (some ⟨w.heap.size, 0, none⟩)] encZ (fun ss => ss.Perm (intKeys D0)) (Maps.size D0) (w.alloc (.cells #[.map (some b)] 39)) :=
    AnyZI.keys_gives (ρ := Try.keysA_ren) { Try.keysA with } Fence.wide _ trivial rfl (by omega) w.heap.size b nn D0 _ (by simp) (by simp) (by
      obtain ⟨es, clock, hb, Ft, hs, hD⟩ := hown
      exact ⟨es, clock, (Below.heap_alloc _ _ b hbl).trans hb, Ft, hs, hD⟩)
  exact (callsIn_wide (n := 5)).1 (AnyZI.sorted_in Try.sortedA Fence.wide 5 trivial trivial trivial trivial rfl (by omega) (sorts _) (enters_of Try.func41 (by kernel_rfl) rfl) 42 #[.pointer (some ⟨w.heap.size, 0, none⟩)] trivial (enters_of Try.func42 (by kernel_rfl) rfl) _ _ hmax hbytes _ hseq)

/-- What has come when so many keys are done. -/
def Come (c : Nat → UInt8) (q : Nat) (L : List Sp) : Prop := ∃ m f, (keysOf c).drop q = keysL c m f ∧ L = runsTo c (64 * m) ∧ m + f = 16384
theorem Come.start (c : Nat → UInt8) : Come c 0 [] := ⟨0, 16384, rfl, rfl, rfl⟩
theorem Come.next {c : Nat → UInt8} {q k : Nat} {L : List Sp} (h : Come c q L) (hk : (keysOf c)[q]? = some k) : k < 16384 ∧ L = runsTo c (64 * k) ∧ Come c (q + 1) (runsTo c (64 * k + 64)) := by
  obtain ⟨m, f, h1, h2, h3⟩ := h
  have hd : (keysOf c).drop q = k :: (keysOf c).drop (q + 1) := by
    obtain ⟨hq, e⟩ := List.getElem?_eq_some_iff.1 hk
    rw [List.drop_eq_getElem_cons hq, e]
  rw [hd] at h1
  obtain ⟨a1, a2, _, a4, g, a5, a6⟩ := keysL_cons h1.symm
  refine ⟨by omega, ?_, k + 1, g, a6, by rw [show 64 * (k + 1) = 64 * k + 64 by omega], by omega⟩
  rw [h2]
  exact (runs_skip (by omega) a4).symm
theorem Come.done {c : Nat → UInt8} {q n : Nat} {L : List Sp} (h : Come c q L) (hq : (keysOf c).length ≤ q) (hn : n ≤ 1048576) (ho : ∀ j, n ≤ j → c j = 0) : L = runsTo c n := by
  obtain ⟨m, f, h1, h2, h3⟩ := h
  rw [List.drop_eq_nil_of_le hq] at h1
  have hz := keysL_nil h1.symm
  rw [h2, ← runs_more hn ho]
  exact (runs_skip (by omega) fun j h4 h5 => hz j h4 (by omega)).symm
section
variable {w : World} {g b n : Nat} {c : Nat → UInt8}
theorem own_less {w : World} {base base' : Nat} {v : Value} {l : List Sp} (h : Own w base v l) (hb : base' ≤ base) : Own w base' v l := World.ownsRow.mono h hb
set_option maxRecDepth 100000 in
set_option maxHeartbeats 4000000 in
theorem runs_at (h : ChunkAt w g b n c) : Calls Try.prog 21 #[.pointer (some ⟨g, 0, none⟩)] w (MadeL w (runsTo c n)) := by
  obtain ⟨D, hm, hd⟩ := h.mapp
  have c1 := h.c1
  have hsz := size_keys hm hd
  have hkl : (keysOf c).length ≤ 16384 := keysL_length 16384 0
  have cS := Lib.hid (sorted_any b _ D rowElem w hm (by unfold maxLen; omega) (by omega))
  have HP : Hid (∀ ss : List Int, ss.Perm (intKeys D) → ss.mergeSort (fun x y => decide (x ≤ y)) = ints (keysOf c)) := fun ss hp => by
    rw [mergeSort_of_perm_i (hp.trans (keys_perm hm hd).symm)]
    refine List.mergeSort_of_pairwise (List.pairwise_map.2 ((keysL_sorted (c := c) 16384 0).imp fun {x y} hxy => ?_))
    simp
    omega
  have HH := Lib.hid h
  have hmw : (w.alloc (.cells #[.map (some b)] 39)).cell? ⟨g, 1, none⟩ = some (.map (some b)) := (h.alloc _).c1
  have HD : Hid (∀ L q, Come c q L → (keysOf c).length ≤ q → L = runsTo c n) := fun L q h1 h2 => h1.done h2 h.small h.out
  clear hd hm h hsz
  go_enter Try.func21, Try.ntmps21
  go_wp2_with fail
  refine (keys_any _ _).mono ?_
  rintro e w' ⟨rfl, rfl⟩
  go_wp2_with fail
  refine cS.out.mono ?_
  rintro e w1 ⟨v, ss, rfl, hS, hrow, _, hb⟩
  have e := HP.out ss hS
  rw [e] at hrow
  have hl : ss.length = (keysOf c).length := by rw [← ints_length (keysOf c), ← e, List.length_mergeSort]
  rw [hl] at hrow
  obtain ⟨A, cap, rfl, hA, _⟩ := own_ints (l := keysOf c) (by unfold vals; unfold ints at hrow; rw [List.map_map] at hrow; exact hrow)
  have HA := Lib.hid hA
  have hb1 : Below w.heap.size w w1 := ((Below.refl _ w).alloc (Nat.le_refl _) _).trans (hb.mono (by simp))
  have HB1 := Lib.hid hb1
  have HC1 := Lib.hid (HH.out.more hb1)
  have hs1 := hb1.size
  obtain ⟨K, hK⟩ : ∃ K, (keysOf c).length = K := ⟨_, rfl⟩
  rw [hK] at hkl HD ⊢
  have HK := Lib.hid hK
  clear hA hb hb1 e hl hrow hS hK
  go_wp2_with fail
  go_loopw [3, 17] (fun v iv wr => ∃ (q : Nat) (L : List Sp), q ≤ K ∧ iv = .int .i64 q ∧ Own wr w1.heap.size v L ∧ Below w1.heap.size w1 wr ∧ Hid (Come c q L)) (fun _ iv _ => K - (RowKit.intOf iv).toNat)
  case atStart => exact ⟨0, [], by omega, rfl, Own.nil _ _, Below.refl _ _, Come.start c⟩
  case round =>
    obtain ⟨q, L, hq, rfl, hown, hbl, HM⟩ := hrel
    obtain ⟨A2, cap2, rfl⟩ := own_val hown
    have HO := Lib.hid hown
    clear hown
    by_cases hlt : q < K
    · have d1 : decide ((q : Int) < (K : Int)) = true := decide_eq_true (by omega)
      have d1' : decide (q < K) = true := decide_eq_true hlt
      have hqk : 0 ≤ (q : Int) ∧ (q : Int) < (K : Int) := by omega
      obtain ⟨k, hk⟩ : ∃ k, (keysOf c)[q]? = some k := ⟨_, List.getElem?_eq_getElem (by rw [HK.out]; exact hlt)⟩
      obtain ⟨hk1, hL, hnext⟩ := HM.out.next hk
      obtain ⟨bb, off, rfl, hcell⟩ := (HA.out.below hbl).at_ (k := q) (by rw [ints_length, HK.out]; exact hlt)
      have hkv : (ints (keysOf c))[q]'(by rw [ints_length, HK.out]; exact hlt) = (k : Int) := by
        have h1 : (ints (keysOf c))[q]? = some (k : Int) := by unfold ints; rw [List.getElem?_map, hk]; rfl
        have h2 := List.getElem?_eq_getElem (l := ints (keysOf c)) (i := q) (by rw [ints_length, HK.out]; exact hlt)
        rw [h1] at h2
        injection h2 with h2
        exact h2.symm
      rw [hkv] at hcell
      have HCw := HC1.out.below hbl HC1.out.lt.1 HC1.out.lt.2
      have c1' := HCw.c1
      have hlook := HCw.look hk1
      obtain ⟨R, hR⟩ : ∃ R, R = rowArr (rowOf c k) := ⟨_, rfl⟩
      rw [← hR] at hlook
      have HX : Hid (∀ j : Nat, j < 64 → ∀ W, (Instr.index 55 (.agg R) (.int .i64 (j : Int))).run Try.prog W = .ok (.int .u8 ((c (64 * k + j)).toNat : Int)) W) := fun j hj W => index_row hR hj W
      have HNx := Lib.hid hnext
      have HLL := Lib.hid hL
      have hwk : IntKind.i64.wrap ((k : Int) * 64) = ((64 * k : Nat) : Int) := by rw [IntKind.wrap_i64]; omega
      clear hnext hL hkv HCw hR hk
      go_wp2_with fail
      go_loopw [3, 27] (fun v2 iv2 wr2 => ∃ j : Nat, j ≤ 64 ∧ iv2 = .int .i64 j ∧ Own wr2 w1.heap.size v2 (runsTo c (64 * k + j)) ∧ Below w1.heap.size w1 wr2) (fun _ iv2 _ => 64 - (RowKit.intOf iv2).toNat)
      case atStart =>
        refine ⟨0, by omega, rfl, ?_, hbl⟩
        show Own wr _ _ (runsTo c (64 * k))
        rw [← HLL.out]
        exact HO.out
      case round =>
        obtain ⟨j, hj, rfl, hown2, hbl2⟩ := hrel
        obtain ⟨A3, cap3, hv3⟩ := own_val hown2
        subst hv3
        have HO2 := Lib.hid hown2
        have HB2 := Lib.hid hbl2
        by_cases hlj : j < 64
        · have e1 : decide ((j : Int) < 64) = true := decide_eq_true (by omega)
          have e1' : decide (j < 64) = true := decide_eq_true hlj
          have hix := HX.out j hlj wr
          have hst : runsTo c (64 * k + (j + 1)) = if c (64 * k + j) = 0 then runsTo c (64 * k + j) else withP (runsTo c (64 * k + j)) (64 * k + j) := rfl
          have hlen := runs_length c (64 * k + j)
          by_cases h0 : c (64 * k + j) = 0
          · have e0 : ((c (64 * k + j)).toNat : Int) = 0 := by rw [h0]; rfl
            rw [e0] at hix
            rw [if_pos h0] at hst
            have HN := Lib.hid hst
            clear h0 e0 hst hown2 hbl2 hlook hcell c1'
            generalize runsTo c (64 * k + j) = L2 at *
            go_wp2_with fail
            go_roundw
            case rel => exact ⟨j + 1, by omega, by simp, by rw [HN.out]; exact HO2.out, HB2.out⟩
            case measure => simp [RowKit.intOf]; omega
          · have e0 := byte_yes h0
            have e2 : (((c (64 * k + j)).toNat : Int) == 0) = false := by simpa using e0
            rw [if_neg h0] at hst
            have HN := Lib.hid hst
            have HW := Lib.hid (with_at hown2 hbl2.size (p := 64 * k + j) (by omega) (by omega) (runs_bound c (64 * k + j)))
            have hwp : IntKind.i64.wrap (((64 * k : Nat) : Int) + (j : Int)) = ((64 * k + j : Nat) : Int) := by rw [IntKind.wrap_i64]; omega
            obtain ⟨y, hy⟩ : ∃ y, (c (64 * k + j)).toNat = y := ⟨_, rfl⟩
            rw [hy] at hix e0 e2
            obtain ⟨M, hM⟩ : ∃ M, 64 * k = M := ⟨_, rfl⟩
            obtain ⟨p, hp⟩ : ∃ p, M + j = p := ⟨_, rfl⟩
            rw [hM] at hwk hwp
            rw [hp] at hwp
            rw [hM, hp] at HW HN hlen
            clear h0 hst hown2 hbl2 hlook hcell c1' hy
            rw [hM, hp] at HO2 ⊢
            generalize runsTo c p = L2 at *
            clear hM hp
            go_wp2_with fail
            refine HW.out.mono ?_
            rintro e w2 ⟨v2, rfl, own2, b2⟩
            go_wp2_with fail
            go_roundw
            case rel =>
              refine ⟨j + 1, by omega, by simp, ?_, HB2.out.trans b2⟩
              rw [HN.out]
              exact own2
            case measure => simp [RowKit.intOf]; omega
        · obtain rfl : j = 64 := by omega
          have e1 : decide (((64 : Nat) : Int) < 64) = false := by decide
          clear hown2 hbl2 hlook hcell c1'
          go_wp2_with fail
          go_roundw
          case rel => exact ⟨q + 1, runsTo c (64 * k + 64), by omega, by simp, HO2.out, HB2.out, HNx⟩
          case measure => simp [RowKit.intOf]; omega
    · have d1 : decide ((q : Int) < (K : Int)) = false := decide_eq_false (by omega)
      have d1' : decide (q < K) = false := decide_eq_false hlt
      have HF : Hid (L = runsTo c n) := HD.out L q HM.out (by omega)
      go_wp2_with fail
      go_ret
      refine ⟨_, rfl, ?_, HB1.out.trans (hbl.mono hs1)⟩
      rw [← HF.out]
      exact own_less HO.out hs1
end
theorem runs_nil (w : World) : Calls Try.prog 21 #[.pointer none] w fun e w' => e = .returned (.slice none 0 0) ∧ w = w' := by
  go_enter Try.func21, Try.ntmps21
  go_wp2
  go_ret
  exact ⟨rfl, rfl⟩
theorem dirty_gone {w : World} {v : Value} (h : Gone w v) : Calls Try.prog 18 #[v] w fun e w' => e = .returned (.int .i64 0) ∧ Below w.heap.size w w' := by
  rcases h with rfl | ⟨g, rfl, hr⟩
  · go_enter Try.func18, Try.ntmps18
    go_wp2
    go_ret
    exact ⟨rfl, Below.refl _ _⟩
  · have c1 := hr.cell (i := 1) (by omega)
    simp only [noneF] at c1
    have h1 := run_range_nilMap (P := Try.prog) w 39 3 55 Try.underlying39
    have h2 := fun ty a b s => run_next_nilMap (P := Try.prog) w ty a b s
    clear hr
    go_enter Try.func18, Try.ntmps18
    go_wp2
    refine wp_loop_rounds 1 ?_
    rw [rounds_succ]
    go_wp2
    go_ret
    exact ⟨rfl, (Below.refl _ _).alloc (Nat.le_refl _) _⟩
end Go.Proofs.Ytcfnnchbnlcppaa
