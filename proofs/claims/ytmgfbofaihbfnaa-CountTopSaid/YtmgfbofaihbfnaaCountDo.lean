/- Layer 14 (count): what Add, Get and All of a book return, and those of a book that New did not give: contracts. -/
import Derived.Test.YtmgfbofaihbfnaaCountMem
import Derived.IntWalk
namespace Go.Proofs.Ytmgfbofaihbfnaa
open Go.RowKit

/-! ### Add -/
set_option maxHeartbeats 1600000 in
theorem add_is {w : World} {S : Nat → Prop} {q : Nat} {L : List Nat} (h : BookAt w S q L) (i y : Int) {r : Nat} {M : List Nat} (hr : addE L i y = r) (hM : addV L i y = M) :
    Calls Try.prog 9 #[.pointer (some ⟨q, 0, none⟩), .int .i64 i, .int .i64 y] w fun e w' => ∃ S', e = .returned (.int .i64 r) ∧ BookAt w' S' q M ∧ Moved S w S' w' := by
  have hnot := not_any
  have hlen := h.len
  have HR := Lib.hid (row_is h)
  obtain ⟨n, hn⟩ : ∃ n, L.length = n := ⟨_, rfl⟩
  rw [hn] at hlen
  have hz : ((n : Int) == 0) = false := by simp; omega
  rcases add_ways L i y with hb | ⟨k, m, rfl, rfl, hk, ho⟩
  · have e1 := (add_bad hb).1.symm.trans hr
    have e2 := (add_bad hb).2.symm.trans hM
    subst e1 e2
    rw [hn] at hb
    clear hr hM h
    by_cases hi : 0 ≤ i ∧ i < (n : Int)
    · have hy : y < 0 := by omega
      have HH := Lib.hid fun (W : World) (g : Nat) => has_is W (A := some ⟨g, 0, none⟩) (c := n) (decide_eq_true hi)
      clear hb hi
      have HN := Lib.hid hn
      clear hn hlen
      go_enter Try.func9, Try.ntmps9
      go_wp2_with fail
      refine HR.out.mono ?_
      rintro e w1 ⟨g, rfl, hl, hm⟩
      rw [HN.out]
      unfold gS
      have HL := Lib.hid hl
      have HM := Lib.hid hm
      clear hl hm
      go_wp2_with fail
      refine (HH.out w1 g).mono ?_
      rintro e w2 ⟨rfl, rfl⟩
      go_wp2
      go_ret
      exact ⟨_, rfl, HL.out.at_, HM.out⟩
    · have HH := Lib.hid fun (W : World) (g : Nat) => has_is W (A := some ⟨g, 0, none⟩) (c := n) (decide_eq_false hi)
      clear hb hi
      have HN := Lib.hid hn
      clear hn hlen
      go_enter Try.func9, Try.ntmps9
      go_wp2_with fail
      refine HR.out.mono ?_
      rintro e w1 ⟨g, rfl, hl, hm⟩
      rw [HN.out]
      unfold gS
      have HL := Lib.hid hl
      have HM := Lib.hid hm
      clear hl hm
      go_wp2_with fail
      refine (HH.out w1 g).mono ?_
      rintro e w2 ⟨rfl, rfl⟩
      go_wp2
      go_ret
      exact ⟨_, rfl, HL.out.at_, HM.out⟩
  · have hkn : k < n := by omega
    have hi : 0 ≤ (k : Int) ∧ (k : Int) < (n : Int) := by omega
    have hy : ¬ (m : Int) < 0 := by omega
    have HH := Lib.hid fun (W : World) (g : Nat) => has_is W (A := some ⟨g, 0, none⟩) (c := n) (decide_eq_true hi)
    have HK := Lib.hid hk
    have HN := Lib.hid hn
    have HLow := Lib.hid h.len.2.2
    clear hn hlen h
    rcases ho with ho | ho
    · have e1 := (add_over hk ho).1.symm.trans hr
      have e2 := (add_over hk ho).2.symm.trans hM
      subst e1 e2
      have HO := Lib.hid ho
      clear ho hr hM hk hkn
      go_enter Try.func9, Try.ntmps9
      go_wp2_with fail
      refine HR.out.mono ?_
      rintro e w1 ⟨g, rfl, hl, hm⟩
      rw [HN.out]
      unfold gS
      have HL := Lib.hid hl
      have HM := Lib.hid hm
      have HA := Lib.hid (raise_over w1 g k (L.getD k 0) m (hl.cell HK.out).1 (HLow.out k) HO.out)
      clear hl hm
      go_wp2_with fail
      refine (HH.out w1 g).mono ?_
      rintro e w2 ⟨rfl, rfl⟩
      go_wp2_with fail
      refine HA.out.mono ?_
      rintro e w2 ⟨rfl, rfl⟩
      go_wp2
      go_ret
      exact ⟨_, rfl, HL.out.at_, HM.out⟩
    · have e1 := (add_good hk ho).1.symm.trans hr
      have e2 := (add_good hk ho).2.symm.trans hM
      subst e1 e2
      have HO := Lib.hid ho
      clear ho hr hM hk hkn
      go_enter Try.func9, Try.ntmps9
      go_wp2_with fail
      refine HR.out.mono ?_
      rintro e w1 ⟨g, rfl, hl, hm⟩
      rw [HN.out]
      unfold gS
      have HL := Lib.hid hl
      have HM := Lib.hid hm
      have HA := Lib.hid (raise_good w1 g k (L.getD k 0) m (hl.cell HK.out).1 (hl.cell HK.out).2 rfl HO.out)
      clear hl hm
      go_wp2_with fail
      refine (HH.out w1 g).mono ?_
      rintro e w2 ⟨rfl, rfl⟩
      go_wp2_with fail
      refine HA.out.mono ?_
      rintro e w2 ⟨rfl, rfl⟩
      have HQ : Hid (BookAt (w1.setCell ⟨g, k, none⟩ (.int .i64 (L.getD k 0 + m : Nat))) (Two q g) q (L.set k (L.getD k 0 + m)) ∧ Moved S w (Two q g) (w1.setCell ⟨g, k, none⟩ (.int .i64 (L.getD k 0 + m : Nat)))) :=
        ⟨(HL.out.set HK.out HO.out).at_, HM.out.trans (.of_turn (.set _ _ _ (.inr rfl)))⟩
      clear HA HL HM
      go_wp2
      go_ret
      exact ⟨_, rfl, HQ.out.1, HQ.out.2⟩
theorem add_no {w : World} {v : Value} (h : NoBook w v) (i y : Int) : Calls Try.prog 9 #[v, .int .i64 i, .int .i64 y] w fun e w' => e = .returned (.int .i64 16) ∧ Below w.heap.size w w' := by
  have hnot := not_any
  have HR := Lib.hid (row_no h)
  clear h
  go_enter Try.func9, Try.ntmps9
  go_wp2_with fail
  refine HR.out.mono ?_
  rintro e w1 ⟨rfl, hb⟩
  have HB := Lib.hid hb
  clear hb
  go_wp2
  go_ret
  exact ⟨rfl, HB.out⟩

/-! ### Get -/
/-- The count i; 0 of no such one. -/
def getV (L : List Nat) (i : Int) : Nat := if 0 ≤ i then L.getD i.toNat 0 else 0
theorem get_in {L : List Nat} {k : Nat} : getV L k = L.getD k 0 := by unfold getV; rw [if_pos (by omega), Int.toNat_natCast]
theorem get_out {L : List Nat} {i : Int} (h : ¬ (0 ≤ i ∧ i < (L.length : Int))) : getV L i = 0 := by
  unfold getV
  split
  · exact getD_far (by omega)
  · rfl
theorem get_is {w : World} {S : Nat → Prop} {q : Nat} {L : List Nat} (h : BookAt w S q L) (i : Int) {r : Nat} (hr : getV L i = r) :
    Calls Try.prog 10 #[.pointer (some ⟨q, 0, none⟩), .int .i64 i] w fun e w' => ∃ S', e = .returned (.int .i64 r) ∧ BookAt w' S' q L ∧ Moved S w S' w' := by
  have hnot := not_any
  have HR := Lib.hid (row_is h)
  obtain ⟨n, hn⟩ : ∃ n, L.length = n := ⟨_, rfl⟩
  have HN := Lib.hid hn
  by_cases hi : 0 ≤ i ∧ i < (n : Int)
  · obtain ⟨k, rfl⟩ := Int.eq_ofNat_of_zero_le hi.1
    have HH := Lib.hid fun (W : World) (g : Nat) => has_is W (A := some ⟨g, 0, none⟩) (c := n) (decide_eq_true hi)
    have HK : Hid (k < L.length) := by show k < L.length; omega
    rw [get_in] at hr
    have HE := Lib.hid hr
    clear h hn hr
    go_enter Try.func10, Try.ntmps10
    go_wp2_with fail
    refine HR.out.mono ?_
    rintro e w1 ⟨g, rfl, hl, hm⟩
    rw [HN.out]
    unfold gS
    have HL := Lib.hid hl
    have HM := Lib.hid hm
    have hc := (hl.cell HK.out).1
    rw [HE.out] at hc
    have HA := Lib.hid (load_is w1 g k r hc)
    clear hl hm hc
    go_wp2_with fail
    refine (HH.out w1 g).mono ?_
    rintro e w2 ⟨rfl, rfl⟩
    go_wp2_with fail
    refine HA.out.mono ?_
    rintro e w2 ⟨rfl, rfl⟩
    go_wp2
    go_ret
    exact ⟨_, rfl, HL.out.at_, HM.out⟩
  · have HH := Lib.hid fun (W : World) (g : Nat) => has_is W (A := some ⟨g, 0, none⟩) (c := n) (decide_eq_false hi)
    have e := (get_out (L := L) (by rw [hn]; exact hi)).symm.trans hr
    subst e
    clear h hn hr hi
    go_enter Try.func10, Try.ntmps10
    go_wp2_with fail
    refine HR.out.mono ?_
    rintro e w1 ⟨g, rfl, hl, hm⟩
    rw [HN.out]
    unfold gS
    have HL := Lib.hid hl
    have HM := Lib.hid hm
    clear hl hm
    go_wp2_with fail
    refine (HH.out w1 g).mono ?_
    rintro e w2 ⟨rfl, rfl⟩
    go_wp2
    go_ret
    exact ⟨_, rfl, HL.out.at_, HM.out⟩
theorem get_no {w : World} {v : Value} (h : NoBook w v) (i : Int) : Calls Try.prog 10 #[v, .int .i64 i] w fun e w' => e = .returned (.int .i64 0) ∧ Below w.heap.size w w' := by
  have hnot := not_any
  have HR := Lib.hid (row_no h)
  have HH := Lib.hid fun (W : World) => has_is W (A := none) (n := 0) (c := 0) (i := i) (r := false) (decide_eq_false (by omega))
  clear h
  go_enter Try.func10, Try.ntmps10
  go_wp2_with fail
  refine HR.out.mono ?_
  rintro e w1 ⟨rfl, hb⟩
  have HB := Lib.hid hb
  clear hb
  go_wp2_with fail
  refine (HH.out w1).mono ?_
  rintro e w2 ⟨rfl, rfl⟩
  go_wp2
  go_ret
  exact ⟨rfl, HB.out⟩

/-! ### All -/
theorem ints_cell {w : World} {A : Option Addr} {L : List Nat} {k : Nat} (h : IntsAt w A (ints L)) (hk : k < L.length) : ∃ b off, A = some ⟨b, off, none⟩ ∧ w.cell? ⟨b, off + k, none⟩ = some (.int .i64 (L.getD k 0 : Nat)) := by
  obtain ⟨b, off, e, hc⟩ := h.at_ (k := k) (by rw [ints_length]; exact hk)
  refine ⟨b, off, e, hc.trans ?_⟩
  have h1 : (ints L)[k]? = some ((L.getD k 0 : Nat) : Int) := by
    unfold ints
    rw [List.getElem?_map, getD_at hk]
    rfl
  have h2 := List.getElem?_eq_getElem (l := ints L) (i := k) (by rw [ints_length]; exact hk)
  rw [h2] at h1
  injection h1 with h1
  rw [h1]
/-- What All has written behind k rounds. -/
def allF (L : List Nat) (k j : Nat) : Value := .int .i64 ((if j < k then L.getD j 0 else 0 : Nat) : Int)
theorem all_ints {w : World} {b : Nat} {L : List Nat} (h : w.rowIs b 3 L.length (allF L L.length)) : IntsAt w (some ⟨b, 0, none⟩) (ints L) := by
  refine .inr ⟨b, 0, rfl, World.rowIs.lt h, fun k x hx => ?_⟩
  have hk : k < L.length := by have := (List.getElem?_eq_some_iff.1 hx).1; rwa [ints_length] at this
  rw [Nat.zero_add, World.rowIs.cell h hk]
  unfold allF
  rw [if_pos hk]
  unfold ints at hx
  rw [List.getElem?_map, getD_at hk] at hx
  injection hx with hx
  rw [← hx]
set_option maxHeartbeats 1600000 in
theorem all_is {w : World} {S : Nat → Prop} {q : Nat} {L : List Nat} (h : BookAt w S q L) :
    Calls Try.prog 14 #[.pointer (some ⟨q, 0, none⟩)] w fun e w' => ∃ S' A c, e = .returned (.slice A L.length c) ∧ IntsAt w' A (ints L) ∧ BookAt w' S' q L ∧ Moved S w S' w' := by
  have HR := Lib.hid (row_is h)
  have h64 := h.len.2.1
  obtain ⟨n, hn⟩ : ∃ n, L.length = n := ⟨_, rfl⟩
  rw [hn] at h64
  have hmk := fun W => run_make_row' (P := Try.prog) 26 3 (.int .i64 0) 8 Try.underlying26 int_info rfl .i64 .i64 n (by omega) (by omega) W
  have HN := Lib.hid hn
  clear h hn
  go_enter Try.func14, Try.ntmps14
  go_wp2_with fail
  refine HR.out.mono ?_
  rintro e w1 ⟨g, rfl, hl, hm⟩
  rw [HN.out]
  unfold gS
  have HL := Lib.hid hl
  have HM := Lib.hid hm
  clear hl hm
  go_wp2
  have r0 : (w1.alloc (.cells (madeCells #[.int .i64 0] n) 3)).rowIs w1.heap.size 3 n (allF L 0) := (World.rowIs_made w1 (.int .i64 0) n 3).congr fun i _ => by unfold allF; rw [if_neg (by omega)]; rfl
  have R0 := Lib.hid r0
  have B0 := Lib.hid (new_below w1 (.cells (madeCells #[.int .i64 0] n) 3))
  clear r0 hmk
  generalize w1.alloc (.cells (madeCells #[.int .i64 0] n) 3) = wa at *
  obtain ⟨b, hb⟩ : ∃ b, w1.heap.size = b := ⟨_, rfl⟩
  rw [hb] at R0 B0 ⊢
  have HB := Lib.hid hb
  clear hb
  go_loopw [13] (fun i wr => ∃ k : Nat, k ≤ n ∧ i = .int .i64 k ∧ Hid (wr.rowIs b 3 n (allF L k) ∧ Below b w1 wr)) (fun i _ => n - (RowKit.intOf i).toNat)
  case atStart => exact ⟨0, by omega, rfl, R0.out, B0.out⟩
  case round =>
    clear R0 B0
    obtain ⟨k, hk, rfl, HK⟩ := hrel
    by_cases hlt : k < n
    · have hkl : k < L.length := by rw [HN.out]; exact hlt
      have hi : 0 ≤ (k : Int) ∧ (k : Int) < (n : Int) := by omega
      have hw : Laid wr q g L := HL.out.below (by rw [HB.out]; exact HK.out.2)
      have HA := Lib.hid (load_is wr g k (L.getD k 0 : Nat) (hw.cell hkl).1)
      have hc : wr.cell? ⟨b, k, none⟩ = some (allF L k k) := World.rowIs.cell HK.out.1 hlt
      have hz : wr.frozen? ⟨b, k, none⟩ = false := World.rowIs.frozen HK.out.1 k
      have HK1 : Hid ((wr.setCell ⟨b, k, none⟩ (.int .i64 (L.getD k 0 : Nat))).rowIs b 3 n (allF L (k + 1)) ∧ Below b w1 (wr.setCell ⟨b, k, none⟩ (.int .i64 (L.getD k 0 : Nat)))) := by
        refine ⟨(World.rowIs.set HK.out.1 k _).congr fun j _ => ?_, HK.out.2.setCell (p := ⟨b, k, none⟩) (Nat.le_refl _) _⟩
        unfold allF
        by_cases e : j = k
        · subst e; rw [if_pos rfl, if_pos (by omega)]
        · rw [if_neg e]
          by_cases e2 : j < k
          · rw [if_pos e2, if_pos (by omega)]
          · rw [if_neg e2, if_neg (by omega)]
      clear hw HK hkl
      go_wp2_with fail
      refine HA.out.mono ?_
      rintro e w2 ⟨rfl, rfl⟩
      clear HA
      go_wp2
      go_roundw
      case rel => exact ⟨k + 1, by omega, by go_num, HK1.out⟩
      case measure => simp [RowKit.intOf]; omega
    · obtain rfl : k = n := by omega
      go_wp2
      go_ret
      refine ⟨Two q g, some ⟨b, 0, none⟩, k, by rw [HN.out]; rfl, all_ints ?_, ((HL.out.below ?_).at_), HM.out.trans (.of_below _ ?_)⟩
      · rw [HN.out]; exact HK.out.1
      · rw [HB.out]; exact HK.out.2
      · rw [HB.out]; exact HK.out.2
theorem all_no {w : World} {v : Value} (h : NoBook w v) : Calls Try.prog 14 #[v] w fun e w' => ∃ A c, e = .returned (.slice A 0 c) ∧ Below w.heap.size w w' := by
  have HR := Lib.hid (row_no h)
  have hmk := fun W => run_make_row' (P := Try.prog) 26 3 (.int .i64 0) 8 Try.underlying26 int_info rfl .i64 .i64 0 (by omega) (by omega) W
  simp only [Int.cast_ofNat_Int] at hmk
  clear h
  go_enter Try.func14, Try.ntmps14
  go_wp2_with fail
  refine HR.out.mono ?_
  rintro e w1 ⟨rfl, hb⟩
  have HB := Lib.hid (step_below hb (new_below w1 (.cells (madeCells #[.int .i64 0] 0) 3)))
  clear hb
  go_wp2
  generalize w1.alloc (.cells (madeCells #[.int .i64 0] 0) 3) = wa at *
  go_loopw [13] (fun i wr => i = .int .i64 0 ∧ wa = wr) (fun _ _ => 0)
  case atStart => exact ⟨rfl, rfl⟩
  case round =>
    obtain ⟨rfl, rfl⟩ := hrel
    go_wp2
    go_ret
    exact ⟨_, _, rfl, HB.out⟩
end Go.Proofs.Ytmgfbofaihbfnaa
