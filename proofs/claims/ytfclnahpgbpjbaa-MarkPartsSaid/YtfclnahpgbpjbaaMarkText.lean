/- Layer 13 (mark): what both Text return: contracts. -/
import Derived.Test.YtfclnahpgbpjbaaMarkNum
import Derived.Test.YtfclnahpgbpjbaaBaseText
import Derived.Test.YtfclnahpgbpjbaaBaseHere
namespace Go.Proofs.Ytfclnahpgbpjbaa
open Go.RowKit

/-- Bytes as numbers. -/
def numsL (l : List UInt8) : List Int := l.map fun b => ((b.toNat : Nat) : Int)
theorem numsL_append (a b : List UInt8) : numsL (a ++ b) = numsL a ++ numsL b := List.map_append ..
theorem numsL_length (a : List UInt8) : (numsL a).length = a.length := List.length_map ..
/-- The numbers whose mark a text has. -/
def textM (s : ByteArray) : List Int := ((s.size : Nat) : Int) :: numsL (txt s)
/-- Ints as cells. -/
def zs (l : List Int) : List Value := l.map (Value.int .i64)
theorem lit_one (W : World) (x : Int) : IntsAt (W.alloc (.cells #[.int .i64 x] 3)) (some ⟨W.heap.size, 0, none⟩) [x] := lit_ints W [x]

set_option maxHeartbeats 800000 in
theorem text_is (w : World) (s : ByteArray) (hs : s.size ≤ 4611686018427387904) {r : Nat} (hr : toldM (marksM firstM (textM s)) = r) :
    Calls Try.prog 8 #[.string s] w fun e w' => e = .returned (.int .i64 r) ∧ Below w.heap.size w w' := by
  obtain ⟨n, hn⟩ : ∃ n, s.size = n := ⟨_, rfl⟩
  have HT : Hid (toldM (marksM (numM firstM (n : Int)) (numsL (txt s))) = r) := by rw [← hn]; exact hr
  rw [hn] at hs
  have HN := Lib.hid hn
  have hm1 := num_lt (h := firstM) (n : Int) (by decide)
  have HB := Lib.hid (behind_is (w.alloc (.cells #[.int .i64 (n : Int)] 3)) (c := 1) (n := 1) (lit_one w (n : Int)) rfl (by omega) (h := firstM) (by decide) (marks_one _ _))
  generalize numM firstM (n : Int) = m1 at *
  clear hr
  go_enter Try.func8, Try.ntmps8
  go_wp2_with fail
  refine HB.out.mono ?_
  rintro e w1 ⟨rfl, rfl⟩
  have HW1 : Hid (Below w.heap.size w (w.alloc (.cells #[.int .i64 (n : Int)] 3))) := (Below.refl _ _).alloc (Nat.le_refl _) _
  generalize w.alloc (.cells #[.int .i64 (n : Int)] 3) = w1 at *
  clear HB
  have HN2 := Lib.hid hn
  go_wp2_with fail
  clear hn
  go_loopw [3, 11] (fun vm vi wr => ∃ (i m : Nat), vm = .int .u64 m ∧ vi = .int .i64 i ∧ i ≤ n ∧ m < 18446744073709551616 ∧ Hid (toldM (marksM m (numsL (left s i))) = r) ∧ Below w.heap.size w wr) (fun _ vi _ => n - (RowKit.intOf vi).toNat)
  case atStart => exact ⟨0, m1, rfl, rfl, by omega, hm1, HT.out, HW1.out⟩
  case round =>
    clear hm1 HT HW1
    obtain ⟨i, m, rfl, rfl, hi, hm, HM, hB⟩ := hrel
    by_cases hin : i < n
    · have his : i < s.size := by rw [HN.out]; exact hin
      have hat := fun W => str_index W s his
      obtain ⟨y, hy⟩ : ∃ y, (byteAt s i).toNat = y := ⟨_, rfl⟩
      have hy8 : y < 256 := by rw [← hy]; exact (byteAt s i).toNat_lt
      have hwy : IntKind.i64.wrap (y : Int) = (y : Int) := IntWalk.i64_in _ (by omega)
      obtain ⟨m2, hm2⟩ : ∃ m2, numM m (y : Int) = m2 := ⟨_, rfl⟩
      have HM2 : Hid (toldM (marksM m2 (numsL (left s (i + 1)))) = r) := by
        have e := HM.out
        rw [left_lt his] at e
        rw [← hm2, ← hy]
        exact e
      have hm2' : m2 < 18446744073709551616 := by rw [← hm2]; exact num_lt _ hm
      rw [hy] at hat
      have HBH := Lib.hid (behind_is (wr.alloc (.cells #[.int .i64 (y : Int)] 3)) (c := 1) (n := 1) (lit_one wr (y : Int)) rfl (by omega) hm ((marks_one _ _).trans hm2))
      have HB2 : Hid (Below w.heap.size w (wr.alloc (.cells #[.int .i64 (y : Int)] 3))) := hB.alloc hB.size _
      have hi1 : 0 ≤ (i : Int) ∧ (i : Int) < (n : Int) := by omega
      clear hy hm2 HM hB his
      go_wp2_with fail
      refine HBH.out.mono ?_
      rintro e w2 ⟨rfl, rfl⟩
      clear HBH
      go_wp2
      go_roundw
      case rel => exact ⟨i + 1, m2, rfl, by go_num, by omega, hm2', HM2.out, HB2.out⟩
      case measure => simp [RowKit.intOf]; omega
    · obtain rfl : i = n := by omega
      have e := HM.out
      rw [left_end (Nat.le_of_eq HN.out)] at e
      have e' : toldM m = r := e
      have HTD := Lib.hid fun W => told_is W e'
      have HB2 := Lib.hid hB
      clear e e' hB HM
      go_wp2_with fail
      refine (HTD.out _).mono ?_
      rintro e w2 ⟨rfl, rfl⟩
      go_wp2
      go_ret
      exact ⟨rfl, HB2.out⟩

theorem own_slice {w : World} {base n : Nat} {t : TypeId} {z : Nat} {v : Value} {xs : List Value} (h : w.ownsRow base t z v n xs) : ∃ A c, v = .slice A n c ∧ n ≤ c ∧ c ≤ maxLen := by
  rcases h.2 with ⟨rfl, rfl⟩ | ⟨g, cap, cur, rfl, _, _, hc, hm, _⟩
  · exact ⟨_, 0, rfl, Nat.le_refl _, Nat.zero_le _⟩
  · exact ⟨_, cap, rfl, hc, hm⟩
theorem own_int_lit (w : World) (x : Int) : (w.alloc (.cells #[.int .i64 x] 3)).ownsRow w.heap.size 3 1 (.slice (some ⟨w.heap.size, 0, none⟩) 1 1) 1 (zs [x]) :=
  World.ownsRow_lit w #[.int .i64 x] 1 (Nat.le_refl _) (by unfold maxLen; omega) (by simp)
theorem zs_append (a b : List Int) : zs (a ++ b) = zs a ++ zs b := List.map_append ..
theorem textM_length (s : ByteArray) : (textM s).length = s.size + 1 := by unfold textM; rw [List.length_cons, numsL_length, txt_len]
set_option maxHeartbeats 800000 in
theorem rtext_is (w : World) (s : ByteArray) (hs : s.size ≤ 4294967296) {r : Nat} (hr : toldM (marksM firstM (textM s)) = r) :
    Calls Try.prog 9 #[.string s] w fun e w' => e = .returned (.int .i64 r) ∧ Below w.heap.size w w' := by
  obtain ⟨i0, hi, hz0, hz1, hz2⟩ := info_parts int_info
  have HTL := Lib.hid (textM_length s)
  obtain ⟨n, hn⟩ : ∃ n, s.size = n := ⟨_, rfl⟩
  rw [hn] at hs HTL
  have HTX : Hid (textM s = (n : Int) :: numsL (txt s)) := by rw [← hn]; rfl
  have HR := Lib.hid hr
  have HN := Lib.hid hn
  have HO0 := Lib.hid (own_int_lit w (n : Int))
  have HW1 : Hid (Below w.heap.size w (w.alloc (.cells #[.int .i64 (n : Int)] 3))) := (Below.refl _ _).alloc (Nat.le_refl _) _
  clear hr
  go_enter Try.func9, Try.ntmps9
  go_wp2_with fail
  clear hn
  have hn : s.size = n := HN.out
  generalize w.alloc (.cells #[.int .i64 (n : Int)] 3) = w1 at *
  go_loopw [3, 4] (fun v vi wr => ∃ (i : Nat) (A : Option Addr) (c : Nat), vi = .int .i64 i ∧ v = .slice A (i + 1) c ∧ i ≤ n ∧ Hid (wr.ownsRow w.heap.size 3 1 (.slice A (i + 1) c) (i + 1) (zs ((n : Int) :: numsL ((txt s).take i)))) ∧ Below w.heap.size w wr) (fun _ vi _ => n - (RowKit.intOf vi).toNat)
  case atStart => exact ⟨0, _, _, rfl, rfl, by omega, HO0.out, HW1.out⟩
  case round =>
    clear HO0 HW1
    obtain ⟨i, A, c, rfl, rfl, hin, HO, hB⟩ := hrel
    by_cases hlt : i < n
    · have his : i < s.size := by rw [HN.out]; exact hlt
      have hat := fun W => str_index W s his
      obtain ⟨y, hy⟩ : ∃ y, (byteAt s i).toNat = y := ⟨_, rfl⟩
      have hy8 : y < 256 := by rw [← hy]; exact (byteAt s i).toNat_lt
      have hwy : IntKind.i64.wrap (y : Int) = (y : Int) := IntWalk.i64_in _ (by omega)
      rw [hy] at hat
      have HL : Hid (zs ((n : Int) :: numsL ((txt s).take i)) ++ zs [(y : Int)] = zs ((n : Int) :: numsL ((txt s).take (i + 1)))) := by
        show _ = _
        rw [← zs_append, ← hy]
        have hi' : i < (txt s).length := by rw [txt_len]; exact his
        have e : (txt s)[i]? = some (byteAt s i) := by
          rw [byteAt_txt, List.getElem?_eq_getElem hi']; rfl
        rw [List.take_add_one, e]
        show zs (_ :: (numsL _ ++ _)) = zs (_ :: numsL (_ ++ _))
        rw [numsL_append]
        rfl
      have HI := Lib.hid (lit_one wr (y : Int))
      have HOW : Hid ((wr.alloc (.cells #[.int .i64 (y : Int)] 3)).ownsRow w.heap.size 3 1 (.slice A (i + 1) c) (i + 1) (zs ((n : Int) :: numsL ((txt s).take i)))) := HO.out.alloc _
      have HB : Hid (Below w.heap.size w (wr.alloc (.cells #[.int .i64 (y : Int)] 3))) := hB.alloc hB.size _
      have hi1 : 0 ≤ (i : Int) ∧ (i : Int) < (n : Int) := by omega
      clear hy hB his HO
      go_wp2_with (at_builtin; refine wpList_append_ints _ rfl _ _ 22 rfl w.heap.size 3 i0 Try.underlying22 hi hz0 hz1 hz2 _ _ _ rfl HOW.out _ _ _ [(y : Int)] rfl HI.out rfl (by omega) (by omega) HB.out.size ?_; intro v2 w2 hown2 hgrow2)
      have HB2 : Hid (Below w.heap.size w w2) := Below.grown HB.out hgrow2 HB.out.size (fun j hj => (HOW.out.lt _ hj).1)
      have hown3 : w2.ownsRow w.heap.size 3 1 v2 (i + 1 + 1) (zs ((n : Int) :: numsL ((txt s).take (i + 1)))) := by rw [← HL.out]; exact hown2
      obtain ⟨A2, c2, rfl, _⟩ := own_slice hown3
      have HO3 := Lib.hid hown3
      clear hown2 hgrow2 hown3
      go_wp2
      go_roundw
      case rel => exact ⟨i + 1, _, _, by go_num, rfl, by omega, HO3.out, HB2.out⟩
      case measure => simp [RowKit.intOf]; omega
    · obtain rfl : i = n := by omega
      have hown : wr.ownsRow w.heap.size 3 1 (.slice A (i + 1) c) (i + 1) ((textM s).map (Value.int .i64)) := by
        rw [HTX.out]
        have h := HO.out
        rw [List.take_of_length_le (by rw [txt_len]; exact Nat.le_of_eq HN.out)] at h
        exact h
      obtain ⟨A', c', e', _, hI, _⟩ := own_zs hown HTL.out.symm
      injection e' with e1 e2 e3
      subst e1 e3
      have HF := Lib.hid (rof_is wr (c := c) hI HTL.out (by omega) HR.out)
      have HB := Lib.hid hB
      clear hown hI hB e2 HO
      go_wp2_with fail
      refine HF.out.mono ?_
      rintro e w2 ⟨rfl, rfl⟩
      go_wp2
      go_ret
      exact ⟨rfl, HB.out⟩
end Go.Proofs.Ytfclnahpgbpjbaa
