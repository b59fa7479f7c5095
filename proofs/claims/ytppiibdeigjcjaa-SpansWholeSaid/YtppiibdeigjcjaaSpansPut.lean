/- Layer 8 (spans): what instead, slices.Clone, Add and Drop return: contracts. -/
import Derived.Test.YtppiibdeigjcjaaSpansApp
import Derived.Test.YtppiibdeigjcjaaSpansFind
import Derived.Deep.RegionHeld3
namespace Go.Proofs.Ytppiibdeigjcjaa
open Go.RowKit

/-- What a call gives that makes a slice of spans. -/
def Made (w : World) (l : List Sp) (e : Ending) (w' : World) : Prop := ∃ v, e = .returned v ∧ SpansIn w' v l ∧ Below w.heap.size w w'
def MadeB (w : World) (l : List Sp) (b : Bool) (e : Ending) (w' : World) : Prop := ∃ v, e = .returned (.tuple #[v, .bool b]) ∧ SpansIn w' v l ∧ Below w.heap.size w w'
theorem SpansIn.nil (w : World) : SpansIn w (.slice none 0 0) [] := ⟨⟨none, 0, rfl, Nat.le_refl _, Nat.zero_le _, .inl rfl⟩, fun _ h => by cases h⟩
theorem none_made (w : World) : PairsAt (w.alloc (.cells #[] 24)) (some ⟨w.heap.size, 0, none⟩) [] := .inl rfl
theorem eqIn_nil (d : Nat) (a : Option Addr) (n c : Nat) (W : World) : (Op.equalIn (d + 1) 22 (.slice a n c) (.slice none 0 0)).run Try.prog W = .ok a.isNone W := by
  cases a <;> simp [Op.equalIn, run_underlying Try.underlying22]
theorem eq_nil (a : Option Addr) (n c : Nat) (W : World) : (Op.equal 22 (.slice a n c) (.slice none 0 0)).run Try.prog W = .ok a.isNone W := eqIn_nil 9999 a n c W
theorem eql_none (n c : Nat) (W : World) : (binOp .eql 22 (.slice none n c) (.slice none 0 0)).run Try.prog W = .ok (.bool true) W := by
  simp only [binOp]
  simp [eq_nil]
theorem eql_some (a : Addr) (n c : Nat) (W : World) : (binOp .eql 22 (.slice (some a) n c) (.slice none 0 0)).run Try.prog W = .ok (.bool false) W := by
  simp only [binOp]
  simp [eq_nil]
theorem clone_is {w : World} {v : Value} {l : List Sp} (h : SpansIn w v l) (hs : l.length ≤ 4194304) : Calls Try.prog 35 #[v] w (Made w l) := by
  obtain ⟨⟨A, c, rfl, h1, h2, h3⟩, hi⟩ := h
  have HI := Lib.hid hi
  cases A with
  | none =>
    have e := h3.none
    subst e
    have hnl := eql_none
    clear h1 h2 h3 hs
    go_enter Try.func35, Try.ntmps35
    go_wp2
    go_ret
    exact ⟨_, rfl, SpansIn.nil _, Below.refl _ _⟩
  | some a =>
    have H3 := Lib.hid (h3.below (new_below w (.cells #[] 24)))
    have hd0 : Head (w.alloc (.cells #[] 24)) w.heap.size (.slice (some ⟨w.heap.size, 0, none⟩) 0 0) [] := ⟨.inl ⟨_, rfl, .inl rfl⟩⟩
    have HD := Lib.hid hd0
    have B0 := Lib.hid (new_below w (.cells #[] 24))
    have hnl := eql_some a
    clear h1 h2 h3 hd0
    go_enter Try.func35, Try.ntmps35
    go_wp2_with (at_builtin; refine wpList_head (by rfl) (.tmp 5) (.tmp 6) rfl (v := .slice (some ⟨w.heap.size, 0, none⟩) 0 0) (xs := []) rfl HD.out (by simp) (some a) l.length c (zs := l) rfl H3.out rfl (by simpa using hs) ?_; intro v' w' hh hb _)
    go_ret
    rw [List.nil_append] at hh
    exact ⟨_, rfl, hh.spans (by omega) HI.out, B0.out.trans hb⟩
set_option maxHeartbeats 1600000 in
/-- The front of l, then s, then the rest of it. -/
theorem instead_is {w : World} {v u : Value} {l s : List Sp} {i j : Nat} (h : SpansIn w v l) (hu : SpansIn w u s) (hs : l.length ≤ 1048576) (hs2 : s.length ≤ 1048576) (hi : i ≤ l.length) (hj : j ≤ l.length) :
    Calls Try.prog 32 #[v, .int .i64 i, .int .i64 j, u] w (Made w (l.take i ++ s ++ l.drop j)) := by
  obtain ⟨⟨A, c, rfl, h1, h2, h3⟩, hin⟩ := h
  obtain ⟨⟨B, d, rfl, g1, g2, g3⟩, hun⟩ := hu
  have hnot := not_any
  have HINT : Hid (∀ p ∈ l.take i ++ s ++ l.drop j, InInt p.1 ∧ InInt p.2) := fun p hp => by
    rcases List.mem_append.1 hp with hp | hp
    · rcases List.mem_append.1 hp with hp | hp
      · exact hin p (List.mem_of_mem_take hp)
      · exact hun p hp
    · exact hin p (List.mem_of_mem_drop hp)
  have HLEN : Hid ((l.take i).length = i) := by show _ = _; rw [List.length_take]; omega
  have HDR : Hid ((l.drop j).length = l.length - j) := List.length_drop
  obtain ⟨n, en⟩ : ∃ n, l.length = n := ⟨_, rfl⟩
  obtain ⟨m, em⟩ : ∃ m, s.length = m := ⟨_, rfl⟩
  have hst := fun W => spans_to W A n c (i : Int) i rfl (by omega)
  have hsf := fun W => spans_full W A n c (i : Int) i rfl (by omega)
  have hsr := fun W => spans_from W A n c (j : Int) j rfl (by omega)
  rw [en] at HDR h1 hs hi hj ⊢
  rw [em] at g1 hs2 ⊢
  have HT := Lib.hid (h3.to i)
  have HF := Lib.hid (h3.from_ (c := c) (k := j) (by omega))
  have HS := Lib.hid g3
  have HN := Lib.hid en
  have HM := Lib.hid em
  have HTI : Hid (∀ p ∈ l.take i, InInt p.1 ∧ InInt p.2) := fun p hp => hin p (List.mem_of_mem_take hp)
  have HC : Hid (i ≤ c ∧ c ≤ maxLen) := ⟨by omega, h2⟩
  by_cases hm : m = 0
  · have hz : s = [] := List.eq_nil_of_length_eq_zero (by omega)
    subst hz
    subst hm
    by_cases hjn : j = n
    · subst hjn
      have HD0 : Hid (l.take i ++ [] ++ l.drop j = l.take i) := by show _ = _; rw [List.append_nil, List.drop_eq_nil_of_le (by omega), List.append_nil]
      have hjj : ((j : Int) == (j : Int)) = true := by simp
      have HSI : Hid (SpansIn w (.slice A i c) (l.take i)) := ⟨⟨A, c, by rw [HLEN.out], by rw [HLEN.out]; exact HC.out.1, HC.out.2, HT.out⟩, HTI.out⟩
      have HLE : Hid ((l.take i).length ≤ 4194304) := by show _ ≤ _; rw [HLEN.out]; omega
      clear h1 h2 h3 g1 g2 g3 hin hun en em hsf hsr
      go_enter Try.func32, Try.ntmps32
      go_wp2_with fail
      refine (clone_is HSI.out HLE.out).mono ?_
      rintro e w' ⟨v', rfl, hv, hb⟩
      rw [← HD0.out] at hv
      go_wp2
      go_ret
      exact ⟨_, rfl, hv, hb⟩
    · have hjj : ((j : Int) == (n : Int)) = false := by simp; omega
      have h00 : ((0 : Int) == 0) = true := by simp
      clear h1 h2 h3 g1 g2 g3 hin hun en em hst
      have HD : Hid (Head w.drew w.heap.size (.slice A i i) (l.take i)) := ⟨.inl ⟨A, by rw [HLEN.out], HT.out⟩⟩
      have H2 : Hid (PairsAt w.drew B ([] : List Sp)) := HS.out
      have HL : Hid ((l.take i).length + (([] : List Sp)).length ≤ 4194304 ∧ (l.take i ++ ([] : List Sp)).length + (l.drop j).length ≤ 4194304) := by
        have a1 := HLEN.out
        have a2 := HDR.out
        have a3 := HM.out
        refine ⟨by omega, ?_⟩
        rw [List.length_append]
        omega
      go_enter Try.func32, Try.ntmps32
      go_upto_region 3 with fail
      go_region_held3 (fun _ => True) (first | exact trivial)
        (first
          | (refine step_head (by rfl) (.tmp 25) (.tmp 26) (by rfl) (base := w.heap.size) (v := .slice A i i) (xs := l.take i) (by rfl) HD.out (Nat.le_refl _) B 0 d (zs := ([] : List Sp)) (by rfl) H2.out HM.out.symm HL.out.1 ?_
             intro v1 w1 hh1 hb1 _
             have hf1 := HF.out.below (w' := w1) (Below.trans (drew_below w) hb1))
          | (refine step_head (by rfl) (.tmp 27) (.tmp 30) (by rfl) (base := w.heap.size) (v := v1) (xs := l.take i ++ ([] : List Sp)) (by rfl) hh1 hb1.size (fromA A c j) (n - j) (c - j) (zs := l.drop j) (by rfl) hf1 HDR.out.symm HL.out.2 ?_
             intro v2 w2 hh2 hb2 _))
      go_wp2
      go_ret
      exact ⟨_, rfl, hh2.spans (by rw [List.length_append]; exact HL.out.2) HINT.out, ((drew_below w).trans hb1).trans hb2⟩
  · have hm0 : ((m : Int) == 0) = false := by simp; omega
    clear h1 h2 h3 g1 g2 g3 hin hun en em hst
    have HD : Hid (Head w.drew w.heap.size (.slice A i i) (l.take i)) := ⟨.inl ⟨A, by rw [HLEN.out], HT.out⟩⟩
    have H2 : Hid (PairsAt w.drew B s) := HS.out
    have HL : Hid ((l.take i).length + (s).length ≤ 4194304 ∧ (l.take i ++ s).length + (l.drop j).length ≤ 4194304) := by
      have a1 := HLEN.out
      have a2 := HDR.out
      have a3 := HM.out
      refine ⟨by omega, ?_⟩
      rw [List.length_append]
      omega
    go_enter Try.func32, Try.ntmps32
    go_upto_region 3 with fail
    go_region_held3 (fun _ => True) (first | exact trivial)
      (first
        | (refine step_head (by rfl) (.tmp 25) (.tmp 26) (by rfl) (base := w.heap.size) (v := .slice A i i) (xs := l.take i) (by rfl) HD.out (Nat.le_refl _) B m d (zs := s) (by rfl) H2.out HM.out.symm HL.out.1 ?_
           intro v1 w1 hh1 hb1 _
           have hf1 := HF.out.below (w' := w1) (Below.trans (drew_below w) hb1))
        | (refine step_head (by rfl) (.tmp 27) (.tmp 30) (by rfl) (base := w.heap.size) (v := v1) (xs := l.take i ++ s) (by rfl) hh1 hb1.size (fromA A c j) (n - j) (c - j) (zs := l.drop j) (by rfl) hf1 HDR.out.symm HL.out.2 ?_
           intro v2 w2 hh2 hb2 _))
    go_wp2
    go_ret
    exact ⟨_, rfl, hh2.spans (by rw [List.length_append]; exact HL.out.2) HINT.out, ((drew_below w).trans hb1).trans hb2⟩
end Go.Proofs.Ytppiibdeigjcjaa
