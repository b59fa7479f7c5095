/- What the document's own answers for layer 4 (copyholdref04) return: contracts. -/
import Derived.Test.YthfochpaacjlcaaRingTell
import Derived.Test.YthfochpaacjlcaaBaseHere
namespace Go.Proofs.Ythfochpaacjlcaa
open Go.RowKit

/-! ### Put -/
def RZs (w : World) (lo : Nat) (l : List Int) (rest : List Value) (e : Ending) (w' : World) : Prop := ∃ v, e = .returned (.tuple (v :: rest).toArray) ∧ ZsAt w' lo v l ∧ Below w.heap.size w w'
set_option maxHeartbeats 800000 in
theorem rput_any {w : World} {lo room : Nat} {v : Value} {l : List Int} (h : ZsAt w lo v l) (hl : l.length ≤ 1048576) (hlo : lo ≤ w.heap.size) (x : Int) :
    Calls Try.prog 7 #[v, .int .i64 room, .int .i64 x] w (RZs w lo (putL room l x) [.bool (putB room l)]) := by
  by_cases hlt : l.length < room
  · have e1 : putL room l x = l ++ [x] := if_pos hlt
    have e2 : putB room l = true := decide_eq_true hlt
    rw [e1, e2]
    clear e1 e2
    obtain ⟨i0, hi0, hz0, hz1, hz2⟩ := info_parts int_info
    have HI := Lib.hid hi0
    have HZ0 := Lib.hid hz0
    have HZ1 := Lib.hid hz1
    have HZ2 := Lib.hid hz2
    obtain ⟨A, c, rfl, hcap, hi, _⟩ := h
    have H := Lib.hid hi
    clear hi0 hz0 hz1 hz2 hi
    have own0 : (w.alloc (.cells #[] 3)).ownsRow w.heap.size 3 1 (.slice (some ⟨w.heap.size, 0, none⟩) 0 0) 0 [] := World.ownsRow_lit w #[] 0 (Nat.le_refl _) (by unfold maxLen; omega) (by simp)
    have HA := Lib.hid (H.out.alloc (.cells #[] 3))
    have OWN0 := Lib.hid own0
    have hlt2 : (l.length : Int) < (room : Int) := by omega
    clear own0
    go_enter Try.func7, Try.ntmps7
    go_wp2_with (first
      | (at_builtin; refine wpList_append_ints _ rfl (.tmp 13) (.tmp 14) 26 rfl w.heap.size 3 i0 Try.underlying26 HI.out HZ0.out HZ1.out HZ2.out (.slice (some ⟨w.heap.size, 0, none⟩) 0 0) 0 [] rfl OWN0.out A l.length c l rfl HA.out rfl (by omega) (by omega) (by simp) ?_
         intro v1 w1 hown1 hgr1)
      | (at_builtin; refine wpList_append_own _ rfl (.tmp 15) (.tmp 17) 26 rfl w.heap.size 3 i0 (.int .i64 0) 1 8 Try.underlying26 HI.out HZ0.out HZ1.out HZ2.out rfl (by decide) v1 (0 + l.length) _ rfl (hown1.alloc _) ⟨w1.heap.size, 0, none⟩ 1 1 [.int .i64 x] rfl rfl (new_one _ _ _) (one_int _ _) (by unfold maxLen; omega) (by omega) (by have := hgr1.size; simp at this ⊢; omega) ?_
         intro v2 w2 hown2 hgr2 _))
    have ev : [] ++ l.map (Value.int .i64) ++ [.int .i64 x] = (l ++ [x]).map (Value.int .i64) := by simp
    rw [ev] at hown2
    have b1 : Below w.heap.size w (w.alloc (.cells #[] 3)) := (Below.refl _ _).alloc (Nat.le_refl _) _
    have b2 := b1.grown hgr1 b1.size fun x hx => (OWN0.out.lt x hx).1
    have b3 := b2.alloc b2.size (.cells #[.int .i64 x] 3)
    have b4 := b3.grown hgr2 b3.size fun x hx => (hown1.lt x hx).1
    go_ret2
    exact ⟨v2, rfl, (own_zlist hown2 (by simp)).more hlo, b4⟩
  · have e1 : putL room l x = l := if_neg hlt
    have e2 : putB room l = false := decide_eq_false hlt
    rw [e1, e2]
    clear e1 e2
    have h00 := h
    obtain ⟨A, c, rfl, _⟩ := h
    have hlt2 : ¬ (l.length : Int) < (room : Int) := by omega
    go_enter Try.func7, Try.ntmps7
    go_wp2
    go_ret2
    exact ⟨_, rfl, h00, Below.refl _ _⟩

/-! ### Take -/
theorem cut_rest (W : World) (b off m c : Nat) (h1 : 1 ≤ m) (hmc : m ≤ c) : (Instr.slice 26 (.slice (some ⟨b, off, none⟩) m c) (some (.int .i64 1)) none none).run Try.prog W = .ok (.slice (some ⟨b, if c = 1 then off else off + 1, none⟩) (m - 1) (c - 1)) W := by
  rw [run_slice_l (P := Try.prog) W 26 (some ⟨b, off, none⟩) m c (by kernel_rfl) .i64 1 (by omega) (by omega)]
  rw [show (sizeOf (Try.prog.elem 26)).run Try.prog W = .ok 1 W by kernel_rfl]
  by_cases hc : c = 1
  · subst hc; simp [Result.andThen, sliced]
  · simp [Result.andThen, sliced, Addr.add, hc]
def RTake (w : World) (lo : Nat) (l : List Int) (x : Int) (b : Bool) (e : Ending) (w' : World) : Prop := ∃ v n, e = .returned (.tuple #[v, .int .i64 x, .bool b]) ∧ ZsAt w' lo v l ∧ w' = w.drewN n
set_option maxHeartbeats 800000 in
theorem rtake_any {w : World} {lo : Nat} {v : Value} {l : List Int} (h : ZsAt w lo v l) (hl : l.length ≤ 1048576) : Calls Try.prog 9 #[v] w (RTake w lo l.tail (l.headD 0) (someB l)) := by
  cases l with
  | nil =>
    have h00 := h
    obtain ⟨A, c, rfl, _⟩ := h
    rw [show ([] : List Int).length = 0 from rfl] at h00 ⊢
    go_enter Try.func9, Try.ntmps9
    go_wp2
    go_ret3
    exact ⟨_, 0, rfl, h00, rfl⟩
  | cons y l =>
    rw [show someB (y :: l) = true from rfl, show (y :: l).tail = l from rfl, show (y :: l).headD 0 = y from rfl]
    obtain ⟨A, c, rfl, hcap, hi, hlo⟩ := h
    obtain ⟨b, off, rfl, hc⟩ := hi.at_ (k := 0) (by simp)
    rw [Nat.add_zero] at hc
    have hc : w.cell? ⟨b, off, none⟩ = some (.int .i64 y) := hc
    have hct := fun W => cut_rest W b off (y :: l).length c (by simp) hcap
    obtain ⟨m, em⟩ : ∃ m, (y :: l).length = m := ⟨_, rfl⟩
    have em2 : l.length = m - 1 := by rw [List.length_cons] at em; omega
    have hm1 : 1 ≤ m := by rw [List.length_cons] at em; omega
    obtain ⟨off', eo⟩ : ∃ off', (if c = 1 then off else off + 1) = off' := ⟨_, rfl⟩
    rw [em] at hct hcap hl ⊢
    rw [eo] at hct
    have HE : ZsAt w lo (.slice (some ⟨b, off', none⟩) (m - 1) (c - 1)) l := by
      refine ⟨_, c - 1, by rw [em2], by omega, ?_, fun b' off' e => by injection e with e; injection e with e; subst e; exact hlo b off rfl⟩
      by_cases hl0 : l = []
      · exact .inl hl0
      · have hpos : 0 < l.length := List.length_pos_iff.2 hl0
        rw [if_neg (by omega)] at eo
        subst eo
        rcases hi with hi | ⟨b', off', e, hlt, hcell⟩
        · cases hi
        · injection e with e
          injection e with e1 e2
          subst e1 e2
          refine .inr ⟨b, off + 1, rfl, hlt, fun k x hx => ?_⟩
          rw [show off + 1 + k = off + (k + 1) by omega]
          exact hcell (k + 1) x (by simpa using hx)
    have hn : ((m : Int) == 0) = false := by simp; omega
    have hpos : 0 < (m : Int) := by omega
    clear hi hlo em em2 eo
    go_enter Try.func9, Try.ntmps9
    go_wp2
    go_quiet (fail)
    go_wp2
    go_ret3
    exact ⟨_, nq, rfl, HE.drewN nq, rfl⟩

/-! ### At -/
theorem rat_any {w : World} {lo : Nat} {v : Value} {l : List Int} {i r : Int} {s : Bool} (h : ZsAt w lo v l) (er : atV l i = r) (es : atB l i = s) :
    Calls Try.prog 11 #[v, .int .i64 i] w fun e w' => e = .returned (.tuple #[.int .i64 r, .bool s]) ∧ w = w' := by
  obtain ⟨A, c, rfl, _, hi, _⟩ := h
  cases s with
  | false =>
    have hr0 := atV_out es
    rw [er] at hr0
    subst hr0
    by_cases h0 : i < 0
    · clear er es
      go_enter Try.func11, Try.ntmps11
      go_wp2
      go_ret2
      exact ⟨rfl, rfl⟩
    · have h1 : ¬ i < (l.length : Int) := fun h2 => of_decide_eq_false es ⟨by omega, h2⟩
      clear er es
      go_enter Try.func11, Try.ntmps11
      go_wp2
      go_ret2
      exact ⟨rfl, rfl⟩
  | true =>
    obtain ⟨h1, h2⟩ := of_decide_eq_true es
    obtain ⟨k, rfl⟩ := Int.eq_ofNat_of_zero_le h1
    have hkl : k < l.length := by omega
    obtain ⟨b, off, rfl, hc⟩ := hi.at_ hkl
    have e3 : l[k]'hkl = r := by
      unfold atV at er
      rw [if_pos (by omega), Int.toNat_natCast, List.getD_eq_getElem?_getD, List.getElem?_eq_getElem hkl] at er
      exact er
    rw [e3] at hc
    have hki : 0 ≤ (k : Int) ∧ (k : Int) < (l.length : Int) := by omega
    clear er es hi e3
    go_enter Try.func11, Try.ntmps11
    go_wp2
    go_ret2
    exact ⟨rfl, rfl⟩

/-! ### Place -/
theorem rplace_any {w : World} {lo : Nat} {v : Value} {l : List Int} (h : ZsAt w lo v l) (hl : l.length ≤ 1048576) {x r : Int} (hr : placeZ l x = r) :
    Calls Try.prog 19 #[v, .int .i64 x] w fun e w' => e = .returned (.int .i64 r) ∧ w = w' := by
  obtain ⟨A, c, rfl, _, hi, _⟩ := h
  have H := Lib.hid hi
  have HR := Lib.hid hr
  clear hi hr
  go_enter Try.func19, Try.ntmps19
  go_wp2
  go_loop [5] (fun k => ∃ j : Nat, j ≤ l.length ∧ k = .int .i64 j ∧ Hid (∀ q, q < j → l[q]?.getD 0 ≠ x)) (fun k => l.length - (intOf k).toNat)
  case atStart => exact ⟨0, by omega, rfl, fun q hq => by omega⟩
  case round =>
    obtain ⟨j, hj, rfl, hh⟩ := hrel
    by_cases hlt : j < l.length
    · obtain ⟨b, off, rfl, hc⟩ := H.out.at_ hlt
      have HQ : Hid (l[j]?.getD 0 = l[j]'hlt) := by show _ = _; rw [List.getElem?_eq_getElem hlt]; rfl
      have hi : 0 ≤ (j : Int) ∧ (j : Int) < (l.length : Int) := by omega
      generalize l[j]'hlt = y at *
      by_cases hxy : y = x
      · have hb2 : (y == x) = true := by simp [hxy]
        have HE : Hid (r = (j : Int)) := by show _ = _; rw [← HR.out]; exact placeZ_at hlt (HQ.out.trans hxy) hh.out
        clear hxy
        go_wp2
        go_ret
        exact ⟨ret_int HE.out.symm, rfl⟩
      · have hb2 : (y == x) = false := by simp [hxy]
        have HXY : Hid (y ≠ x) := hxy
        clear hxy
        go_wp2
        go_round
        case rel =>
          refine ⟨j + 1, by omega, by go_num, fun q hq => ?_⟩
          by_cases e : q = j
          · rw [e, HQ.out]; exact HXY.out
          · exact hh.out q (by omega)
        case measure => simp [intOf]; omega
    · go_wp2
      go_ret
      refine ⟨ret_int ?_, rfl⟩
      rw [← HR.out]
      exact (placeZ_no fun q hq => hh.out q (by omega)).symm
end Go.Proofs.Ythfochpaacjlcaa
