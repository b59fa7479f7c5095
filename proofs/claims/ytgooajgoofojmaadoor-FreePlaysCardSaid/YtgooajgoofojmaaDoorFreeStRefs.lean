/- What the document's own answers for layer 3 (copyholdref03) return: contracts. -/
import Derived.Test.YtgooajgoofojmaaDoorFreeStList
import Derived.Test.YtgooajgoofojmaaDoorBaseList
namespace Go.Proofs.YtgooajgoofojmaaDoor
open Go.RowKit

/-! ### Place -/
theorem ints_at {l : List Nat} {j : Nat} {y : Int} (h : (ints l)[j]? = some y) : ∃ x : Nat, y = (x : Int) ∧ l[j]? = some x := by
  unfold ints at h
  rw [List.getElem?_map] at h
  cases e : l[j]? with
  | none => rw [e] at h; cases h
  | some x => rw [e] at h; injection h with h; exact ⟨x, h.symm, rfl⟩
theorem placeI_at {l : List Nat} (hn : l.Nodup) {j : Nat} {y : Int} (h : (ints l)[j]? = some y) : placeI l y = j := by
  obtain ⟨x, rfl, hx⟩ := ints_at h
  rw [placeI_nat]
  exact placeV_at hn hx
theorem placeI_none {l : List Nat} {y : Int} (h : ∀ q, q < l.length → (ints l)[q]? ≠ some y) : placeI l y = -1 := by
  unfold placeI
  split
  · rename_i h0
    obtain ⟨x, rfl⟩ := Int.eq_ofNat_of_zero_le h0
    rw [Int.toNat_natCast]
    refine placeV_no fun hm => ?_
    obtain ⟨i, h1, h2, _⟩ := placeV_mem hm
    refine h i h1 ?_
    unfold ints
    rw [List.getElem?_map, h2]
    rfl
  · rfl
theorem rplace_any {w : World} {lo : Nat} {v : Value} {l : List Nat} (h : ListAt w lo v l) (hn : l.Nodup) (hl : l.length ≤ 1048576) {x r : Int} (hr : placeI l x = r) :
    Calls Tryd.prog 9 #[v, .int .i64 x] w fun e w' => e = .returned (.int .i64 r) ∧ w = w' := by
  obtain ⟨A, c, rfl, _, hi, _⟩ := h
  have H := Lib.hid hi
  have HND := Lib.hid hn
  have HR := Lib.hid hr
  have HL : Hid ((ints l).length = l.length) := ints_length l
  clear hi hn hr
  go_enter Tryd.func9, Tryd.ntmps9
  go_wp2
  go_loop [5] (fun k => ∃ j : Nat, j ≤ l.length ∧ k = .int .i64 j ∧ Hid (∀ q, q < j → (ints l)[q]? ≠ some x)) (fun k => l.length - (intOf k).toNat)
  case atStart => exact ⟨0, by omega, rfl, fun q hq => by omega⟩
  case round =>
    obtain ⟨j, hj, rfl, hh⟩ := hrel
    by_cases hlt : j < l.length
    · have hxl : j < (ints l).length := by have := HL.out; omega
      obtain ⟨b, off, rfl, hc⟩ := H.out.at_ hxl
      have HQ : Hid ((ints l)[j]? = some ((ints l)[j]'hxl)) := List.getElem?_eq_getElem hxl
      have hi : 0 ≤ (j : Int) ∧ (j : Int) < (l.length : Int) := by omega
      generalize (ints l)[j]'hxl = y at *
      by_cases hxy : y = x
      · have hb2 : (y == x) = true := by simp [hxy]
        have HE : Hid (r = (j : Int)) := by show _ = _; rw [← HR.out, ← hxy]; exact placeI_at HND.out HQ.out
        clear hxy
        go_wp2
        go_ret
        exact ⟨ret_int HE.out.symm, rfl⟩
      · have hb2 : (y == x) = false := by simp [hxy]
        have HXY : Hid (y ≠ x) := hxy
        clear hxy
        go_wp2
        go_round
        case rel =>
          refine ⟨j + 1, by omega, by go_num, fun q hq => ?_⟩
          by_cases e : q = j
          · rw [e, HQ.out]
            intro e2
            injection e2 with e2
            exact HXY.out e2
          · exact hh.out q (by omega)
        case measure => simp [intOf]; omega
    · go_wp2
      go_ret
      refine ⟨ret_int ?_, rfl⟩
      rw [← HR.out]
      exact (placeI_none fun q hq => hh.out q (by omega)).symm

/-! ### Push -/
def RList (w : World) (lo : Nat) (l : List Nat) (rest : List Value) (e : Ending) (w' : World) : Prop := ∃ v, e = .returned (.tuple (v :: rest).toArray) ∧ ListAt w' lo v l ∧ Below w.heap.size w w'
set_option maxHeartbeats 800000 in
theorem rpush_any {w : World} {lo size : Nat} {v : Value} {l : List Nat} (h : ListAt w lo v l) (hn : l.Nodup) (hl : l.length ≤ 1048576) (hlo : lo ≤ w.heap.size) (x : Int) :
    Calls Tryd.prog 29 #[v, .int .i64 size, .int .i64 x] w (RList w lo (pushL size l x) [.bool (pushB size l x)]) := by
  by_cases h0 : x < 0
  · have hb : pushB size l x = false := by unfold pushB; rw [decide_eq_false (by omega)]; rfl
    have e : pushL size l x = l := if_neg (by rw [hb]; simp)
    rw [hb, e]
    clear hb e
    go_enter Tryd.func29, Tryd.ntmps29
    go_wp2
    go_ret2
    exact ⟨v, rfl, h, Below.refl _ _⟩
  · by_cases h1 : x < size
    · obtain ⟨k, rfl⟩ := Int.eq_ofNat_of_zero_le (show 0 ≤ x by omega)
      have hk : k < size := by omega
      by_cases hm : k ∈ l
      · have hb : pushB size l (k : Int) = false := by rw [pushB_nat]; simp [hm]
        have e : pushL size l (k : Int) = l := if_neg (by rw [hb]; simp)
        rw [hb, e]
        obtain ⟨i, _, _, hp⟩ := placeV_mem hm
        have HP : Hid (placeI l (k : Int) = (i : Int)) := by show _ = _; rw [placeI_nat]; exact hp
        clear hb e hp hm
        go_enter Tryd.func29, Tryd.ntmps29
        go_wp2_with (go_at_call 9; refine (rplace_any h hn hl HP.out).mono ?_; rintro e w' ⟨rfl, rfl⟩)
        go_ret2
        exact ⟨v, rfl, h, Below.refl _ _⟩
      · have hb : pushB size l (k : Int) = true := by rw [pushB_nat]; simp [hm, hk]
        have e : pushL size l (k : Int) = l ++ [k] := if_pos hb
        rw [hb, e]
        have HP : Hid (placeI l (k : Int) = -1) := by show _ = _; rw [placeI_nat]; exact placeV_no hm
        obtain ⟨i0, hi0, hz0, hz1, hz2⟩ := info_parts int_info
        have HI := Lib.hid hi0
        have HZ0 := Lib.hid hz0
        have HZ1 := Lib.hid hz1
        have HZ2 := Lib.hid hz2
        have h00 := h
        obtain ⟨A, c, rfl, hcap, hi, _⟩ := h
        have H := Lib.hid hi
        clear hb e hm hi0 hz0 hz1 hz2 hi
        have own0 : (w.alloc (.cells #[] 3)).ownsRow w.heap.size 3 1 (.slice (some ⟨w.heap.size, 0, none⟩) 0 0) 0 [] := World.ownsRow_lit w #[] 0 (Nat.le_refl _) (by unfold maxLen; omega) (by simp)
        have HA := Lib.hid (H.out.alloc (.cells #[] 3))
        have HL : Hid (l.length = (ints l).length) := (ints_length l).symm
        have OWN0 := Lib.hid own0
        clear own0
        go_enter Tryd.func29, Tryd.ntmps29
        go_wp2_with (first
          | (go_at_call 9; refine (rplace_any h00 hn hl HP.out).mono ?_; rintro e w' ⟨rfl, rfl⟩)
          | (at_builtin; refine wpList_append_ints _ rfl (.tmp 22) (.tmp 23) 26 rfl w.heap.size 3 i0 Tryd.underlying26 HI.out HZ0.out HZ1.out HZ2.out (.slice (some ⟨w.heap.size, 0, none⟩) 0 0) 0 [] rfl OWN0.out A l.length c (ints l) rfl HA.out HL.out (by omega) (by omega) (by simp) ?_
             intro v1 w1 hown1 hgr1)
          | (at_builtin; refine wpList_append_own _ rfl (.tmp 24) (.tmp 26) 26 rfl w.heap.size 3 i0 (.int .i64 0) 1 8 Tryd.underlying26 HI.out HZ0.out HZ1.out HZ2.out rfl (by decide) v1 (0 + l.length) _ rfl (hown1.alloc _) ⟨w1.heap.size, 0, none⟩ 1 1 [.int .i64 k] rfl rfl (new_one _ _ _) (one_int _ _) (by unfold maxLen; omega) (by omega) (by have := hgr1.size; simp at this ⊢; omega) ?_
             intro v2 w2 hown2 hgr2 _))
        have ev : [] ++ (ints l).map (Value.int .i64) ++ [.int .i64 (k : Int)] = vals (l ++ [k]) := by rw [List.nil_append, vals_ints, vals_append]; rfl
        rw [ev] at hown2
        have b1 : Below w.heap.size w (w.alloc (.cells #[] 3)) := (Below.refl _ _).alloc (Nat.le_refl _) _
        have b2 := b1.grown hgr1 b1.size fun x hx => (OWN0.out.lt x hx).1
        have b3 := b2.alloc b2.size (.cells #[.int .i64 (k : Int)] 3)
        have b4 := b3.grown hgr2 b3.size fun x hx => (hown1.lt x hx).1
        go_ret2
        exact ⟨v2, rfl, (own_list hown2 (by simp)).more hlo, b4⟩
    · have hb : pushB size l x = false := by unfold pushB; rw [decide_eq_false (by omega)]; rfl
      have e : pushL size l x = l := if_neg (by rw [hb]; simp)
      rw [hb, e]
      clear hb e
      go_enter Tryd.func29, Tryd.ntmps29
      go_wp2
      go_ret2
      exact ⟨v, rfl, h, Below.refl _ _⟩

/-! ### Pop -/
theorem dropLast_ints (l : List Nat) : ∀ (k : Nat) (x : Int), (ints l.dropLast)[k]? = some x → (ints l)[k]? = some x := by
  intro k x h
  unfold ints at h ⊢
  rw [List.getElem?_map, List.getElem?_dropLast] at h
  rw [List.getElem?_map]
  split at h
  · exact h
  · cases h
theorem IntsAt.dropLast {w : World} {A : Option Addr} {l : List Nat} (h : IntsAt w A (ints l)) : IntsAt w A (ints l.dropLast) := by
  rcases h with h | ⟨b, off, e, hb, hc⟩
  · have : l = [] := by cases l with
      | nil => rfl
      | cons _ _ => unfold ints at h; cases h
    subst this
    exact .inl rfl
  · exact .inr ⟨b, off, e, hb, fun k x hx => hc k x (dropLast_ints l k x hx)⟩
theorem cut_top (W : World) (b off m c : Nat) (h1 : 1 ≤ m) (hmc : m ≤ c) : (Instr.slice 26 (.slice (some ⟨b, off, none⟩) m c) none (some (.int .i64 ((m : Int) - 1))) none).run Tryd.prog W = .ok (.slice (some ⟨b, off, none⟩) (m - 1) c) W := by
  rw [run_slice_h (P := Tryd.prog) W 26 (some ⟨b, off, none⟩) m c (by kernel_rfl) .i64 ((m : Int) - 1) (by omega) (by omega)]
  rw [show (sizeOf (Tryd.prog.elem 26)).run Tryd.prog W = .ok 1 W by kernel_rfl]
  have e1 : ((m : Int) - 1).toNat = m - 1 := by omega
  rw [e1]
  simp [Result.andThen, sliced, Addr.add]
def RPop (w : World) (lo : Nat) (l : List Nat) (top : Nat) (b : Bool) (e : Ending) (w' : World) : Prop := ∃ v n, e = .returned (.tuple #[v, .int .i64 top, .bool b]) ∧ ListAt w lo v l ∧ w' = w.drewN n
set_option maxHeartbeats 800000 in
theorem rpop_any {w : World} {lo : Nat} {v : Value} {l : List Nat} (h : ListAt w lo v l) (hl : l.length ≤ 1048576) : Calls Tryd.prog 25 #[v] w (RPop w lo l.dropLast (topV l) (someB l)) := by
  by_cases h0 : l = []
  · subst h0
    have h00 := h
    obtain ⟨A, c, rfl, _⟩ := h
    rw [show ([] : List Nat).length = 0 from rfl] at h00 ⊢
    go_enter Tryd.func25, Tryd.ntmps25
    go_wp2
    go_ret3
    exact ⟨_, 0, rfl, h00, rfl⟩
  · have hpos : 0 < l.length := List.length_pos_iff.2 h0
    have hsome : someB l = true := by
      unfold someB
      cases l with
      | nil => exact absurd rfl h0
      | cons _ _ => rfl
    rw [hsome]
    have hlen : l.dropLast.length = l.length - 1 := List.length_dropLast
    obtain ⟨A, c, rfl, hcap, hi, hlo⟩ := h
    have hi' := hi.dropLast
    obtain ⟨b, off, rfl, hc⟩ := hi.at_ (k := l.length - 1) (by rw [ints_length]; omega)
    have hv : w.cell? ⟨b, off + (l.length - 1), none⟩ = some (.int .i64 (topV l : Nat)) := by
      rw [hc]
      have h1 : (ints l)[l.length - 1]? = some (topV l : Int) := by
        unfold ints
        rw [List.getElem?_map, topV_at hpos]
        rfl
      rw [List.getElem?_eq_getElem (by rw [ints_length]; omega)] at h1
      injection h1 with h1
      rw [h1]
    have HE : ListAt w lo (.slice (some ⟨b, off, none⟩) (l.length - 1) c) l.dropLast := ⟨_, c, by rw [hlen], by omega, hi', hlo⟩
    have hct := fun W => cut_top W b off l.length c hpos hcap
    generalize topV l = top at *
    obtain ⟨m, em⟩ : ∃ m, l.length = m := ⟨_, rfl⟩
    rw [em] at hv HE hct hpos hcap hl
    rw [em]
    clear hsome hlen hi hi' hc em h0 hlo
    have hn : ((m : Int) == 0) = false := by simp; omega
    have hi1 : 1 ≤ (m : Int) := by omega
    have hir : 0 ≤ (m : Int) - 1 ∧ (m : Int) - 1 < (m : Int) := by omega
    have hwr : IntKind.i64.wrap ((m : Int) - 1) = (m : Int) - 1 := IntWalk.i64_in _ (by omega)
    have hto : ((m : Int) - 1).toNat = m - 1 := by omega
    go_enter Tryd.func25, Tryd.ntmps25
    go_wp2
    go_quiet (fail)
    go_wp2
    go_ret3
    exact ⟨_, nq, rfl, HE, rfl⟩

/-! ### Drop -/
theorem take_snoc {α : Type} {xs : List α} {k : Nat} {x : α} (h : xs[k]? = some x) : xs.take (k + 1) = xs.take k ++ [x] := by
  obtain ⟨hk, hx⟩ := List.getElem?_eq_some_iff.1 h
  rw [List.take_succ_eq_append_getElem hk, hx]
set_option maxHeartbeats 1600000 in
theorem rdrop_any {w : World} {lo : Nat} {v : Value} {l : List Nat} (h : ListAt w lo v l) (hn : l.Nodup) (hl : l.length ≤ 1048576) (hlo : lo ≤ w.heap.size) (x : Int) :
    Calls Tryd.prog 26 #[v, .int .i64 x] w (RList w lo (dropI l x) [.bool (dropB l x)]) := by
  cases hb : dropB l x with
  | false =>
    have e : dropI l x = l := if_neg (by rw [hb]; simp)
    have HP : Hid (placeI l x = -1) := by
      show _ = _
      unfold placeI
      split
      · rename_i h0
        refine placeV_no fun hm => ?_
        unfold dropB at hb
        rw [decide_eq_true h0, decide_eq_true hm] at hb
        cases hb
      · rfl
    rw [e]
    clear e hb
    go_enter Tryd.func26, Tryd.ntmps26
    go_wp2_with (go_at_call 9; refine (rplace_any h hn hl HP.out).mono ?_; rintro e w' ⟨rfl, rfl⟩)
    go_ret2
    exact ⟨v, rfl, h, Below.refl _ _⟩
  | true =>
    have e : dropI l x = dropL l x.toNat := if_pos hb
    rw [e]
    unfold dropB at hb
    rw [Bool.and_eq_true] at hb
    obtain ⟨k, rfl⟩ := Int.eq_ofNat_of_zero_le (of_decide_eq_true hb.1)
    rw [Int.toNat_natCast] at hb ⊢
    have hm : k ∈ l := of_decide_eq_true hb.2
    obtain ⟨i, hil, hi2, hp⟩ := placeV_mem hm
    have HP : Hid (placeI l (k : Int) = (i : Int)) := by show _ = _; rw [placeI_nat]; exact hp
    have HD : Hid (∀ j, j < l.length - 1 → (dropL l k)[j]? = if j = i then some (topV l) else l[j]?) := fun j hj => dropL_at hp hj
    have HLD : Hid ((dropL l k).length = l.length - 1) := dropL_length hm
    have HTV : Hid (l[l.length - 1]? = some (topV l)) := topV_at (by omega)
    obtain ⟨i0, hi0, hz0, hz1, hz2⟩ := info_parts int_info
    have HI := Lib.hid hi0
    have HZ0 := Lib.hid hz0
    have HZ1 := Lib.hid hz1
    have HZ2 := Lib.hid hz2
    have h00 := h
    obtain ⟨A, c, rfl, hcap, hi, _⟩ := h
    have H := Lib.hid hi
    have HLL : Hid ((ints l).length = l.length) := ints_length l
    clear hb e hm hi0 hz0 hz1 hz2 hi hi2 hp
    generalize dropL l k = d at *
    generalize topV l = top at *
    have hpos : 1 ≤ (l.length : Int) := by omega
    go_enter Tryd.func26, Tryd.ntmps26
    go_wp2_with (go_at_call 9; refine (rplace_any h00 hn hl HP.out).mono ?_; rintro e w' ⟨rfl, rfl⟩)
    go_loopw [7, 8] (fun o y wr => ∃ j : Nat, j ≤ l.length - 1 ∧ y = .int .i64 j ∧ wr.ownsRow w.heap.size 3 1 o j (vals (d.take j)) ∧ Below w.heap.size w wr) (fun _ y _ => l.length - 1 - (intOf y).toNat)
    case atStart => exact ⟨0, by omega, rfl, World.ownsRow_nil _ _ _ _, Below.refl _ _⟩
    case round =>
      obtain ⟨j, hj, rfl, hown, hbel⟩ := hrel
      by_cases hlt : j < l.length - 1
      · have hlt2 : (j : Int) < (l.length : Int) - 1 := by omega
        have hjr : 0 ≤ (j : Int) ∧ (j : Int) < (l.length : Int) := by omega
        have hlr : 0 ≤ (l.length : Int) - 1 ∧ (l.length : Int) - 1 < (l.length : Int) := by omega
        have hto : ((l.length : Int) - 1).toNat = l.length - 1 := by omega
        obtain ⟨b, off, rfl, hc⟩ := (H.out.below hbel).at_ (k := j) (by have := HLL.out; omega)
        obtain ⟨b', off', e', hc'⟩ := (H.out.below hbel).at_ (k := l.length - 1) (by have := HLL.out; omega)
        injection e' with e'
        injection e' with e1 e2
        subst e1 e2
        have h5 : (ints l)[l.length - 1]? = some (top : Int) := by
          unfold ints
          rw [List.getElem?_map, HTV.out]
          rfl
        rw [List.getElem?_eq_getElem (by have := HLL.out; omega)] at h5
        injection h5 with h5
        rw [h5] at hc'
        have h6 : (ints l)[j]? = some ((ints l)[j]'(by have := HLL.out; omega)) := List.getElem?_eq_getElem (by have := HLL.out; omega)
        obtain ⟨y, ey, hy⟩ := ints_at h6
        rw [ey] at hc
        clear h5 h6 ey
        by_cases hji : j = i
        · have hq := HD.out j hlt
          rw [if_pos hji] at hq
          have HT := Lib.hid (take_snoc hq)
          have hbb : ((j : Int) == (i : Int)) = true := by simp [hji]
          clear hq hji
          go_wp2_with (at_builtin; refine wpList_append_own _ rfl _ _ 26 rfl w.heap.size 3 i0 (.int .i64 0) 1 8 Tryd.underlying26 HI.out HZ0.out HZ1.out HZ2.out rfl (by decide) _ _ _ rfl (hown.alloc _) ⟨wr.heap.size, 0, none⟩ 1 1 [.int .i64 top] rfl rfl (new_one _ _ _) (one_int _ _) (by unfold maxLen; omega) (by omega) (by have := hbel.size; simp; omega) ?_
                       intro v' w2 hown2 hgr2 _)
          have hb2 : Below w.heap.size w w2 := (hbel.alloc hbel.size _).grown hgr2 (by have := hbel.size; simp; omega) fun x hx => (hown.lt x hx).1
          have hq : w2.ownsRow w.heap.size 3 1 v' (j + 1) (vals (d.take (j + 1))) := by rw [HT.out, vals_append]; exact hown2
          go_roundw
          case rel => exact ⟨j + 1, by omega, by go_num, hq, hb2⟩
          case measure => simp [intOf]; omega
        · have hq := HD.out j hlt
          rw [if_neg hji, hy] at hq
          have HT := Lib.hid (take_snoc hq)
          have hbb : ((j : Int) == (i : Int)) = false := by simp; omega
          clear hq hji
          go_wp2_with (at_builtin; refine wpList_append_own _ rfl _ _ 26 rfl w.heap.size 3 i0 (.int .i64 0) 1 8 Tryd.underlying26 HI.out HZ0.out HZ1.out HZ2.out rfl (by decide) _ _ _ rfl (hown.alloc _) ⟨wr.heap.size, 0, none⟩ 1 1 [.int .i64 y] rfl rfl (new_one _ _ _) (one_int _ _) (by unfold maxLen; omega) (by omega) (by have := hbel.size; simp; omega) ?_
                       intro v' w2 hown2 hgr2 _)
          have hb2 : Below w.heap.size w w2 := (hbel.alloc hbel.size _).grown hgr2 (by have := hbel.size; simp; omega) fun x hx => (hown.lt x hx).1
          have hq : w2.ownsRow w.heap.size 3 1 v' (j + 1) (vals (d.take (j + 1))) := by rw [HT.out, vals_append]; exact hown2
          go_roundw
          case rel => exact ⟨j + 1, by omega, by go_num, hq, hb2⟩
          case measure => simp [intOf]; omega
      · have hlt2 : ¬ (j : Int) < (l.length : Int) - 1 := by omega
        go_wp2
        go_ret2
        have e : j = d.length := by have := HLD.out; omega
        subst e
        rw [List.take_length] at hown
        exact ⟨_, rfl, (own_list hown rfl).more hlo, hbel⟩
end Go.Proofs.YtgooajgoofojmaaDoor
