/- Layer 16 (tags): the document's Owners and Hand: contracts. -/
import Derived.Test.YtiidkfcblnkghaaTagsRDo
namespace Go.Proofs.Ytiidkfcblnkghaa
open Go.RowKit

section
variable {w : World} {T : Nat → Prop} {A B : Option Addr} {O G : List Nat} {n c d : Nat}
/-! ### Owners -/
/-- What the outer loop of Owners keeps. -/
def OutAt (w wr : World) (O out : List Nat) (A : Option Addr) (lp c : Nat) : Prop := wr.ownsRow w.heap.size 3 1 (.slice A lp c) lp (vals out) ∧ out.length = lp ∧ Below w.heap.size w wr ∧ lp ≤ (ownersL O).length
/-- There is more to tell, or not. -/
def MoreAt (O out : List Nat) (last : Nat) (m : Bool) : Prop := (m = true ∧ ∃ rest, Told O out last rest) ∨ (m = false ∧ out = ownersL O)
def lenV : Value → Nat
  | .slice _ n _ => n
  | _ => 0
def onV : Value → Nat
  | .bool true => 1
  | _ => 0
set_option maxHeartbeats 3200000 in
theorem rowners_is (hA : IntsF w T A (ints O)) (lO : n = O.length) (hs : n ≤ 1048576) {l : List Nat} (hl : ownersL O = l) : Calls Try.prog 24 #[.agg #[.slice A n c, .slice B n d]] w (MadeL w l) := by
  obtain ⟨i0, hi0, hz0, hz1, hz2⟩ := info_parts int_info
  have HI := Lib.hid hi0
  have HZ0 := Lib.hid hz0
  have HZ1 := Lib.hid hz1
  have HZ2 := Lib.hid hz2
  have r0 := duo_lit w (.slice A n c) (.slice B n d) 28
  have b0 := new_below w (.cells #[.slice A n c, .slice B n d] 28)
  have hA0 := hA.keep (.of_below T b0)
  have HLO := Lib.hid lO
  have HL := Lib.hid hl
  have hU : (ownersL O).length ≤ n := by rw [lO]; exact ownersL_length O
  obtain ⟨U, hUU⟩ : ∃ U, (ownersL O).length = U := ⟨_, rfl⟩
  rw [hUU] at hU
  have HU := Lib.hid hUU
  clear hA lO hi0 hz0 hz1 hz2 hl hUU
  go_enter Try.func24, Try.ntmps24
  go_upto_region 1 with fail
  generalize w.alloc (.cells #[.slice A n c, .slice B n d] 28) = W at *
  obtain ⟨⟨e0, _⟩, _⟩ := duo_any r0
  have hlt := r0.lt
  have HA0 := Lib.hid hA0
  have B0 := Lib.hid b0
  have HW : Hid (OutAt W W O [] none 0 0) := ⟨World.ownsRow_nil _ _ _ _, rfl, Below.refl _ _, Nat.zero_le _⟩
  have HS : Hid (MoreAt O [] 0 true) := .inl ⟨rfl, _, Told.start O⟩
  clear r0 b0 hA0
  go_wp2
  go_loopw [3, 4, 5] (fun o la mo wr => ∃ (out : List Nat) (A' : Option Addr) (lp cc last : Nat) (m : Bool), o = .slice A' lp cc ∧ la = .int .i64 last ∧ mo = .bool m ∧ Hid (OutAt W wr O out A' lp cc) ∧ Hid (MoreAt O out last m)) (fun o _ mo _ => if onV mo = 1 then U + 1 - lenV o else 0)
  case atStart => exact ⟨[], none, 0, 0, 0, true, rfl, rfl, rfl, HW, HS⟩
  case round =>
    clear HW HS
    obtain ⟨out, A', lp, cc, last, m, rfl, rfl, rfl, HO, HM⟩ := hrel
    have e0' : wr.cell? ⟨w.heap.size, 0, none⟩ = some (.slice A n c) := (HO.out.2.2.1.cell (p := ⟨w.heap.size, 0, none⟩) hlt).trans e0
    cases m with
    | false =>
      have hout : out = ownersL O := by
        rcases HM.out with ⟨h, _⟩ | ⟨_, h⟩
        · cases h
        · exact h
      clear e0
      go_wp2
      go_ret
      subst hout
      have h1 := HO.out.1
      rw [HL.out] at h1
      exact ⟨_, rfl, (own_list h1 (by rw [← HL.out]; exact HO.out.2.1.symm)).more B0.out.size, step_below B0.out HO.out.2.2.1⟩
    | true =>
      obtain ⟨rest, ht⟩ : ∃ rest, Told O out last rest := by
        rcases HM.out with ⟨_, h⟩ | ⟨h, _⟩
        · exact h
        · cases h
      have HT := Lib.hid ht
      obtain ⟨mm, hmm⟩ : ∃ mm, minAb last O 0 = mm := ⟨_, rfl⟩
      have HK0 : Hid (minAb last (O.drop 0) 0 = mm) := by show _ = _; rw [List.drop_zero]; exact hmm
      have HMM := Lib.hid hmm
      have HAW := Lib.hid (HA0.out.keep (.of_below T HO.out.2.2.1))
      clear ht hmm HM e0
      go_wp2
      go_loopw [6, 7] (fun nx i wi => ∃ k x : Nat, nx = .int .i64 x ∧ i = .int .i64 k ∧ k ≤ n ∧ Hid (minAb last (O.drop k) x = mm) ∧ wr = wi) (fun _ i _ => n - (RowKit.intOf i).toNat)
      case atStart => exact ⟨0, 0, rfl, rfl, Nat.zero_le _, HK0, rfl⟩
      case round =>
        clear HK0
        obtain ⟨k, x, rfl, rfl, hk, HK, rfl⟩ := hrel
        by_cases hkn : k < n
        · have hki : 0 ≤ (k : Int) ∧ (k : Int) < (n : Int) := by omega
          obtain ⟨y, hyo⟩ : ∃ y, O[k]? = some y := ⟨_, List.getElem?_eq_getElem (by have := HLO.out; omega)⟩
          obtain ⟨bo, oo, rfl, _, _, d0⟩ := ints_cellF HAW.out hyo
          have hstep : minAb last (O.drop (k + 1)) (if last < y ∧ (x = 0 ∨ y < x) then y else x) = mm := by
            have hkl : k < O.length := by have := HLO.out; omega
            have e := HK.out
            rw [List.drop_eq_getElem_cons hkl] at e
            have e2 : O[k]'hkl = y := by rw [List.getElem?_eq_getElem hkl] at hyo; injection hyo
            rw [e2] at e
            exact e
          by_cases h1 : last < y
          · have d1 : (last : Int) < (y : Int) := by omega
            by_cases h2 : x = 0
            · subst h2
              have HK2 : Hid (minAb last (O.drop (k + 1)) y = mm) := by
                rw [if_pos ⟨h1, .inl rfl⟩] at hstep
                exact hstep
              clear hstep hyo HK h1
              go_wp2
              go_roundw
              case rel => exact ⟨k + 1, y, rfl, by go_num, by omega, HK2, trivial⟩
              case measure => simp [RowKit.intOf]; omega
            · have d2 : ((x : Int) == 0) = false := by simp; omega
              by_cases h3 : y < x
              · have d3 : (y : Int) < (x : Int) := by omega
                have HK2 : Hid (minAb last (O.drop (k + 1)) y = mm) := by
                  rw [if_pos ⟨h1, .inr h3⟩] at hstep
                  exact hstep
                clear hstep hyo HK h1 h2 h3
                go_wp2
                go_roundw
                case rel => exact ⟨k + 1, y, rfl, by go_num, by omega, HK2, trivial⟩
                case measure => simp [RowKit.intOf]; omega
              · have d3 : ¬ (y : Int) < (x : Int) := by omega
                have HK2 : Hid (minAb last (O.drop (k + 1)) x = mm) := by
                  rw [if_neg (fun h => h.2.elim h2 h3)] at hstep
                  exact hstep
                clear hstep hyo HK h1 h2 h3
                go_wp2
                go_roundw
                case rel => exact ⟨k + 1, x, rfl, by go_num, by omega, HK2, trivial⟩
                case measure => simp [RowKit.intOf]; omega
          · have d1 : ¬ (last : Int) < (y : Int) := by omega
            have HK2 : Hid (minAb last (O.drop (k + 1)) x = mm) := by
              rw [if_neg (fun h => h1 h.1)] at hstep
              exact hstep
            clear hstep hyo HK h1
            go_wp2
            go_roundw
            case rel => exact ⟨k + 1, x, rfl, by go_num, by omega, HK2, trivial⟩
            case measure => simp [RowKit.intOf]; omega
        · obtain rfl : k = n := by omega
          have hxm : x = mm := by
            have e := HK.out
            rw [List.drop_of_length_le (Nat.le_of_eq HLO.out.symm)] at e
            exact e
          subst hxm
          have hlpU : lp ≤ U := by have := HO.out.2.2.2; rw [HU.out] at this; exact this
          have HT2 := HT.out
          cases rest with
          | nil =>
            have h0 := HT2.none
            rw [HMM.out] at h0
            subst h0
            have hout : out = ownersL O := by have := HT2.1; rw [List.append_nil] at this; exact this.symm
            have HM2 : Hid (MoreAt O out last false) := .inr ⟨rfl, hout⟩
            clear HT2 HK hout HMM HT
            go_wp2
            go_roundw
            case rel => exact ⟨out, A', lp, cc, last, false, rfl, rfl, rfl, HO, HM2⟩
            case measure => simp [onV, lenV]; omega
          | cons r rest =>
            obtain ⟨hr1, hr2, hr3⟩ := HT2.next
            rw [HMM.out] at hr1
            subst hr1
            have d1 : (0 : Int) < (x : Int) := by omega
            have hlp1 : lp + 1 ≤ U := by
              have := congrArg List.length HT2.1
              rw [HU.out, List.length_append, List.length_cons, HO.out.2.1] at this
              omega
            have HM2 : Hid (MoreAt O (out ++ [x]) x true) := .inl ⟨rfl, _, hr3⟩
            have HB : Hid (Below W.heap.size W (wr.alloc (.cells #[.int .i64 (x : Int)] 3))) := HO.out.2.2.1.alloc HO.out.2.2.1.size _
            clear HT2 HK HMM HT hr2 hr3
            go_wp2_with (at_builtin; refine wpList_append_own _ rfl _ _ 26 rfl W.heap.size 3 i0 (.int .i64 0) 1 8 Try.underlying26 HI.out HZ0.out HZ1.out HZ2.out rfl (by decide) _ _ _ rfl (HO.out.1.alloc _) ⟨wr.heap.size, 0, none⟩ 1 1 [.int .i64 x] rfl rfl (new_one _ _ _) (one_int _ _) (by unfold maxLen; omega) (by omega) HB.out.size ?_; intro v' w4 hown2 hgr2 _)
            have HB5 := Lib.hid (HB.out.grown hgr2 HB.out.size fun j hj => (HO.out.1.lt j hj).1)
            rw [show vals out ++ [.int .i64 (x : Int)] = vals (out ++ [x]) by rw [vals_append]; rfl] at hown2
            have hl5 : (out ++ [x]).length = lp + 1 := by rw [List.length_append, HO.out.2.1]; rfl
            obtain ⟨A5, c5, rfl, _⟩ := own_len hown2
            have H5 : Hid (OutAt W w4 O (out ++ [x]) A5 (lp + 1) c5) := ⟨hown2, hl5, HB5.out, by rw [HU.out]; exact hlp1⟩
            clear hown2 hgr2 hl5 HB5
            go_wp2
            go_roundw
            case rel => exact ⟨out ++ [x], A5, lp + 1, c5, x, true, rfl, rfl, rfl, H5, HM2⟩
            case measure => simp [onV, lenV]; omega
end
end Go.Proofs.Ytiidkfcblnkghaa
