/- Layer 11 (digits): what the document's Words returns: a contract. -/
import Derived.Test.YtcafppconcghhaaDoorDigitsWordsP
namespace Go.Proofs.YtcafppconcghhaaDoor
open Go.RowKit

theorem wordsR_cons (cur r : List UInt8) (b : UInt8) : wordsR cur (b :: r) = if b.toNat = 32 then (if wordV cur = true then (wordsR [] r).map (cur :: ·) else none) else wordsR (cur ++ [b]) r := rfl
set_option maxHeartbeats 4000000 in
theorem refWords_is (w : World) (s : ByteArray) (hs : s.size ≤ 300) {L : List (List UInt8)} {k : Bool} (hr : wordsE (txt s) = (L, k)) : Calls Tryd.prog 15 #[.string s] w fun e w' => ∃ v, e = .returned (.tuple #[v, .bool k]) ∧ TextsAt w' v L ∧ Below w.heap.size w w' := by
  obtain ⟨i0, hi0, hz0, hz1, hz2⟩ := info_parts string_info
  by_cases hz : s.size = 0
  · have e0 : txt s = [] := txt_nil hz
    rw [e0] at hr
    injection hr with e1 e2
    subst e1 e2
    have hem : s.toList.isEmpty = true := by rw [ByteArray.toList_eq]; show (txt s).isEmpty = true; rw [e0]; rfl
    go_enter Tryd.func15, Tryd.ntmps15
    go_wp2
    go_ret2
    exact ⟨_, rfl, ⟨none, 0, rfl, fun j x hx => by cases hx⟩, Below.refl _ _⟩
  · have hem : s.toList.isEmpty = false := by
      rw [ByteArray.toList_eq]
      cases h : s.data.toList with
      | nil => exact absurd (by rw [← txt_len, show txt s = [] from h]; rfl) hz
      | cons _ _ => rfl
    have HR : Hid ((match wordsR [] (txt s) with
      | some L => (L, true)
      | none => ([], false)) = (L, k)) := by
      show _ = _
      rw [← hr]
      unfold wordsE
      rw [wordsO_ref fun e => hz (by rw [← txt_len, e]; rfl)]
      cases wordsR [] (txt s) <;> rfl
    clear hr
    obtain ⟨m, hm⟩ : ∃ m, s.size = m := ⟨_, rfl⟩
    rw [hm] at hs hz
    have HW : Hid (∀ (a b : Nat) (r : Bool), wordV (txt (s.extract a b)) = r → ∀ W, Calls Tryd.prog 17 #[.string (s.extract a b)] W fun e w' => e = .returned (.bool r) ∧ W = w') := fun a b r h W => refWord_is W _ (by rw [ByteArray.size_extract]; omega) h
    go_enter Tryd.func15, Tryd.ntmps15
    go_wp2
    go_loopw [4, 5, 6] (fun v a b wr => ∃ (i fr : Nat) (M : List (List UInt8)), a = .int .i64 fr ∧ b = .int .i64 i ∧ i ≤ m + 1 ∧ wr.ownsRow w.heap.size 9 1 v M.length (M.map textV) ∧ M.length ≤ i ∧ Hid ((i ≤ m ∧ fr ≤ i ∧ (wordsR (txt (s.extract fr i)) (left s i)).map (M ++ ·) = wordsR [] (txt s)) ∨ (i = m + 1 ∧ wordsR [] (txt s) = some M)) ∧ Below w.heap.size w wr) (fun _ _ b _ => m + 1 - (RowKit.intOf b).toNat)
    case atStart =>
      refine ⟨0, 0, [], rfl, rfl, by omega, World.ownsRow_nil _ _ _ _, Nat.le_refl _, .inl ⟨Nat.zero_le _, Nat.le_refl _, ?_⟩, Below.refl _ _⟩
      show Option.map _ (wordsR (txt (s.extract 0 0)) (txt s)) = wordsR [] (txt s)
      rw [part_nil]
      cases wordsR [] (txt s) <;> rfl
    case round =>
      obtain ⟨i, fr, M, rfl, rfl, him, hown, hMl, HV, hbw⟩ := hrel
      by_cases hp : i ≤ m
      · have hp1 : (i : Int) ≤ (m : Int) := by omega
        have hms : m + 1 - (i + 1) < m + 1 - i := by omega
        have hv : fr ≤ i ∧ (wordsR (txt (s.extract fr i)) (left s i)).map (M ++ ·) = wordsR [] (txt s) := by
          rcases HV.out with h | h
          · exact h.2
          · omega
        obtain ⟨hfi, hv⟩ := hv
        have hcut := fun W => str_mid W s (a := fr) (b := i) hfi (by omega)
        have HO := Lib.hid hown
        have hbs := hbw.size
        have HWw := HW.out fr i
        have HW2 : Hid (∀ (r : Bool), wordV (txt (s.extract fr i)) = r → ∀ W, Calls Tryd.prog 17 #[.string (s.extract fr i)] W fun e w' => e = .returned (.bool r) ∧ W = w') := HWw
        have hXt : textV (txt (s.extract fr i)) = .string (s.extract fr i) := rfl
        -- does a part end here?
        by_cases hend : i = m
        · subst hend
          have hi1 : ((i : Int) == (i : Int)) = true := by simp
          rw [left_end (by omega)] at hv
          have hv : (if wordV (txt (s.extract fr i)) = true then some [txt (s.extract fr i)] else none : Option (List (List UInt8))).map (M ++ ·) = wordsR [] (txt s) := hv
          clear HV HW HWw hown
          cases hk : wordV (txt (s.extract fr i)) with
          | false =>
            rw [hk] at hv
            have hr := HR.out
            rw [← hv] at hr
            have hr : ([], false) = (L, k) := hr
            injection hr with e1 e2
            subst e1 e2
            have HC := Lib.hid (HW2.out _ hk)
            clear HW2 hk hv hXt HR
            generalize s.extract fr i = X at *
            go_wp2_with fail
            refine (HC.out _).mono ?_
            rintro e w2 ⟨rfl, rfl⟩
            go_wp2
            go_ret2
            exact ⟨_, rfl, ⟨none, 0, rfl, fun j x hx => by cases hx⟩, hbw⟩
          | true =>
            rw [hk, if_pos rfl] at hv
            have HV : Hid (wordsR [] (txt s) = some (M ++ [txt (s.extract fr i)])) := hv.symm
            have HC := Lib.hid (HW2.out _ hk)
            clear HW2 hk hv HR
            generalize txt (s.extract fr i) = x at *
            generalize s.extract fr i = X at *
            have HX := Lib.hid hXt
            clear hXt
            go_wp2_with fail
            refine (HC.out _).mono ?_
            rintro e w2 ⟨rfl, rfl⟩
            have hown3 := HO.out
            go_wp2_with (at_builtin; refine wpList_append_own _ rfl _ _ 29 rfl w.heap.size 9 i0 (.string ⟨#[]⟩) 1 16 Tryd.underlying29 hi0 hz0 hz1 hz2 rfl (by decide) _ _ _ rfl (hown3.alloc _) ⟨wr.heap.size, 0, none⟩ 1 1 [.string X] rfl rfl ?c1 ?c2 ?c3 ?c4 ?c5 ?_)
            case c1 =>
              intro j u hj
              match j, hj with
              | 0, hj => simp at hj; subst hj; simp [Addr.add]
            case c2 => intro u hu; simp at hu; subst hu; rfl
            case c3 => unfold maxLen; omega
            case c4 => omega
            case c5 => simp; omega
            intro v' w4 hown4 hgrow _
            have hb4 : Below w.heap.size w w4 := Below.grown (hbw.alloc (by omega) _) hgrow (by simp; omega) (fun j hj => by have := (hown3.lt _ hj).1; omega)
            have hown5 := Lib.hid (own_snoc HX.out hown4)
            clear hown4 hgrow hown3
            go_wp2
            go_roundw
            case rel => exact ⟨i + 1, i + 1, M ++ [x], rfl, rfl, Nat.le_refl _, hown5.out, by rw [List.length_append, List.length_singleton]; omega, .inr ⟨rfl, HV.out⟩, hb4⟩
            case measure => exact hms
        · have hi1 : ((i : Int) == (m : Int)) = false := by
            rw [beq_eq_false_iff_ne]
            omega
          have hi2 : ¬ (i : Int) = (m : Int) := by omega
          rw [left_lt (by omega), wordsR_cons] at hv
          obtain ⟨c, hcb⟩ : ∃ c, (byteAt s i).toNat = c := ⟨_, rfl⟩
          have hcl : c < 256 := by rw [← hcb]; exact UInt8.toNat_lt _
          have hix := index_at (s := s) (j := i) (by omega) hcb
          rw [hcb] at hv
          clear HV HW HWw hown
          by_cases hc : c = 32
          · rw [if_pos hc] at hv
            subst hc
            have hix : ∀ W, (Instr.index 9 (.string s) (.int .i64 (i : Int))).run Tryd.prog W = .ok (.int .u8 32) W := hix
            cases hk : wordV (txt (s.extract fr i)) with
            | false =>
              rw [hk] at hv
              have hr := HR.out
              rw [← hv] at hr
              have hr : ([], false) = (L, k) := hr
              injection hr with e1 e2
              subst e1 e2
              have HC := Lib.hid (HW2.out _ hk)
              clear HW2 hk hv hXt HR hcb
              generalize s.extract fr i = X at *
              go_wp2_with fail
              refine (HC.out _).mono ?_
              rintro e w2 ⟨rfl, rfl⟩
              go_wp2
              go_ret2
              exact ⟨_, rfl, ⟨none, 0, rfl, fun j x hx => by cases hx⟩, hbw⟩
            | true =>
              rw [hk, if_pos rfl] at hv
              have HV : Hid ((wordsR (txt (s.extract (i + 1) (i + 1))) (left s (i + 1))).map ((M ++ [txt (s.extract fr i)]) ++ ·) = wordsR [] (txt s)) := by
                show _ = _
                rw [← hv, part_nil, Option.map_map]
                congr 1
                funext l
                show _ = M ++ (txt (s.extract fr i) :: l)
                rw [List.append_assoc]
                rfl
              have HC := Lib.hid (HW2.out _ hk)
              clear HW2 hk hv HR hcb
              generalize txt (s.extract fr i) = x at *
              generalize s.extract fr i = X at *
              have HX := Lib.hid hXt
              clear hXt
              go_wp2_with fail
              refine (HC.out _).mono ?_
              rintro e w2 ⟨rfl, rfl⟩
              have hown3 := HO.out
              go_wp2_with (at_builtin; refine wpList_append_own _ rfl _ _ 29 rfl w.heap.size 9 i0 (.string ⟨#[]⟩) 1 16 Tryd.underlying29 hi0 hz0 hz1 hz2 rfl (by decide) _ _ _ rfl (hown3.alloc _) ⟨wr.heap.size, 0, none⟩ 1 1 [.string X] rfl rfl ?c1 ?c2 ?c3 ?c4 ?c5 ?_)
              case c1 =>
                intro j u hj
                match j, hj with
                | 0, hj => simp at hj; subst hj; simp [Addr.add]
              case c2 => intro u hu; simp at hu; subst hu; rfl
              case c3 => unfold maxLen; omega
              case c4 => omega
              case c5 => simp; omega
              intro v' w4 hown4 hgrow _
              have hb4 : Below w.heap.size w w4 := Below.grown (hbw.alloc (by omega) _) hgrow (by simp; omega) (fun j hj => by have := (hown3.lt _ hj).1; omega)
              have hown5 := Lib.hid (own_snoc HX.out hown4)
              clear hown4 hgrow hown3
              go_wp2
              go_roundw
              case rel => exact ⟨i + 1, i + 1, M ++ [x], rfl, rfl, by omega, hown5.out, by rw [List.length_append, List.length_singleton]; omega, .inl ⟨by omega, Nat.le_refl _, HV.out⟩, hb4⟩
              case measure => exact hms
          · rw [if_neg hc, ← part_more hfi (by omega)] at hv
            have HV := Lib.hid hv
            have hc1 : ¬ (c : Int) = 32 := by omega
            clear hv HW2 hXt HR hcb
            go_wp2
            go_roundw
            case rel => exact ⟨i + 1, fr, M, rfl, rfl, by omega, HO.out, by omega, .inl ⟨by omega, by omega, HV.out⟩, hbw⟩
            case measure => exact hms
      · have hv : wordsR [] (txt s) = some M := by
          rcases HV.out with h | h
          · omega
          · exact h.2
        have hp1 : ¬ (i : Int) ≤ (m : Int) := by omega
        have hr := HR.out
        rw [hv] at hr
        injection hr with e1 e2
        subst e1 e2
        have HT := Lib.hid (own_texts hown rfl)
        clear HV HR hv hown
        go_wp2
        go_ret2
        exact ⟨_, rfl, HT.out, hbw⟩
end Go.Proofs.YtcafppconcghhaaDoor
