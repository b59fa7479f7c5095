/- Layer 11 (digits): what the program's Words returns: a contract. -/
import Derived.Test.YtcafppconcghhaaDoorDigitsWords
import Derived.Laws.AppendOwn
namespace Go.Proofs.YtcafppconcghhaaDoor
open Go.RowKit

/-- The words, and true; none and false. -/
def wordsE (l : List UInt8) : List (List UInt8) × Bool := match wordsO l with
  | some L => (L, true)
  | none => ([], false)
theorem part_more {s : ByteArray} {a b : Nat} (h : a ≤ b) (hb : b < s.size) : txt (s.extract a (b + 1)) = txt (s.extract a b) ++ [byteAt s b] := by
  rw [txt_extract, txt_extract, show b + 1 - a = (b - a) + 1 by omega]
  have hb' : b - a < ((txt s).drop a).length := by rw [List.length_drop, txt_len]; omega
  rw [List.take_succ_eq_append_getElem hb']
  congr 2
  rw [List.getElem_drop, byteAt_txt, List.getElem?_eq_getElem (by rw [txt_len]; exact hb), Option.getD_some]
  congr 1
  omega
theorem part_nil {s : ByteArray} (a : Nat) : txt (s.extract a a) = [] := by rw [txt_extract, Nat.sub_self, List.take_zero]
theorem part_ne {s : ByteArray} {a b : Nat} (h : a < b) (hb : b ≤ s.size) : txt (s.extract a b) ≠ [] := fun e => by
  have h1 := congrArg List.length e
  rw [txt_len, ByteArray.size_extract] at h1
  simp at h1
  omega

theorem own_below {w w' : World} {base n : Nat} {t : TypeId} {v : Value} {xs : List Value} (h : w.ownsRow base t 1 v n xs) (hb : Below w.heap.size w w') : w'.ownsRow base t 1 v n xs := by
  refine ⟨h.1, h.2.imp_right ?_⟩
  rintro ⟨g, cap, cur, e, h1, h2, h3⟩
  exact ⟨g, cap, cur, e, h1, (hb.block g (Array.getElem?_eq_some_iff.1 h2).1).trans h2, h3⟩
theorem own_snoc {w : World} {base : Nat} {v : Value} {M : List (List UInt8)} {x : List UInt8} {X : ByteArray} (hx : textV x = .string X) (h : w.ownsRow base 9 1 v (M.length + 1) (M.map textV ++ [.string X])) : w.ownsRow base 9 1 v (M ++ [x]).length ((M ++ [x]).map textV) := by
  rw [List.length_append, List.map_append, List.map_singleton, hx]
  exact h
set_option maxHeartbeats 4000000 in
theorem words_is (w : World) (s : ByteArray) (hs : s.size ≤ 300) {L : List (List UInt8)} {k : Bool} (hr : wordsE (txt s) = (L, k)) : Calls Tryd.prog 14 #[.string s] w fun e w' => ∃ v, e = .returned (.tuple #[v, .bool k]) ∧ TextsAt w' v L ∧ Below w.heap.size w w' := by
  obtain ⟨i0, hi0, hz0, hz1, hz2⟩ := info_parts string_info
  by_cases hz : s.size = 0
  · have e0 : txt s = [] := txt_nil hz
    rw [e0] at hr
    injection hr with e1 e2
    subst e1 e2
    have hem : s.toList.isEmpty = true := by rw [ByteArray.toList_eq]; show (txt s).isEmpty = true; rw [e0]; rfl
    go_enter Tryd.func14, Tryd.ntmps14
    go_wp2
    go_ret2
    exact ⟨_, rfl, ⟨none, 0, rfl, fun j x hx => by cases hx⟩, Below.refl _ _⟩
  · have hem : s.toList.isEmpty = false := by
      rw [ByteArray.toList_eq]
      cases h : s.data.toList with
      | nil => exact absurd (by rw [← txt_len, show txt s = [] from h]; rfl) hz
      | cons _ _ => rfl
    have HR : Hid ((match wordsL [] (txt s) with
      | some L => (L, true)
      | none => ([], false)) = (L, k)) := by
      show _ = _
      rw [← hr]
      unfold wordsE wordsO
      rw [if_neg fun e => hz (by rw [← txt_len, e]; rfl)]
    clear hr
    have B0 := (Below.refl w.heap.size w).alloc (Nat.le_refl _) (.stringIter s 0)
    obtain ⟨m, hm⟩ : ∃ m, s.size = m := ⟨_, rfl⟩
    rw [hm] at hs hz
    go_enter Tryd.func14, Tryd.ntmps14
    go_wp2
    go_loopw [4, 5] (fun v b wr => ∃ (pos fr : Nat) (M : List (List UInt8)), wr.heap[w.heap.size]? = some (.stringIter s pos) ∧ b = .int .i64 fr ∧ fr ≤ pos ∧ pos ≤ m ∧ wr.ownsRow (w.heap.size + 1) 9 1 v M.length (M.map textV) ∧ M.length ≤ fr ∧ Hid ((wordsL (txt (s.extract fr pos)) (left s pos)).map (M ++ ·) = wordsL [] (txt s)) ∧ Below w.heap.size w wr) (fun _ _ wr => m - wr.iterPos w.heap.size)
    case atStart =>
      refine ⟨0, 0, [], World.iter_heap w s 0, rfl, Nat.le_refl _, Nat.zero_le _, World.ownsRow_nil _ _ _ _, Nat.le_refl _, ?_, B0⟩
      show Option.map _ (wordsL (txt (s.extract 0 0)) (txt s)) = wordsL [] (txt s)
      rw [part_nil]
      cases wordsL [] (txt s) <;> rfl
    case round =>
      obtain ⟨pos, fr, M, hit, rfl, hfp, hpm, hown, hMl, HV, hbw⟩ := hrel
      have hpos0 := iterPos_of hit
      by_cases hp : pos < m
      · obtain ⟨R, q, hR, hq, hlow, hhigh, W1, hnx, hit1, hoth, hsz, hbel⟩ := next_step (s := s) hit (by omega)
        have hb1 := hbel _ _ hbw (Nat.le_refl _)
        have hv := HV.out
        rw [left_lt (by omega)] at hv
        have hin := rune_in (fun h => (hlow h).1) hhigh
        have hown1 : W1.ownsRow (w.heap.size + 1) 9 1 _ M.length (M.map textV) := ⟨hown.1, hown.2.imp_right fun ⟨g, cap, cur, e, h1, h2, h3⟩ => ⟨g, cap, cur, e, h1, (hoth g (by omega)).trans h2, h3⟩⟩
        have hhi := Lib.hid hhigh
        clear HV hbel hbw hhigh hown hit hoth
        cases hi : inW (byteAt s pos) with
        | true =>
          rw [hi] at hin
          have hq1 : q = pos + 1 := (hlow (by
            unfold inW at hi
            have := of_decide_eq_true hi
            omega)).2
          subst hq1
          have HV : Hid ((wordsL (txt (s.extract fr (pos + 1))) (left s (pos + 1))).map (M ++ ·) = wordsL [] (txt s)) := by
            show _ = _
            rw [← hv, part_more hfp (by omega)]
            congr 1
            show _ = if _ then _ else _
            rw [if_pos hi]
          have HI := Lib.hid fun W : World => inWord_is W hin
          have HO := Lib.hid hown1
          clear hlow hin hi hv hown1
          go_wp2_with fail
          refine (HI.out _).mono ?_
          rintro e w2 ⟨rfl, rfl⟩
          go_wp2
          go_roundw
          case rel => exact ⟨pos + 1, fr, M, hit1, rfl, by omega, hp, HO.out, hMl, HV, hb1⟩
          case measure =>
            rw [iterPos_of hit1, hpos0]
            omega
        | false =>
          rw [hi] at hin
          have HI := Lib.hid fun W : World => inWord_is W hin
          by_cases hbl : (byteAt s pos).toNat = 32 ∧ fr < pos
          · obtain ⟨hbl1, hbl2⟩ := hbl
            obtain ⟨hR32, hq1⟩ := hlow (by omega)
            rw [hbl1] at hR32
            subst hR32 hq1
            have HV : Hid ((wordsL (txt (s.extract (pos + 1) (pos + 1))) (left s (pos + 1))).map ((M ++ [txt (s.extract fr pos)]) ++ ·) = wordsL [] (txt s)) := by
              show _ = _
              rw [← hv, part_nil]
              show _ = Option.map _ (if _ then _ else _)
              rw [if_neg (by rw [hi]; decide), if_pos ⟨hbl1, part_ne hbl2 (by omega)⟩, Option.map_map]
              congr 1
              funext l
              show _ = M ++ (txt (s.extract fr pos) :: l)
              rw [List.append_assoc]
              rfl
            have hbl3 : (fr : Int) < (pos : Int) := by omega
            have hcut := fun W => str_mid W s (a := fr) (b := pos) (by omega) (by omega)
            have hXs : (s.extract fr pos).size ≤ 1048576 := by rw [ByteArray.size_extract]; omega
            have hXt : textV (txt (s.extract fr pos)) = .string (s.extract fr pos) := rfl
            have HX := Lib.hid hXt
            have HC : Hid (∀ W, Calls Tryd.prog 30 #[.string (s.extract fr pos)] W fun e w' => e = .returned (.string (s.extract fr pos)) ∧ Below W.heap.size W w') := fun W => clone_is W _ hXs
            have HO := Lib.hid hown1
            have hlt := Array.getElem?_eq_some_iff.1 hit1
            have hlt := hlt.1
            clear hlow hin hi hv hown1 hXs hXt
            generalize txt (s.extract fr pos) = x at *
            generalize s.extract fr pos = X at *
            have hit2 := fun (w2 : World) (hb : Below W1.heap.size W1 w2) => (hb.block _ hlt).trans hit1
            go_wp2_with fail
            refine (HI.out _).mono ?_
            rintro e w2 ⟨rfl, rfl⟩
            go_wp2_with fail
            refine (HC.out _).mono ?_
            rintro e w3 ⟨rfl, hb3⟩
            have hown3 := own_below HO.out hb3
            have hit3 := hit2 w3 hb3
            have hb13 := hb1.trans (hb3.mono (by omega))
            have hs3 := hb3.size
            clear hit2 hb3
            go_wp2_with (at_builtin; refine wpList_append_own _ rfl _ _ 29 rfl (w.heap.size + 1) 9 i0 (.string ⟨#[]⟩) 1 16 Tryd.underlying29 hi0 hz0 hz1 hz2 rfl (by decide) _ _ _ rfl (hown3.alloc _) ⟨w3.heap.size, 0, none⟩ 1 1 [.string X] rfl rfl ?c1 ?c2 ?c3 ?c4 ?c5 ?_)
            case c1 =>
              intro j u hj
              match j, hj with
              | 0, hj => simp at hj; subst hj; simp [Addr.add]
            case c2 => intro u hu; simp at hu; subst hu; rfl
            case c3 => unfold maxLen; omega
            case c4 => omega
            case c5 => simp; omega
            intro v' w4 hown4 hgrow _
            have hit4 : w4.heap[w.heap.size]? = some (.stringIter s (pos + 1)) := by
              rw [hgrow.block _ (by simp; omega) (fun h => by have := (hown3.lt _ h.symm).1; omega), Lib.alloc_old w3 _ _ (by omega)]
              exact hit3
            have hb4 : Below w.heap.size w w4 := Below.grown (hb13.alloc (by omega) _) hgrow (by simp; omega) (fun j hj => by have := (hown3.lt _ hj).1; omega)
            have hown5 := Lib.hid (own_snoc HX.out hown4)
            clear hown4 hgrow hown3
            go_wp2
            go_roundw
            case rel => exact ⟨pos + 1, pos + 1, M ++ [x], hit4, rfl, Nat.le_refl _, hp, hown5.out, by rw [List.length_append, List.length_singleton]; omega, HV, hb4⟩
            case measure =>
              rw [iterPos_of hit4, hpos0]
              omega
          · have hkn : ([], false) = (L, k) := by
              rw [← HR.out, ← hv]
              have : wordsL (txt (s.extract fr pos)) (byteAt s pos :: left s (pos + 1)) = none := by
                show (if _ then _ else _) = none
                rw [if_neg (by rw [hi]; decide), if_neg]
                rintro ⟨h1, h2⟩
                refine hbl ⟨h1, ?_⟩
                rcases Nat.lt_or_ge fr pos with h | h
                · exact h
                · obtain rfl : fr = pos := by omega
                  exact absurd (part_nil _) h2
              rw [this]
              rfl
            injection hkn with e1 e2
            subst e1 e2
            have HG : Hid ((R = 32 ∧ ¬ fr < pos) ∨ ¬ R = 32) := by
              show _ ∨ _
              by_cases h32 : R = 32
              · refine .inl ⟨h32, fun hlt => hbl ⟨?_, hlt⟩⟩
                rcases Nat.lt_or_ge (byteAt s pos).toNat 128 with h | h
                · rw [← (hlow h).1, h32]
                · have := hhi.out h
                  omega
              · exact .inr h32
            clear hlow hin hi hv hown1 HR hbl hhi
            go_wp2_with fail
            refine (HI.out _).mono ?_
            rintro e w2 ⟨rfl, rfl⟩
            rcases HG.out with ⟨h1, h2⟩ | h1
            · have h3 : (R : Int) = 32 := by omega
              have h4 : ¬ (fr : Int) < (pos : Int) := by omega
              go_wp2
              go_ret2
              exact ⟨_, rfl, ⟨none, 0, rfl, fun j x hx => by cases hx⟩, hb1⟩
            · have h3 : ¬ (R : Int) = 32 := by omega
              go_wp2
              go_ret2
              exact ⟨_, rfl, ⟨none, 0, rfl, fun j x hx => by cases hx⟩, hb1⟩
      · have hpe : pos = m := by omega
        subst hpe
        have hnx := next_end (s := s) hit (by omega)
        have hv := HV.out
        rw [left_end (by omega)] at hv
        have hr := HR.out
        rw [← hv] at hr
        clear HV HR hv
        by_cases he : fr = pos
        · subst he
          rw [part_nil] at hr
          have hr : ([], false) = (L, k) := hr
          injection hr with e1 e2
          subst e1 e2
          go_wp2
          go_ret2
          exact ⟨_, rfl, ⟨none, 0, rfl, fun j x hx => by cases hx⟩, hbw⟩
        · have hne : txt (s.extract fr pos) ≠ [] := part_ne (by omega) (by omega)
          have hr : (match (if txt (s.extract fr pos) = [] then none else some [txt (s.extract fr pos)] : Option (List (List UInt8))).map (M ++ ·) with
            | some L => (L, true)
            | none => ([], false)) = (L, k) := hr
          rw [if_neg hne] at hr
          injection hr with e1 e2
          subst e1 e2
          have he1 : ¬ (fr : Int) = (pos : Int) := by omega
          have hcut : ∀ W, (Instr.slice 9 (.string s) (some (.int .i64 (fr : Int))) none none).run Tryd.prog W = .ok (.string (s.extract fr pos)) W := fun W => by
            have h := str_high W s (a := fr) (by omega)
            rw [hm] at h
            exact h
          have hXs : (s.extract fr pos).size ≤ 1048576 := by rw [ByteArray.size_extract]; omega
          obtain ⟨x, hxe⟩ : ∃ x, txt (s.extract fr pos) = x := ⟨_, rfl⟩
          have HXE := Lib.hid hxe
          have HX : Hid (textV x = .string (s.extract fr pos)) := by
            show _ = _
            rw [← hxe]
            rfl
          have HC : Hid (∀ W, Calls Tryd.prog 30 #[.string (s.extract fr pos)] W fun e w' => e = .returned (.string (s.extract fr pos)) ∧ Below W.heap.size W w') := fun W => clone_is W _ hXs
          have HO := Lib.hid hown
          have hlt := (Array.getElem?_eq_some_iff.1 hit).1
          clear hown hXs hxe hne he hem
          obtain ⟨X, hXe⟩ : ∃ X, s.extract fr pos = X := ⟨_, rfl⟩
          have HXE2 := Lib.hid hXe
          rw [hXe] at HX HC hcut
          clear hXe
          go_wp2_with fail
          refine (HC.out _).mono ?_
          rintro e w3 ⟨rfl, hb3⟩
          have hown3 := own_below HO.out hb3
          have hb13 := hbw.trans (hb3.mono (by omega))
          have hs3 := hb3.size
          clear hb3
          go_wp2_with (at_builtin; refine wpList_append_own _ rfl _ _ 29 rfl (w.heap.size + 1) 9 i0 (.string ⟨#[]⟩) 1 16 Tryd.underlying29 hi0 hz0 hz1 hz2 rfl (by decide) _ _ _ rfl (hown3.alloc _) ⟨w3.heap.size, 0, none⟩ 1 1 [.string X] rfl rfl ?c1 ?c2 ?c3 ?c4 ?c5 ?_)
          case c1 =>
            intro j u hj
            match j, hj with
            | 0, hj => simp at hj; subst hj; simp [Addr.add]
          case c2 => intro u hu; simp at hu; subst hu; rfl
          case c3 => unfold maxLen; omega
          case c4 => omega
          case c5 => simp; omega
          intro v' w4 hown4 hgrow _
          have hb4 : Below w.heap.size w w4 := Below.grown (hb13.alloc (by omega) _) hgrow (by simp; omega) (fun j hj => by have := (hown3.lt _ hj).1; omega)
          have hown5 := Lib.hid (own_texts (own_snoc HX.out hown4) rfl)
          clear hown4 hgrow hown3
          go_wp2
          go_ret2
          exact ⟨_, rfl, by rw [HXE.out]; exact hown5.out, hb4⟩
end Go.Proofs.YtcafppconcghhaaDoor
