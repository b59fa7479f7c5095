/- Words on slices of texts: what they read as; what the call's own row of texts reads as; what SameTexts returns: a contract. -/
import Derived.Test.YtcafppconcghhaaDoorBaseText
namespace Go.Proofs.YtcafppconcghhaaDoor
open Go.RowKit

def textV (l : List UInt8) : Value := .string (mkT l)
/-- v is a slice that reads as the texts L. -/
def TextsAt (w : World) (v : Value) (L : List (List UInt8)) : Prop := ∃ A c, v = .slice A L.length c ∧ ∀ (j : Nat) (x : List UInt8), L[j]? = some x → ∃ b off, A = some ⟨b, off, none⟩ ∧ b < w.heap.size ∧ w.cell? ⟨b, off + j, none⟩ = some (textV x)
theorem TextsAt.below {w w' : World} {v : Value} {L : List (List UInt8)} (h : TextsAt w v L) (hb : Below w.heap.size w w') : TextsAt w' v L := by
  obtain ⟨A, c, e, h1⟩ := h
  refine ⟨A, c, e, fun j x hx => ?_⟩
  obtain ⟨b, off, e1, h2, h3⟩ := h1 j x hx
  exact ⟨b, off, e1, Nat.lt_of_lt_of_le h2 hb.size, (hb.cell (p := ⟨b, off + j, none⟩) h2).trans h3⟩
theorem TextsAt.drewN {w : World} {v : Value} {L : List (List UInt8)} (h : TextsAt w v L) (n : Nat) : TextsAt (w.drewN n) v L := h
theorem own_texts {w : World} {base n : Nat} {v : Value} {L : List (List UInt8)} (h : w.ownsRow base 9 1 v n (L.map textV)) (hn : n = L.length) : TextsAt w v L := by
  subst hn
  rcases h.2 with ⟨rfl, hn⟩ | ⟨g, cap, cur, rfl, hb, hg, _, _, _, _⟩
  · refine ⟨none, 0, by rw [hn], fun j x hx => ?_⟩
    rw [List.eq_nil_of_length_eq_zero hn] at hx
    cases hx
  · refine ⟨some ⟨g, 0, none⟩, cap, rfl, fun j x hx => ⟨g, 0, rfl, (Array.getElem?_eq_some_iff.1 hg).1, ?_⟩⟩
    have hj := (List.getElem?_eq_some_iff.1 hx).1
    have := World.ownsRow.cellAt h j (by omega)
    rw [Nat.zero_add, this, List.getElem?_map, hx]
    rfl
theorem string_info : (Tryd.prog.info? 9).map (fun i => (i.zero, i.size, i.bytes)) = some (some (.string ⟨#[]⟩), 1, 16) := by kernel_rfl

/-! ### SameTexts -/
def sameTexts (L M : List (List UInt8)) : Bool := decide (L = M)
theorem texts_bne (x y : List UInt8) : ((mkT x).toList == (mkT y).toList) = decide (x = y) := by
  rw [ByteArray.toList_eq, ByteArray.toList_eq, Bool.eq_iff_iff, beq_iff_eq, decide_eq_true_iff]
set_option maxHeartbeats 1000000 in
theorem same_texts {w : World} {v v' : Value} {L M : List (List UInt8)} (hx : TextsAt w v L) (hy : TextsAt w v' M) (hm : M.length ≤ 1048576) {r : Bool} (hr : sameTexts L M = r) :
    Calls Tryd.prog 18 #[v, v'] w fun e w' => e = .returned (.bool r) ∧ ∃ n, w' = w.drewN n := by
  obtain ⟨A, c, rfl, hA⟩ := hx
  obtain ⟨A', c', rfl, hA'⟩ := hy
  have HA := Lib.hid hA
  have HA' := Lib.hid hA'
  have HR := Lib.hid hr
  clear hA hA' hr
  by_cases he : L.length = M.length
  · have HM := Lib.hid he
    rw [← he] at hm ⊢
    obtain ⟨n, hn⟩ : ∃ n, L.length = n := ⟨_, rfl⟩
    have HN := Lib.hid hn
    rw [hn] at hm ⊢
    have hbb : ((n : Int) != (n : Int)) = false := by simp
    clear he hn
    go_enter Tryd.func18, Tryd.ntmps18
    go_wp2
    go_loopw [5] (fun i wr => ∃ k q : Nat, k ≤ n ∧ i = .int .i64 k ∧ wr = w.drewN q ∧ Hid (∀ j, j < k → L[j]? = M[j]?)) (fun i _ => n - (RowKit.intOf i).toNat)
    case atStart => exact ⟨0, 0, by omega, rfl, rfl, fun j hj => by omega⟩
    case round =>
      obtain ⟨k, q, hk, rfl, rfl, hh⟩ := hrel
      by_cases hlt : k < n
      · have hxl : k < L.length := by have := HN.out; omega
        have hyl : k < M.length := by have := HN.out; have := HM.out; omega
        have HQ : Hid (L[k]? = some (L[k]'hxl)) := List.getElem?_eq_getElem hxl
        have HQ' : Hid (M[k]? = some (M[k]'hyl)) := List.getElem?_eq_getElem hyl
        obtain ⟨b, off, rfl, hb1, hc1⟩ := HA.out k _ HQ.out
        obtain ⟨b', off', rfl, hb2, hc2⟩ := HA'.out k _ HQ'.out
        have hi : 0 ≤ (k : Int) ∧ (k : Int) < (n : Int) := by omega
        have hcmp := texts_bne (L[k]'hxl) (M[k]'hyl)
        generalize L[k]'hxl = x at *
        generalize M[k]'hyl = y at *
        clear hb1 hb2
        by_cases hxy : x = y
        · subst hxy
          clear hcmp
          unfold textV at hc1 hc2
          generalize mkT x = X at *
          go_wp2
          go_quiet (fail)
          go_wp2
          go_roundw
          case rel =>
            refine ⟨k + 1, q + nq, by omega, by go_num, rfl, fun j hj => ?_⟩
            by_cases e : j = k
            · rw [e, HQ.out, HQ'.out]
            · exact hh.out j (by omega)
          case measure => simp [RowKit.intOf]; omega
        · rw [decide_eq_false hxy] at hcmp
          have hr : false = r := by
            rw [← HR.out]
            unfold sameTexts
            exact (decide_eq_false fun e => hxy (by
              have h1 := HQ.out
              rw [e, HQ'.out] at h1
              injection h1 with h1
              exact h1.symm)).symm
          subst hr
          unfold textV at hc1 hc2
          clear hxy
          generalize mkT x = X at *
          generalize mkT y = Y at *
          go_wp2
          go_quiet (fail)
          go_wp2
          go_ret
          exact ⟨rfl, q + nq, World.drewN_drewN _ _ _⟩
      · have hr : true = r := by
          rw [← HR.out]
          unfold sameTexts
          refine (decide_eq_true (List.ext_getElem? fun j => ?_)).symm
          by_cases hj : j < k
          · exact hh.out j hj
          · have h1 := HN.out
            have h2 := HM.out
            rw [List.getElem?_eq_none (by omega), List.getElem?_eq_none (by omega)]
        subst hr
        go_wp2
        go_ret
        exact ⟨rfl, _, rfl⟩
  · have hr : false = r := by
      rw [← HR.out]
      unfold sameTexts
      exact (decide_eq_false fun e => he (by rw [e])).symm
    subst hr
    have hbb : ((L.length : Int) != (M.length : Int)) = true := by
      rw [bne_iff_ne]
      omega
    have hbb2 : ((L.length : Int) == (M.length : Int)) = false := by
      rw [beq_eq_false_iff_ne]
      omega
    go_enter Tryd.func18, Tryd.ntmps18
    go_wp2
    go_ret
    exact ⟨rfl, 0, rfl⟩
end Go.Proofs.YtcafppconcghhaaDoor
