/- What SameInts returns: a contract. -/
import Derived.Test.YtgooajgoofojmaaDoorBase
namespace Go.Proofs.YtgooajgoofojmaaDoor
open Go.RowKit

/-! ### SameInts -/
def sameInts (xs ys : List Int) : Bool := decide (xs = ys)
set_option maxHeartbeats 400000 in
theorem same_ints {w : World} {A B : Option Addr} {xs ys : List Int} {n m c d : Nat} (hx : IntsAt w A xs) (hy : IntsAt w B ys) (hn : n = xs.length) (hm : m = ys.length) (hl : xs.length ≤ 9223372036854775807) :
    Calls Tryd.prog 18 #[.slice A n c, .slice B m d] w fun e w' => e = .returned (.bool (sameInts xs ys)) ∧ ∃ n, w' = w.drewN n := by
  by_cases he : xs.length = ys.length
  · obtain rfl : n = m := by omega
    have hbb : ((n : Int) != (n : Int)) = false := by simp
    have hn1 : n ≤ 9223372036854775807 := by omega
    have HX := Lib.hid hx
    have HY := Lib.hid hy
    have HN := Lib.hid hn
    have HM := Lib.hid hm
    clear hx hy hn hm he hl
    go_enter Tryd.func18, Tryd.ntmps18
    go_wp2
    go_loopw [5] (fun i wr => ∃ k q : Nat, k ≤ n ∧ i = .int .i64 k ∧ wr = w.drewN q ∧ Hid (∀ j, j < k → xs[j]? = ys[j]?)) (fun i _ => n - (intOf i).toNat)
    case atStart => exact ⟨0, 0, by omega, rfl, rfl, fun j hj => by omega⟩
    case round =>
      obtain ⟨k, q, hk, rfl, rfl, hh⟩ := hrel
      by_cases hlt : k < n
      · have hxl : k < xs.length := by have := HN.out; omega
        have hyl : k < ys.length := by have := HM.out; omega
        obtain ⟨b, off, rfl, hc1⟩ := HX.out.at_ hxl
        obtain ⟨b', off', rfl, hc2⟩ := HY.out.at_ hyl
        have hi : 0 ≤ (k : Int) ∧ (k : Int) < (n : Int) := by omega
        have HQ : Hid (xs[k]? = some (xs[k]'hxl)) := List.getElem?_eq_getElem hxl
        have HQ' : Hid (ys[k]? = some (ys[k]'hyl)) := List.getElem?_eq_getElem hyl
        generalize xs[k]'hxl = x at *
        generalize ys[k]'hyl = y at *
        by_cases hxy : x = y
        · have hb2 : (x != y) = false := by simp [hxy]
          have HXY := Lib.hid hxy
          clear hxy
          go_wp2
          go_quiet (fail)
          go_wp2
          go_roundw
          case rel =>
            refine ⟨k + 1, q + nq, by omega, by go_num, rfl, fun j hj => ?_⟩
            by_cases e : j = k
            · rw [e, HQ.out, HQ'.out, HXY.out]
            · exact hh.out j (by omega)
          case measure => simp [intOf]; omega
        · have hb2 : (x != y) = true := by simp [hxy]
          have HE : Hid (sameInts xs ys = false) := by
            show _ = _
            unfold sameInts
            rw [decide_eq_false]
            intro e
            rw [e, HQ'.out] at HQ
            have := HQ.out
            injection this with this
            exact hxy this.symm
          clear hxy
          go_wp2
          go_quiet (fail)
          go_wp2
          go_ret
          exact ⟨ret_bool HE.out.symm, q + nq, World.drewN_drewN _ _ _⟩
      · go_wp2
        go_ret
        refine ⟨ret_bool ?_, q, rfl⟩
        symm
        unfold sameInts
        rw [decide_eq_true]
        have h1 := HN.out
        have h2 := HM.out
        refine List.ext_getElem? fun j => ?_
        by_cases hj : j < k
        · exact hh.out j hj
        · rw [List.getElem?_eq_none (by omega), List.getElem?_eq_none (by omega)]
  · have hbb : ((n : Int) != (m : Int)) = true := by simp; omega
    have HE : Hid (sameInts xs ys = false) := by
      show _ = _
      unfold sameInts
      rw [decide_eq_false]
      intro e
      exact he (by rw [e])
    clear he hn hm hl hx hy
    go_enter Tryd.func18, Tryd.ntmps18
    go_wp2
    go_ret
    exact ⟨ret_bool HE.out.symm, 0, rfl⟩

theorem same_is {w : World} {A B : Option Addr} {xs ys : List Int} {n m c d : Nat} (hx : IntsAt w A xs) (hy : IntsAt w B ys) (hn : n = xs.length) (hm : m = ys.length) (hl : xs.length ≤ 9223372036854775807) {r : Bool} (hr : sameInts xs ys = r) :
    Calls Tryd.prog 18 #[.slice A n c, .slice B m d] w fun e w' => e = .returned (.bool r) ∧ ∃ n, w' = w.drewN n := by
  rw [← hr]; exact same_ints hx hy hn hm hl
end Go.Proofs.YtgooajgoofojmaaDoor
