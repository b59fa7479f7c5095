/- What Count and List of package bits return: contracts. -/
import Derived.Test.YtgooajgoofojmaaDoorFreeBtOnce
import Derived.Test.YtgooajgoofojmaaDoorFreeBtTab
namespace Go.Proofs.YtgooajgoofojmaaDoor
open Go.RowKit

def CountDone (w : World) (g size : Nat) (A : Option Addr) (f : Nat → Bool) (e : Ending) (w' : World) : Prop := e = .returned (.int .i64 (cnt f size)) ∧ SetAt w' g A size f ∧ w.grownBy w' (some g)
def SetHead (w : World) (g size : Nat) (A : Option Addr) : Prop := w.rowIs g 69 261 (setF size A true)
theorem SetAt.ne_ {w : World} {g size b : Nat} {f : Nat → Bool} (h : SetAt w g (some ⟨b, 0, none⟩) size f) (hs : 0 < size) : b ≠ g := by
  obtain ⟨⟨d, hd⟩, hb, _, _⟩ := h
  obtain ⟨b', e, hr⟩ := hb.at_ (k := 0) (by unfold nw; omega)
  injection e with e
  injection e with e
  subst e
  exact row_type hr hd (by decide)
set_option maxRecDepth 100000 in
set_option maxHeartbeats 1600000 in
theorem count_any {w : World} {g size : Nat} {A : Option Addr} {f : Nat → Bool} (h : SetAt w g A size f) : Calls Tryd.prog 40 #[.pointer (some ⟨g, 0, none⟩)] w (CountDone w g size A f) := by
  have hs := h.small
  by_cases h0 : size = 0
  · have hb : ((size : Int) == 0) = true := by simp [h0]
    have HQ : CountDone w g size A f (.returned (.int .i64 0)) w := ⟨ret_int (by rw [h0]; rfl), h, World.grownBy.refl _ _⟩
    have H0 := Lib.hid h0
    clear h0
    go_enter Tryd.func40, Tryd.ntmps40
    go_wp2_with (go_at_call 43; refine (size_any h).mono ?_; rintro e w' ⟨rfl, rfl⟩)
    go_ret
    exact HQ
  · have hb : ((size : Int) == 0) = false := by simp [h0]
    have hmf : ∀ (fn : Fn) (first cap : Array Value) (w : World), (Instr.makeFunc fn first cap).run Tryd.prog w = .ok (.func fn first cap) w := fun _ _ _ _ => rfl
    have hpos : 0 < size := Nat.pos_of_ne_zero h0
    have H0 := Lib.hid h0
    clear h0
    go_enter Tryd.func40, Tryd.ntmps40
    go_wp2_with (first
      | (go_at_call 43; refine (size_any h).mono ?_; rintro e w' ⟨rfl, rfl⟩)
      | (go_at_call 44; refine (do_any h.head).mono ?_; rintro e w1 ⟨rfl, hr, hg⟩
         have hw1 : w1.cell? ⟨g, 1, none⟩ = some (.slice A (nw size) (nw size)) := hr.cell (i := 1) (by omega)
         have HB : WordsAt w1 A (nw size) f := h.body.keep fun b e hl => hg.block b hl (by subst e; have := h.ne_ hpos; simpa using this)
         have HR : SetHead w1 g size A := hr
         clear hr))
    have HF : CountDone w g size A f (.returned (.int .i64 (cnt f (64 * nw size)))) w1 := ⟨ret_int (by rw [cnt_more h.out (nw_more size)]), ⟨⟨true, HR⟩, HB, hs, h.out⟩, hg⟩
    have HF' : ∀ m, CountDone w g size A f (.returned (.int .i64 (cnt f (64 * nw size)))) (w1.drewN m) := fun m => ⟨HF.1, HF.2.1.drewN m, grown_drewN HF.2.2 m⟩
    have HQ := Lib.hid HF'
    clear HF HF' h hg
    have hn := nw_le hs
    generalize nw size = n at *
    go_loopw [3, 20] (fun c i wr => ∃ k m : Nat, k ≤ n ∧ i = .int .i64 k ∧ c = .int .i64 (cnt f (64 * k)) ∧ wr = w1.drewN m) (fun _ i _ => n - (intOf i).toNat)
    case atStart => exact ⟨0, 0, by omega, rfl, rfl, rfl⟩
    case round =>
      obtain ⟨k, m, hk, rfl, rfl, rfl⟩ := hrel
      by_cases hlt : k < n
      · obtain ⟨b, rfl, hb1⟩ := HB.at_ hlt
        have hw2 : w1.cell? ⟨b, k, none⟩ = some (.int .u64 (word f k)) := hb1.cell hlt
        clear hb1
        go_wp2
        go_loopw [3, 23] (fun c i wr => ∃ j m : Nat, j ≤ 8 ∧ i = .int .i64 j ∧ c = .int .i64 (cnt f (64 * k + 8 * j)) ∧ wr = w1.drewN m) (fun _ i _ => 8 - (intOf i).toNat)
        case atStart => exact ⟨0, m, by omega, rfl, rfl, rfl⟩
        case round =>
          obtain ⟨j, m, hj, rfl, rfl, rfl⟩ := hrel
          by_cases hlj : j < 8
          · have hc := cnt_byte f k j hlj
            have hcl := cnt_le f (64 * k + 8 * j)
            have hpl := pop_le 8 (word f k / 2 ^ (8 * j) % 256)
            have hy1 : word f k / 2 ^ (8 * j) % 256 < 256 := Nat.mod_lt _ (by omega)
            have hcv : IntKind.u8.wrap ((word f k : Int) / 2 ^ (8 * j)) = ((word f k / 2 ^ (8 * j) % 256 : Nat) : Int) := by
              rw [IntKind.wrap_u8']
              simp
            generalize word f k / 2 ^ (8 * j) % 256 = y at *
            have hw3 : w1.cell? ⟨g, 5 + y, none⟩ = some (.int .u8 (pop 8 y)) := by
              have := World.rowIs.cell HR (i := 5 + y) (by omega)
              rw [Nat.add_comm 5 y] at this ⊢
              exact this
            have hi1 : 0 ≤ (k : Int) ∧ (k : Int) < (n : Int) := by omega
            have hi2 : 0 ≤ (y : Int) ∧ (y : Int) < 256 := by omega
            have hto : (8 * (j : Int)).toNat = 8 * j := by omega
            have HC := Lib.hid hc
            clear hc
            go_wp2
            have hwj : IntKind.i64.wrap (8 * (j : Int)) = 8 * (j : Int) := IntWalk.i64_in _ (by omega)
            have h0j : 0 ≤ 8 * (j : Int) := by omega
            have hsum : IntKind.i64.wrap ((cnt f (64 * k + 8 * j) : Int) + (pop 8 y : Int)) = (cnt f (64 * k + 8 * j) : Int) + (pop 8 y : Int) := IntWalk.i64_in _ (by omega)
            go_quiet (fail)
            go_wp2
            go_roundw
            case rel => exact ⟨j + 1, m + nq, by omega, by go_num, by rw [HC.out]; go_num, rfl⟩
            case measure => simp [intOf]; omega
          · go_wp2
            have e : j = 8 := by omega
            subst e
            go_roundw
            case rel => exact ⟨k + 1, m, by omega, by go_num, rfl, rfl⟩
            case measure => simp [intOf]; omega
      · go_wp2
        go_ret
        have e : k = n := by omega
        subst e
        exact HQ.out _
end Go.Proofs.YtgooajgoofojmaaDoor
