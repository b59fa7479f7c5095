/- Layer 4 (ring): the function over which the numbers of a queue are told one by one: its contract for any loop body. -/
import Derived.Test.YthfochpaacjlcaaRingPut
import Derived.RangeFuncNested
import Derived.RangeFuncBound
import Derived.RangeFuncCalls
import Derived.RangeFuncLeaves
import Derived.Shelf.Abstract
import Derived.Shelf.RegionOpen
import Derived.OwnWalkIn
import Derived.TacticsInMore
import Derived.LoopNIn
import Derived.LoopIn
namespace Go.Proofs.Ythfochpaacjlcaa
open Go.RowKit Go.Shelf
attribute [local go_sem] Oper.semAt_some

theorem RingIn.below {lo hi n₀ room : Nat} {w w' : World} {v : Value} {l : List Int} (h : RingIn w lo hi v room l) (hb : Below n₀ w w') (hd : hi ≤ n₀) : RingIn w' lo hi v room l :=
  h.chg (lo' := n₀) (hi' := w.heap.size) ⟨hb.os, hb.tape, hb.output, hb.size, fun k _ hn => hb.block k (by omega)⟩ (.inl hd)
/-- A queue of l, nil if there is none, that lies below n₀. -/
def QAt (n₀ : Nat) (W : World) (p : Option Addr) (l : List Int) : Prop := (p = none ∧ l = []) ∨ ∃ lo hi room, RingIn W lo hi (.pointer p) room l ∧ hi ≤ n₀
theorem QAt.below {n₀ : Nat} {W W' : World} {p : Option Addr} {l : List Int} (h : QAt n₀ W p l) (hb : Below n₀ W W') : QAt n₀ W' p l := by
  rcases h with h | ⟨lo, hi, room, h, hd⟩
  · exact .inl h
  · exact .inr ⟨lo, hi, room, h.below hb hd, hd⟩
theorem QAt.len {n₀ : Nat} {W : World} {p : Option Addr} {l : List Int} (h : QAt n₀ W p l) : Calls Try.prog 14 #[.pointer p] W fun e w' => e = .returned (.int .i64 l.length) ∧ W = w' := by
  rcases h with ⟨rfl, rfl⟩ | ⟨lo, hi, room, h, _⟩
  · exact len_nil W
  · exact len_is h rfl
theorem QAt.small {n₀ : Nat} {W : World} {p : Option Addr} {l : List Int} (h : QAt n₀ W p l) : l.length ≤ 1048576 := by
  rcases h with ⟨rfl, rfl⟩ | ⟨lo, hi, room, h, _⟩
  · simp
  · have := h.small; omega
theorem QAt.at_ {n₀ : Nat} {W : World} {p : Option Addr} {l : List Int} (h : QAt n₀ W p l) {k : Nat} (hk : k < l.length) :
    ∃ g b q room z, p = some ⟨g, 0, none⟩ ∧ Hid (l[k]?.getD 0 = z) ∧ W.cell? ⟨g, 0, none⟩ = some (.slice (some ⟨b, 0, none⟩) room room) ∧ q < room ∧ W.cell? ⟨b, q, none⟩ = some (.int .i64 z) ∧
      ∀ n, Calls Try.prog 20 #[.pointer (some ⟨g, 0, none⟩), .int .i64 k] (W.drewN n) fun e w' => e = .returned (.int .i64 (q : Nat)) ∧ ∃ m, w' = (W.drewN n).drewN m := by
  rcases h with ⟨rfl, rfl⟩ | ⟨lo, hi, room, ⟨g, A, first, e, hs, _⟩, _⟩
  · simp at hk
  · have hle := hs.le
    obtain ⟨b, c, rfl, hb, hc⟩ := hs.blk (by omega)
    injection e with e
    have hp := posN_lt (room := room) (first := first) (k := k) (by omega)
    refine ⟨g, b, posN room first k, room, l[k]?.getD 0, e, rfl, hs.c0, hp, ?_, fun n => ?_⟩
    · have hx := getZ_at hk
      rw [hb.cell hp, hc k _ hx, hx]; rfl
    · exact cell_any (w := W.drewN n) hs.c0 hs.c1 hs.small (by have := hs.fst; omega) (by omega)

/-- What a round that goes on keeps: all that lies below n₀, and the block of the queue's own address. -/
def KeepQ (n₀ Bn : Nat) (A B : World) : Prop := Below n₀ A B ∧ B.heap[Bn]? = A.heap[Bn]?
theorem KeepQ.refl (n₀ Bn : Nat) (W : World) : KeepQ n₀ Bn W W := ⟨Below.refl _ _, rfl⟩
theorem KeepQ.trans {n₀ Bn : Nat} {A B C : World} (h : KeepQ n₀ Bn A B) (k : KeepQ n₀ Bn B C) : KeepQ n₀ Bn A C := ⟨h.1.trans k.1, k.2.trans h.2⟩
theorem KeepQ.put {n₀ Bn : Nat} {w : World} (hn : n₀ ≤ w.heap.size) (hB : Bn < w.heap.size) (W : World) (l : Nat) (o o' : Obj) (hl : w.heap.size ≤ l) (h : W.heap[l]? = some o) (h1 : o.isCells = false) (h2 : o.isWalk = false) : KeepQ n₀ Bn W (W.putObj l o') :=
  ⟨belowK_b hn W l o o' hl h h1 h2, (grownBy_putObj' W l o').block Bn (by have := (Array.getElem?_eq_some_iff.1 h).1; omega) (fun e => by injection e with e; omega)⟩
theorem KeepQ.drewN {n₀ Bn : Nat} {A B : World} (h : KeepQ n₀ Bn A B) (n : Nat) : KeepQ n₀ Bn A (B.drewN n) := ⟨below_drewN h.1 n, h.2⟩
theorem KeepQ.set {n₀ Bn b : Nat} {A B : World} (h : KeepQ n₀ Bn A B) (hb : n₀ ≤ b) (hne : Bn ≠ b) (i : Nat) (v : Value) : KeepQ n₀ Bn A (B.setCell ⟨b, i, none⟩ v) :=
  ⟨h.1.setCell (p := ⟨b, i, none⟩) hb v, (Below.heap_setCell B ⟨b, i, none⟩ v Bn hne).trans h.2⟩
theorem KeepQ.cell {n₀ Bn : Nat} {A B : World} (h : KeepQ n₀ Bn A B) {v : Value} (hc : A.cell? ⟨Bn, 0, none⟩ = some v) : B.cell? ⟨Bn, 0, none⟩ = some v := (World.cell?_of_block (w := A) (a := ⟨Bn, 0, none⟩) h.2).trans hc

set_option maxRecDepth 100000 in
set_option maxHeartbeats 2000000 in
theorem all1_in (m : Nat) (hm : 2 ≤ m) (lp Bn n₀ : Nat) (p : Option Addr) (l : List Int) (J Jx : List Nat → World → Prop) (W0 : World) (hJ : AbidesFrom W0.heap.size J)
    (hY : ∀ pre k W, J pre W → pre.length < l.length → YieldAt Fence.wide (m - 1) Try.prog lp #[.int .i64 (k : Nat), .int .i64 (l[k]?.getD 0)] W fun e W' =>
      (e = .returned (.bool true) ∧ J (pre ++ [k]) W' ∧ KeepQ n₀ Bn W W') ∨ (e = .returned (.bool false) ∧ Jx (pre ++ [k]) W'))
    (hBn : W0.cell? ⟨Bn, 0, none⟩ = some (.pointer p)) (hQ : QAt n₀ W0 p l) (h0 : J [] W0) :
    CallsIn Fence.wide m Try.prog 22 #[.func (.yield lp) #[] #[], .pointer (some ⟨Bn, 0, none⟩)] W0 fun e W' => (∃ v, e = .returned v) ∧
      ((∃ ys, ys = List.range l.length ∧ J ys W') ∨ (∃ pre, (∃ k, k ≤ l.length ∧ pre = List.range k) ∧ Jx pre W')) := by
  have hmx : Try.prog.follows .mixedOrders = true := by kernel_rfl
  have hsm := hQ.small
  have h1m : 1 ≤ m := by omega
  have HQ := Lib.hid hQ
  clear hQ
  refine callsIn_of_wp Try.func22 rfl trivial ?_ rfl
  simp only [Try.ntmps22, List.size_toArray, List.length_cons, List.length_nil, Nat.reduceAdd, Nat.reduceSub, Array.replicate_succ, Array.replicate_zero, List.push_toArray, List.append_toArray, List.nil_append, List.cons_append]
  gi_wp2_with (refine ⟨trivial, ?_⟩; gi_at_call 14; refine (callsIn_wide.2 HQ.out.len).mono ?_; rintro e w' ⟨rfl, rfl⟩)
  gi_loopw [6] (fun i wr => ∃ k : Nat, k ≤ l.length ∧ i = .int .i64 k ∧ J (List.range k) wr ∧ KeepQ n₀ Bn W0 wr) (fun i _ => l.length - (intOf i).toNat)
  case atStart => exact ⟨0, Nat.zero_le _, rfl, h0, KeepQ.refl _ _ _⟩
  case round =>
    obtain ⟨k, hk, rfl, hJs, hnx⟩ := hrel
    by_cases hlt2 : k < l.length
    · obtain ⟨g, b, q, room, z, rfl, HZ, c0, hq, c1, hc⟩ := (HQ.out.below hnx.1).at_ hlt2
      have hcb : wr.cell? ⟨Bn, 0, none⟩ = some (.pointer (some ⟨g, 0, none⟩)) := hnx.cell hBn
      have hqr : 0 ≤ (q : Int) ∧ (q : Int) < (room : Int) := by omega
      have HC := Lib.hid hc
      have HYK : Hid (∀ n, YieldAt Fence.wide (m - 1) Try.prog lp #[.int .i64 (k : Nat), .int .i64 z] (wr.drewN n) fun e W' =>
          ∃ bb, e = .returned (.bool bb) ∧ Hid ((bb = true ∧ J (List.range (k + 1)) W' ∧ KeepQ n₀ Bn W0 W') ∨ (bb = false ∧ Jx (List.range (k + 1)) W'))) := fun n => by
        have hd := hJ (List.range k) wr (wr.drewN n) none hJs (grown_drewN (World.grownBy.refl wr _) n) (fun r e => by cases e)
        have hy := hY (List.range k) k (wr.drewN n) hd (by rw [List.length_range]; exact hlt2)
        rw [HZ.out] at hy
        refine hy.mono ?_
        rintro e W' (⟨rfl, h1, h2⟩ | ⟨rfl, h1⟩)
        · exact ⟨true, rfl, .inl ⟨rfl, by rw [List.range_succ]; exact h1, (hnx.drewN n).trans h2⟩⟩
        · exact ⟨false, rfl, .inr ⟨rfl, by rw [List.range_succ]; exact h1⟩⟩
      clear hc hJs h0
      gi_wp2
      gi_region_with_o (first
        | (refine ⟨trivial, ?_⟩; gi_at_call 20; refine (callsIn_wide.2 (HC.out 1)).mono ?_; rintro e w' ⟨rfl, n, rfl⟩; obtain ⟨fn, tmps, assign, body, hy, hR⟩ := HYK.out (1 + n))
        | (refine hR.mono ?_; rintro e W3 ⟨bb, rfl, hb⟩))
      all_goals
        rcases hb.out with ⟨rfl, h3, k3⟩ | ⟨rfl, h3⟩
        · gi_wp2
          go_roundw
          case rel => exact ⟨k + 1, by omega, by go_num, h3, k3⟩
          case measure => simp [intOf]; omega
        · gi_wp2
          refine bodyPost_ret (results_none rfl _ _ _) rfl ?_
          exact ⟨⟨_, rfl⟩, .inr ⟨_, ⟨k + 1, by omega, rfl⟩, h3⟩⟩
    · obtain rfl : k = l.length := by omega
      gi_wp2
      go_end0
      exact ⟨⟨_, rfl⟩, .inl ⟨_, rfl, hJs⟩⟩
theorem all_in (m : Nat) (p : Option Addr) (w : World) :
    CallsIn Fence.wide m Try.prog 21 #[.pointer p] w fun e w' => e = .returned (.func (.func 22) #[] #[.pointer (some ⟨w.heap.size, 0, none⟩)]) ∧ w' = w.alloc (.cells #[.pointer p] 24) := by
  refine callsIn_of_wp Try.func21 rfl trivial ?_ rfl
  simp only [Try.ntmps21, List.size_toArray, List.length_cons, List.length_nil, Nat.reduceAdd, Nat.reduceSub, Array.replicate_succ, Array.replicate_zero, List.push_toArray, List.append_toArray, List.nil_append, List.cons_append]
  gi_wp2
  go_ret
  exact ⟨rfl, rfl⟩
theorem all_stops (m : Nat) (hm : 2 ≤ m) (Bn n₀ : Nat) (p : Option Addr) (l : List Int) (w : World) (hBw : Bn < w.heap.size) (hn₀ : n₀ ≤ w.heap.size) (hc : w.cell? ⟨Bn, 0, none⟩ = some (.pointer p)) (hQ : QAt n₀ w p l) :
    SeqStopsK Fence.wide m Try.prog 22 #[.pointer (some ⟨Bn, 0, none⟩)] (fun k : Nat => #[.int .i64 (k : Int), .int .i64 (l[k]?.getD 0)]) (KeepQ n₀ Bn) (fun ys => ys = List.range l.length)
      (fun pre => ∃ k, k ≤ l.length ∧ pre = List.range k) l.length w := fun lp J Jx W hW hJ _ hY h0 =>
  all1_in m hm lp Bn n₀ p l J Jx W hJ hY ((hW.cell (p := ⟨Bn, 0, none⟩) hBw).trans hc) (hQ.below (hW.mono hn₀)) h0
end Go.Proofs.Ythfochpaacjlcaa
