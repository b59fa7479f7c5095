/- Layer 5 (chain): what tie does to the cells: a contract. (gen_tie.py writes this text.) -/
import Derived.Test.YtffpnpcbfogemaaChainAsk
namespace Go.Proofs.Ytffpnpcbfogemaa
open Go.RowKit
variable {w w' : World} {g : Nat} {R P : Option Nat} {L N : Nat} {F La C Pb Pn Pl : Nat → Int} {br bp : Nat}

/-- What a call has made of the cells. -/
def RawTo (w : World) (g : Nat) (R P : Option Nat) (lo hi L N : Nat) (F La C Pb Pn Pl : Nat → Int) (v : Value) (e : Ending) (w' : World) : Prop := e = .returned v ∧ RawAt w' g R P L N F La C Pb Pn Pl ∧ Chg lo hi w w'
def NodeOr (N : Nat) (b : Int) : Prop := b = -1 ∨ ∃ k : Nat, b = (k : Int) ∧ k < N
theorem tie_00 {lo hi : Nat} (h : RawAt w g (some br) P L N F La C Pb Pn Pl) (hp : Part g (some br) P lo hi) {i : Nat} (hil : i < L) :
    Calls Try.prog 33 #[.pointer (some ⟨g, 0, none⟩), .int .i64 i, .int .i64 (-1), .int .i64 (-1)] w (RawTo w g (some br) P lo hi L N (tieF F i (-1) (-1)) (tieL La i (-1) (-1)) C (tieB Pb (-1) (-1)) (tieN Pn (-1) (-1)) Pl (.tuple #[])) := by
  have hsm := h.small
  have hir : 0 ≤ (i : Int) ∧ (i : Int) < (L : Int) := by omega
  have k1 := h.setF i (-1)
  have c1 := h.cF hil
  have f1 := h.rowR.frozen (i * 3)
  have a1 := h.c0
  have k2 := k1.setL i (-1)
  have c2 := k1.cL hil
  have f2 := k1.rowR.frozen (i * 3 + 1)
  have a2 := k1.c0
  simp only [Option.map_some] at a1 a2
  have HC := Lib.hid ((Chg.set (lo := lo) (hi := hi) w (i * 3) (.int .i64 (-1)) (hp.r br rfl).1 (hp.r br rfl).2).trans (Chg.set (lo := lo) (hi := hi) (w.setCell ⟨br, i * 3, none⟩ (.int .i64 (-1))) (i * 3 + 1) (.int .i64 (-1)) (hp.r br rfl).1 (hp.r br rfl).2))
  have HK := Lib.hid (k2.like (F' := tieF F i (-1) (-1)) (La' := tieL La i (-1) (-1)) (C' := C) (Pb' := tieB Pb (-1) (-1)) (Pn' := tieN Pn (-1) (-1)) (Pl' := Pl) (Eq.symm (if_pos rfl)) (Eq.symm (if_pos rfl)) rfl (Eq.symm (tieB_nil _ _)) (Eq.symm (tieN_nil _ _)) rfl)
  clear h k1 k2 hp
  generalize F i = u1 at *
  go_enter Try.func33, Try.ntmps33
  go_wp2
  go_end0
  exact ⟨rfl, HK.out, HC.out⟩
theorem tie_01 {lo hi : Nat} (h : RawAt w g (some br) (some bp) L N F La C Pb Pn Pl) (hp : Part g (some br) (some bp) lo hi) {i : Nat} (hil : i < L) {q : Nat} (hq : q < N) :
    Calls Try.prog 33 #[.pointer (some ⟨g, 0, none⟩), .int .i64 i, .int .i64 (-1), .int .i64 (q : Int)] w (RawTo w g (some br) (some bp) lo hi L N (tieF F i (-1) (q : Int)) (tieL La i (-1) (q : Int)) C (tieB Pb (-1) (q : Int)) (tieN Pn (-1) (q : Int)) Pl (.tuple #[])) := by
  have hsm := h.small
  have hir : 0 ≤ (i : Int) ∧ (i : Int) < (L : Int) := by omega
  have hqr : 0 ≤ (q : Int) ∧ (q : Int) < (N : Int) := by omega
  have hqe : ((q : Int) == -1) = false := by simp
  have k1 := h.setF i (q : Int)
  have c1 := h.cF hil
  have f1 := h.rowR.frozen (i * 3)
  have a1 := h.c0
  have k2 := k1.setB q (-1)
  have c2 := k1.cB hq
  have f2 := k1.rowP.frozen (q * 3)
  have a2 := k1.c1
  simp only [Option.map_some] at a1 a2
  have HC := Lib.hid ((Chg.set (lo := lo) (hi := hi) w (i * 3) (.int .i64 (q : Int)) (hp.r br rfl).1 (hp.r br rfl).2).trans (Chg.set (lo := lo) (hi := hi) (w.setCell ⟨br, i * 3, none⟩ (.int .i64 (q : Int))) (q * 3) (.int .i64 (-1)) (hp.p bp rfl).1 (hp.p bp rfl).2))
  have HK := Lib.hid (k2.like (F' := tieF F i (-1) (q : Int)) (La' := tieL La i (-1) (q : Int)) (C' := C) (Pb' := tieB Pb (-1) (q : Int)) (Pn' := tieN Pn (-1) (q : Int)) (Pl' := Pl) (Eq.symm (if_pos rfl)) (Eq.symm (if_neg (by omega))) rfl (Eq.symm (tieB_nat _ _ _)) (Eq.symm (tieN_nil _ _)) rfl)
  clear h k1 k2 hp
  generalize F i = u1 at *
  go_enter Try.func33, Try.ntmps33
  go_wp2
  go_end0
  exact ⟨rfl, HK.out, HC.out⟩
theorem tie_10 {lo hi : Nat} (h : RawAt w g (some br) (some bp) L N F La C Pb Pn Pl) (hp : Part g (some br) (some bp) lo hi) {i : Nat} (hil : i < L) {k : Nat} (hk : k < N) :
    Calls Try.prog 33 #[.pointer (some ⟨g, 0, none⟩), .int .i64 i, .int .i64 (k : Int), .int .i64 (-1)] w (RawTo w g (some br) (some bp) lo hi L N (tieF F i (k : Int) (-1)) (tieL La i (k : Int) (-1)) C (tieB Pb (k : Int) (-1)) (tieN Pn (k : Int) (-1)) Pl (.tuple #[])) := by
  have hsm := h.small
  have hir : 0 ≤ (i : Int) ∧ (i : Int) < (L : Int) := by omega
  have hkr : 0 ≤ (k : Int) ∧ (k : Int) < (N : Int) := by omega
  have hke : ((k : Int) == -1) = false := by simp
  have k1 := h.setN k (-1)
  have c1 := h.cN hk
  have f1 := h.rowP.frozen (k * 3 + 1)
  have a1 := h.c1
  have k2 := k1.setL i (k : Int)
  have c2 := k1.cL hil
  have f2 := k1.rowR.frozen (i * 3 + 1)
  have a2 := k1.c0
  simp only [Option.map_some] at a1 a2
  have HC := Lib.hid ((Chg.set (lo := lo) (hi := hi) w (k * 3 + 1) (.int .i64 (-1)) (hp.p bp rfl).1 (hp.p bp rfl).2).trans (Chg.set (lo := lo) (hi := hi) (w.setCell ⟨bp, k * 3 + 1, none⟩ (.int .i64 (-1))) (i * 3 + 1) (.int .i64 (k : Int)) (hp.r br rfl).1 (hp.r br rfl).2))
  have HK := Lib.hid (k2.like (F' := tieF F i (k : Int) (-1)) (La' := tieL La i (k : Int) (-1)) (C' := C) (Pb' := tieB Pb (k : Int) (-1)) (Pn' := tieN Pn (k : Int) (-1)) (Pl' := Pl) (Eq.symm (if_neg (by omega))) (Eq.symm (if_pos rfl)) rfl (Eq.symm (tieB_nil _ _)) (Eq.symm (tieN_nat _ _ _)) rfl)
  clear h k1 k2 hp
  generalize Pn k = u1 at *
  go_enter Try.func33, Try.ntmps33
  go_wp2
  go_end0
  exact ⟨rfl, HK.out, HC.out⟩
theorem tie_11 {lo hi : Nat} (h : RawAt w g (some br) (some bp) L N F La C Pb Pn Pl) (hp : Part g (some br) (some bp) lo hi) {i : Nat} (hil : i < L) {k : Nat} (hk : k < N) {q : Nat} (hq : q < N) :
    Calls Try.prog 33 #[.pointer (some ⟨g, 0, none⟩), .int .i64 i, .int .i64 (k : Int), .int .i64 (q : Int)] w (RawTo w g (some br) (some bp) lo hi L N (tieF F i (k : Int) (q : Int)) (tieL La i (k : Int) (q : Int)) C (tieB Pb (k : Int) (q : Int)) (tieN Pn (k : Int) (q : Int)) Pl (.tuple #[])) := by
  have hsm := h.small
  have hir : 0 ≤ (i : Int) ∧ (i : Int) < (L : Int) := by omega
  have hkr : 0 ≤ (k : Int) ∧ (k : Int) < (N : Int) := by omega
  have hke : ((k : Int) == -1) = false := by simp
  have hqr : 0 ≤ (q : Int) ∧ (q : Int) < (N : Int) := by omega
  have hqe : ((q : Int) == -1) = false := by simp
  have k1 := h.setN k (q : Int)
  have c1 := h.cN hk
  have f1 := h.rowP.frozen (k * 3 + 1)
  have a1 := h.c1
  have k2 := k1.setB q (k : Int)
  have c2 := k1.cB hq
  have f2 := k1.rowP.frozen (q * 3)
  have a2 := k1.c1
  simp only [Option.map_some] at a1 a2
  have HC := Lib.hid ((Chg.set (lo := lo) (hi := hi) w (k * 3 + 1) (.int .i64 (q : Int)) (hp.p bp rfl).1 (hp.p bp rfl).2).trans (Chg.set (lo := lo) (hi := hi) (w.setCell ⟨bp, k * 3 + 1, none⟩ (.int .i64 (q : Int))) (q * 3) (.int .i64 (k : Int)) (hp.p bp rfl).1 (hp.p bp rfl).2))
  have HK := Lib.hid (k2.like (F' := tieF F i (k : Int) (q : Int)) (La' := tieL La i (k : Int) (q : Int)) (C' := C) (Pb' := tieB Pb (k : Int) (q : Int)) (Pn' := tieN Pn (k : Int) (q : Int)) (Pl' := Pl) (Eq.symm (if_neg (by omega))) (Eq.symm (if_neg (by omega))) rfl (Eq.symm (tieB_nat _ _ _)) (Eq.symm (tieN_nat _ _ _)) rfl)
  clear h k1 k2 hp
  generalize Pn k = u1 at *
  go_enter Try.func33, Try.ntmps33
  go_wp2
  go_end0
  exact ⟨rfl, HK.out, HC.out⟩
theorem tie_raw {lo hi : Nat} (h : RawAt w g R P L N F La C Pb Pn Pl) (hp : Part g R P lo hi) {i : Nat} (hil : i < L) {b n : Int} (hb : NodeOr N b) (hn : NodeOr N n) :
    Calls Try.prog 33 #[.pointer (some ⟨g, 0, none⟩), .int .i64 i, .int .i64 b, .int .i64 n] w (RawTo w g R P lo hi L N (tieF F i b n) (tieL La i b n) C (tieB Pb b n) (tieN Pn b n) Pl (.tuple #[])) := by
  obtain ⟨br, rfl, _⟩ := h.blkR (by omega)
  rcases hb with rfl | ⟨k, rfl, hk⟩ <;> rcases hn with rfl | ⟨q, rfl, hq⟩
  · exact tie_00 h hp hil
  · obtain ⟨bp, rfl, _⟩ := h.blkP (by omega)
    exact tie_01 h hp hil hq
  · obtain ⟨bp, rfl, _⟩ := h.blkP (by omega)
    exact tie_10 h hp hil hk
  · obtain ⟨bp, rfl, _⟩ := h.blkP (by omega)
    exact tie_11 h hp hil hk hq
theorem node_hd {l : List Nat} {N : Nat} (h : ∀ x ∈ l, x < N) : NodeOr N (hd l (-1)) := by
  cases l with
  | nil => exact .inl rfl
  | cons a t => exact .inr ⟨a, rfl, h a (by simp)⟩
theorem node_lst {l : List Nat} {N : Nat} (h : ∀ x ∈ l, x < N) : NodeOr N (lst l (-1)) := by
  by_cases e : l = []
  · subst e; exact .inl rfl
  · obtain ⟨l', x, rfl⟩ := lst_ne e
    rw [lst_push]
    exact .inr ⟨x, rfl, h x (by simp)⟩
end Go.Proofs.Ytffpnpcbfogemaa
