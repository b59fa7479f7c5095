/- Layer 4 (ring): what New, Put, Take return, and how the queue lies in memory behind them: contracts. -/
import Derived.Test.YthfochpaacjlcaaRingMem
import Derived.Deep.RegionHeld3
import Derived.StillTailTactics
namespace Go.Proofs.Ythfochpaacjlcaa
open Go.RowKit

/-! ### New -/
def NewIn (w : World) (room : Nat) (l : List Int) (e : Ending) (w' : World) : Prop := ∃ g, e = .returned (.pointer (some ⟨g, 0, none⟩)) ∧ RingIn w' w.heap.size w'.heap.size (.pointer (some ⟨g, 0, none⟩)) room l ∧ Below w.heap.size w w'
theorem new_no (n : Int) (w : World) (h : n < 0 ∨ 1048576 < n) : Calls Try.prog 6 #[.int .i64 n] w fun e w' => e = .returned (.pointer none) ∧ w = w' := by
  rcases h with h | h
  · go_enter Try.func6, Try.ntmps6
    go_wp2
    go_ret
    exact ⟨rfl, rfl⟩
  · have h0 : ¬ n < 0 := by omega
    go_enter Try.func6, Try.ntmps6
    go_wp2
    go_ret
    exact ⟨rfl, rfl⟩
theorem new_in {w : World} {n : Nat} (h : n ≤ 1048576) : Calls Try.prog 6 #[.int .i64 n] w (NewIn w n []) := by
  have h0 : ¬ (n : Int) < 0 := by omega
  have h2 : ¬ 1048576 < (n : Int) := by omega
  have hmk := fun W => run_make_row' (P := Try.prog) 26 3 (.int .i64 0) 8 Try.underlying26 int_info rfl .i64 .i64 n (by omega) (by omega) W
  go_enter Try.func6, Try.ntmps6
  go_wp2
  go_ret
  have r1 := (World.rowIs_made w (.int .i64 0) n 3).alloc (.cells #[.slice (some ⟨w.heap.size, 0, none⟩) n n, .int .i64 0, .int .i64 0] 45)
  have r2 : ((w.alloc (.cells (madeCells #[.int .i64 0] n) 3)).alloc (.cells #[.slice (some ⟨w.heap.size, 0, none⟩) n n, .int .i64 0, .int .i64 0] 45)).rowIs (w.heap.size + 1) 45 3 (ringF (some w.heap.size) n 0 0) := by
    have := World.rowIs_alloc (w.alloc (.cells (madeCells #[.int .i64 0] n) 3)) #[.slice (some ⟨w.heap.size, 0, none⟩) n n, .int .i64 0, .int .i64 0] 45 (ringF (some w.heap.size) n 0 0) (by
      intro i hi
      match i, hi with
      | 0, _ => rfl
      | 1, _ => rfl
      | 2, _ => rfl)
    simpa using this
  have b1 : Below w.heap.size w ((w.alloc (.cells (madeCells #[.int .i64 0] n) 3)).alloc (.cells #[.slice (some ⟨w.heap.size, 0, none⟩) n n, .int .i64 0, .int .i64 0] 45)) :=
    ((Below.refl _ _).alloc (Nat.le_refl _) _).alloc (by simp) _
  refine ⟨w.heap.size + 1, by simp, ⟨w.heap.size + 1, some w.heap.size, 0, rfl, ⟨r2, .inr ⟨w.heap.size, fun _ => 0, rfl, r1, fun k x h => by simp at h⟩, h, by simp, by omega⟩, by omega, r2.lt, Nat.le_refl _, fun b eb => ?_⟩, b1⟩
  injection eb with eb
  have := r1.lt
  omega

/-! ### Put -/
theorem RingAt.put {w : World} {g b room first : Nat} {l : List Int} (hs : RingAt w g (some b) room first l) (hgb : g ≠ b) (hlt : l.length < room) (x : Int) :
    RingAt ((w.setCell ⟨b, posN room first l.length, none⟩ (.int .i64 x)).setCell ⟨g, 2, none⟩ (.int .i64 ((l.length : Int) + 1))) g (some b) room first (l ++ [x]) := by
  obtain ⟨b', c, eb, hb, hc⟩ := hs.blk (by omega)
  injection eb with eb
  subst eb
  refine ⟨?_, .inr ⟨b, fun k => if k = posN room first l.length then x else c k, rfl, ?_, ?_⟩, hs.small, by rw [List.length_append, List.length_singleton]; omega, hs.fst⟩
  · refine ((hs.head.setOther (a := ⟨b, posN room first l.length, none⟩) (by simpa using hgb) (.int .i64 x)).set 2 (.int .i64 ((l.length : Int) + 1))).congr fun i hi => ?_
    match i, hi with
    | 0, _ => simp [ringF]
    | 1, _ => simp [ringF]
    | 2, _ => simp [ringF]
  · refine ((hb.set (posN room first l.length) (.int .i64 x)).setOther (a := ⟨g, 2, none⟩) (by simpa using hgb.symm) (.int .i64 ((l.length : Int) + 1))).congr fun i _ => ?_
    by_cases e : i = posN room first l.length
    · simp only [if_pos e]
    · simp only [if_neg e]
  · intro k y hk
    have hk' := (List.getElem?_eq_some_iff.1 hk).1
    rw [List.length_append, List.length_singleton] at hk'
    have hf : first < room := by have := hs.fst; omega
    by_cases e : k = l.length
    · subst e
      simp at hk
      simp [hk]
    · rw [List.getElem?_append_left (by omega)] at hk
      simp only
      rw [if_neg (posN_ne hf (by omega) (by omega) e)]
      exact hc k y hk
def StepIn (w : World) (lo hi : Nat) (v : Value) (room : Nat) (l : List Int) (r : Value) (e : Ending) (w' : World) : Prop := e = .returned r ∧ RingIn w' lo hi v room l ∧ Chg lo hi w w'
set_option maxHeartbeats 800000 in
theorem put_yes {w : World} {lo hi room : Nat} {v : Value} {l : List Int} (h : RingIn w lo hi v room l) (hlt : l.length < room) (x : Int) : Calls Try.prog 8 #[v, .int .i64 x] w (StepIn w lo hi v room (l ++ [x]) (.bool true)) := by
  have h00 := h
  obtain ⟨g, A, first, rfl, hs, hlo, hhi, hsz, hA⟩ := h
  obtain ⟨b, c, rfl, hb, hc⟩ := hs.blk (by omega)
  have hgb : g ≠ b := row_type hs.head hb (by decide)
  obtain ⟨hb1, hb2⟩ := hA b rfl
  have hsm := hs.small
  have hf : first ≤ room := by have := hs.fst; omega
  have c0 : w.cell? ⟨g, 0, none⟩ = some (.slice (some ⟨b, 0, none⟩) room room) := hs.c0
  have c1 := hs.c1
  have c2 := hs.c2
  have hp := posN_lt (room := room) (first := first) hlt
  have c3 := hb.cell hp
  have f3 := hb.frozen (posN room first l.length)
  have hg1 := hs.head.setOther (a := ⟨b, posN room first l.length, none⟩) (by simpa using hgb) (.int .i64 x)
  have c4 := hg1.cell (i := 2) (by omega)
  have f4 : ∀ n, ((w.drewN n).setCell ⟨b, posN room first l.length, none⟩ (.int .i64 x)).frozen? ⟨g, 2, none⟩ = false := fun n => hg1.frozen 2
  simp only [ringF] at c4
  have k0 := hg1.cell (i := 0) (by omega)
  have k1 := hg1.cell (i := 1) (by omega)
  simp only [ringF, Option.map_some] at k0 k1
  have HS : Hid (∀ n, ((w.drewN n).setCell ⟨b, posN room first l.length, none⟩ (.int .i64 x)).cell? ⟨g, 0, none⟩ = some (.slice (some ⟨b, 0, none⟩) room room) ∧ ((w.drewN n).setCell ⟨b, posN room first l.length, none⟩ (.int .i64 x)).cell? ⟨g, 1, none⟩ = some (.int .i64 first) ∧
      ((w.drewN n).setCell ⟨b, posN room first l.length, none⟩ (.int .i64 x)).cell? ⟨g, 2, none⟩ = some (.int .i64 l.length)) := fun n => ⟨k0, k1, c4⟩
  have HE : Hid (∀ n, RingAt (((w.drewN n).setCell ⟨b, posN room first l.length, none⟩ (.int .i64 x)).setCell ⟨g, 2, none⟩ (.int .i64 ((l.length : Int) + 1))) g (some b) room first (l ++ [x])) := fun n => (hs.drewN n).put hgb hlt x
  have HK : Hid (∀ W : World, W.cell? ⟨g, 0, none⟩ = some (.slice (some ⟨b, 0, none⟩) room room) → W.cell? ⟨g, 1, none⟩ = some (.int .i64 first) →
      Calls Try.prog 20 #[.pointer (some ⟨g, 0, none⟩), .int .i64 l.length] W fun e w' => e = .returned (.int .i64 (posN room first l.length : Nat)) ∧ ∃ m, w' = W.drewN m) := fun W q0 q1 => cell_any q0 q1 hsm hf hlt
  have HC : Hid (∀ n, Chg lo hi w (((w.drewN n).setCell ⟨b, posN room first l.length, none⟩ (.int .i64 x)).setCell ⟨g, 2, none⟩ (.int .i64 ((l.length : Int) + 1)))) :=
    fun n => ((Chg.drewN lo hi w n).trans (Chg.set _ _ _ hb1 hb2)).trans (Chg.set _ _ _ hlo hhi)
  generalize posN room first l.length = p at *
  have hpr : 0 ≤ (p : Int) ∧ (p : Int) < (room : Int) := by omega
  obtain ⟨m, em⟩ : ∃ m, l.length = m := ⟨_, rfl⟩
  rw [em] at hlt c2 c4 HE HC HK HS
  have HL := Lib.hid em
  have hne : ((m : Int) == (room : Int)) = false := by simp; omega
  have hmr : (m : Int) < (room : Int) := by omega
  clear hs hb hc hg1 em k0 k1
  go_enter Try.func8, Try.ntmps8
  go_wp2_with (first
    | (go_at_call 14; refine (len_is h00 HL.out).mono ?_; rintro e w' ⟨rfl, rfl⟩)
    | (go_at_call 15; refine (room_is h00).mono ?_; rintro e w' ⟨rfl, rfl⟩))
  go_region_held3 (fun W => W.cell? ⟨g, 0, none⟩ = some (.slice (some ⟨b, 0, none⟩) room room) ∧ W.cell? ⟨g, 1, none⟩ = some (.int .i64 first) ∧ W.cell? ⟨g, 2, none⟩ = some (.int .i64 m))
    (first | exact HS.out _ | exact ⟨by assumption, by assumption, by assumption⟩)
    (first
      | (go_at_call 20
         refine (HK.out w.drew c0 c1).mono ?_
         rintro e w' ⟨rfl, n, rfl⟩))
  go_wp2
  go_ret
  exact ⟨rfl, ⟨g, some b, first, rfl, HE.out _, hlo, hhi, by simpa using Nat.le_trans hsz (HC.out 0).size, hA⟩, HC.out _⟩
theorem put_full {w : World} {lo hi room : Nat} {v : Value} {l : List Int} (h : RingIn w lo hi v room l) (hfull : l.length = room) (x : Int) : Calls Try.prog 8 #[v, .int .i64 x] w fun e w' => e = .returned (.bool false) ∧ w = w' := by
  go_enter Try.func8, Try.ntmps8
  go_wp2_with (first
    | (go_at_call 14; refine (len_is h hfull).mono ?_; rintro e w' ⟨rfl, rfl⟩)
    | (go_at_call 15; refine (room_is h).mono ?_; rintro e w' ⟨rfl, rfl⟩))
  go_ret
  exact ⟨rfl, rfl⟩
theorem put_nil (x : Int) (w : World) : Calls Try.prog 8 #[.pointer none, .int .i64 x] w fun e w' => e = .returned (.bool false) ∧ w = w' := by
  go_enter Try.func8, Try.ntmps8
  go_wp2_with (first
    | (go_at_call 14; refine (len_nil _).mono ?_; rintro e w' ⟨rfl, rfl⟩)
    | (go_at_call 15; refine (room_nil _).mono ?_; rintro e w' ⟨rfl, rfl⟩))
  go_ret
  exact ⟨rfl, rfl⟩
def putB (room : Nat) (l : List Int) : Bool := decide (l.length < room)
def putL (room : Nat) (l : List Int) (x : Int) : List Int := if l.length < room then l ++ [x] else l
theorem put_is {w : World} {lo hi room : Nat} {v : Value} {l l' : List Int} {r : Bool} (h : RingIn w lo hi v room l) (x : Int) (e : putL room l x = l') (er : putB room l = r) : Calls Try.prog 8 #[v, .int .i64 x] w (StepIn w lo hi v room l' (.bool r)) := by
  subst e er
  unfold putL putB
  by_cases hlt : l.length < room
  · rw [if_pos hlt, decide_eq_true hlt]; exact put_yes h hlt x
  · rw [if_neg hlt, decide_eq_false hlt]
    refine (put_full h (by have := h.small; omega) x).mono fun _ w' ⟨he, hw⟩ => ?_
    subst hw
    exact ⟨he, h, Chg.refl _ _ _⟩

/-! ### Take -/
theorem RingAt.take {w : World} {g b room first : Nat} {y : Int} {l : List Int} (hs : RingAt w g (some b) room first (y :: l)) (hgb : g ≠ b) (n : Nat) (hn : n = l.length + 1) :
    RingAt ((w.setCell ⟨g, 1, none⟩ (.int .i64 (((first + 1) % room : Nat) : Int))).setCell ⟨g, 2, none⟩ (.int .i64 ((n : Int) - 1))) g (some b) room ((first + 1) % room) l := by
  have hle := hs.le
  rw [List.length_cons] at hle
  obtain ⟨b', c, eb, hb, hc⟩ := hs.blk (by omega)
  injection eb with eb
  subst eb
  have hf : first < room := by have := hs.fst; omega
  refine ⟨?_, .inr ⟨b, c, rfl, ?_, ?_⟩, hs.small, by omega, .inl (Nat.mod_lt _ (by omega))⟩
  · refine ((hs.head.set 1 (.int .i64 (((first + 1) % room : Nat) : Int))).set 2 (.int .i64 ((n : Int) - 1))).congr fun i hi => ?_
    match i, hi with
    | 0, _ => simp [ringF]
    | 1, _ => simp [ringF]
    | 2, _ => simp [ringF]; omega
  · exact ((hb.setOther (a := ⟨g, 1, none⟩) (by simpa using hgb.symm) (.int .i64 (((first + 1) % room : Nat) : Int))).setOther (a := ⟨g, 2, none⟩) (by simpa using hgb.symm) (.int .i64 ((n : Int) - 1)))
  · intro k x hk
    have hk' := (List.getElem?_eq_some_iff.1 hk).1
    rw [posN_next hf (by omega)]
    exact hc (k + 1) x (by simpa using hk)
def someB (l : List Int) : Bool := !l.isEmpty
set_option maxHeartbeats 800000 in
theorem take_yes {w : World} {lo hi room : Nat} {v : Value} {y : Int} {l : List Int} (h : RingIn w lo hi v room (y :: l)) : Calls Try.prog 10 #[v] w (StepIn w lo hi v room l (.tuple #[.int .i64 y, .bool true])) := by
  have h00 := h
  obtain ⟨g, A, first, rfl, hs, hlo, hhi, hsz, hA⟩ := h
  have hle := hs.le
  rw [List.length_cons] at hle
  obtain ⟨b, c, rfl, hb, hc⟩ := hs.blk (by omega)
  have hgb : g ≠ b := row_type hs.head hb (by decide)
  have hsm := hs.small
  have hf : first < room := by have := hs.fst; omega
  have c0 : w.cell? ⟨g, 0, none⟩ = some (.slice (some ⟨b, 0, none⟩) room room) := hs.c0
  have c1 := hs.c1
  have f1 := hs.head.frozen 1
  obtain ⟨n, en⟩ : ∃ n, n = l.length + 1 := ⟨_, rfl⟩
  obtain ⟨q, eq⟩ : ∃ q, q = (first + 1) % room := ⟨_, rfl⟩
  have hg1 := hs.head.set 1 (.int .i64 (q : Int))
  have c2 := hg1.cell (i := 2) (by omega)
  have f2 := hg1.frozen 2
  simp only [ringF, List.length_cons, ← en] at c2
  rw [if_neg (by omega)] at c2
  have HE : Hid (∀ m, RingAt (((w.drewN m).setCell ⟨g, 1, none⟩ (.int .i64 (q : Int))).setCell ⟨g, 2, none⟩ (.int .i64 ((n : Int) - 1))) g (some b) room q l) := fun m => by rw [eq]; exact (hs.drewN m).take hgb n en
  have HC : Hid (∀ m, Chg lo hi w (((w.drewN m).setCell ⟨g, 1, none⟩ (.int .i64 (q : Int))).setCell ⟨g, 2, none⟩ (.int .i64 ((n : Int) - 1)))) :=
    fun m => ((Chg.drewN lo hi w m).trans (Chg.set _ _ _ hlo hhi)).trans (Chg.set _ _ _ hlo hhi)
  have F2 : ∀ m, ((w.drewN m).setCell ⟨g, 1, none⟩ (.int .i64 (q : Int))).frozen? ⟨g, 2, none⟩ = false := fun m => f2
  have C2 : ∀ m, ((w.drewN m).setCell ⟨g, 1, none⟩ (.int .i64 (q : Int))).cell? ⟨g, 2, none⟩ = some (.int .i64 n) := fun m => c2
  have hmod : ((first : Int) + 1) % (room : Int) = (q : Int) := by rw [eq]; push_cast; rfl
  have hwf : IntKind.i64.wrap ((first : Int) + 1) = (first : Int) + 1 := IntWalk.i64_in _ (by omega)
  have htm : Int.tmod ((first : Int) + 1) (room : Int) = (q : Int) := by rw [Int.tmod_eq_emod_of_nonneg (by omega)]; exact hmod
  have hne : ((room : Int) == 0) = false := by simp; omega
  have hne2 : ¬ room = 0 := by omega
  have hpos : 1 ≤ (n : Int) := by omega
  have hn2 : (n : Int) ≤ 1048576 := by omega
  have hr0 : 0 < (room : Int) := by omega
  have hq1 : (q : Int) < (room : Int) := by rw [eq]; exact_mod_cast Nat.mod_lt _ (by omega)
  have hfr : (first : Int) < (room : Int) := by omega
  clear hs hb hc hg1 c2 f2 en eq hle
  go_enter Try.func10, Try.ntmps10
  go_wp2_with fail
  refine (first_is (r := y) (s := true) h00 rfl (by unfold atB; simp)).mono ?_
  rintro e w' ⟨rfl, m, rfl⟩
  go_wp2_with fail
  refine wp_region_still_tail 14 (by kernel_rfl) (by kernel_rfl) ?_
  simp only [List.take_succ_cons, List.take_zero, List.drop_succ_cons, List.drop_zero]
  change wpStill _ _ (w.drewN (m + 1)) _ _ _
  repeat still_step
  refine wpStill_nil ?_
  change wpList _ _ _ _ _ (w.drewN (m + 1))
  go_wp2
  go_ret2
  exact ⟨rfl, ⟨g, some b, q, rfl, HE.out _, hlo, hhi, by simpa using Nat.le_trans hsz (HC.out 0).size, hA⟩, HC.out _⟩
end Go.Proofs.Ythfochpaacjlcaa
