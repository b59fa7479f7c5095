/- The walk of SlotsPlays. -/
import Derived.Test.YtoocdngaimneoaaSlotsPl
import Derived.Test.YtoocdngaimneoaaBaseSame
import Derived.Test.YtoocdngaimneoaaBaseActs
import Derived.Deep.CutRange
namespace Go.Proofs.Ytoocdngaimneoaa
open Go.RowKit Go.Maps

/-- The document's slots in a variable: its four cells in block q. -/
def RVar (w : World) (T : Nat → Prop) (q : Nat) (n : Nat) (s : St) : Prop := ∃ Ao co Ag cg Ac cc, w.rowIs q 29 4 (sF (.slice Ao n co) (.slice Ag n cg) (.slice Ac s.closed.length cc) (.int .i64 s.fresh)) ∧ RAt w T (.agg #[.slice Ao n co, .slice Ag n cg, .slice Ac s.closed.length cc, .int .i64 s.fresh]) n s
theorem RVar.keep {w w' : World} {T : Nat → Prop} {q n : Nat} {s : St} (h : RVar w T q n s) (hs : Same (fun k => T k ∨ k = q) w w') : RVar w' T q n s := by
  obtain ⟨Ao, co, Ag, cg, Ac, cc, h1, h2⟩ := h
  exact ⟨Ao, co, Ag, cg, Ac, cc, row_same h1 hs (.inr rfl), h2.keep ⟨hs.size, fun k hk => hs.block k (.inl hk)⟩⟩
theorem RVar.lt {w : World} {T : Nat → Prop} {q n : Nat} {s : St} (h : RVar w T q n s) : q < w.heap.size := by
  obtain ⟨Ao, co, Ag, cg, Ac, cc, h1, h2⟩ := h
  exact h1.lt
/-- Slots at s, and the document's at t in a variable, behind k calls. -/
structure Both (w0 w : World) (S T : Nat → Prop) (q : Nat) (v : Value) (n k : Nat) (s t : St) : Prop where
  slots : SlotsAt w S v n s
  rvar : RVar w T q n t
  sq : ¬ S q
  tq : ¬ T q
  st : Apart S T
  heap : InHeap T w
  bel : Below w0.heap.size w0 w
  from_ : ∀ k, S k → w0.heap.size ≤ k
  lq : w0.heap.size ≤ q
  low : Low k s
section
variable {w0 w w' : World} {S T S' T' : Nat → Prop} {q : Nat} {v : Value} {n k : Nat} {s t s' : St}
theorem Both.below (h : Both w0 w S T q v n k s t) (hb : Below w.heap.size w w') : Both w0 w' S T q v n k s t :=
  ⟨h.slots.below hb, h.rvar.keep (.of_below _ hb), h.sq, h.tq, h.st, h.heap.more hb.size, h.bel.trans (hb.mono h.bel.size), h.from_, h.lq, h.low⟩
theorem Both.drew (h : Both w0 w S T q v n k s t) : Both w0 w.drew S T q v n k s t := h.below (below_drew w)
/-- The slots have made a step. -/
theorem Both.stepS (h : Both w0 w S T q v n k s t) (hs : SlotsAt w' S' v n s') (hm : Moved S w S' w') (hl : Low (k + 1) s') : Both w0 w' S' T q v n (k + 1) s' t := by
  have h1 := h.bel.size
  have hq := h.rvar.lt
  refine ⟨hs, h.rvar.keep (hm.turn.same fun j hj hk => ?_), fun e => ?_, h.tq, hm.apart h.st h.heap, h.heap.more hm.turn.size, hm.below h.bel h1 h.from_, hm.from_ h.from_ h1, h.lq, hl⟩
  · rcases hk with hk | rfl
    · exact h.st j hj hk
    · exact h.sq hj
  · rcases hm.new q e with e | e
    · exact h.sq e
    · omega
theorem row_vals {w : World} {g : Nat} {t : TypeId} {a b c d : Value} (h : w.rowIs g t 4 (sF a b c d)) : (w.cell? ⟨g, 0, none⟩ = some a ∧ w.cell? ⟨g, 1, none⟩ = some b ∧ w.cell? ⟨g, 2, none⟩ = some c ∧ w.cell? ⟨g, 3, none⟩ = some d) ∧ w.frozen? ⟨g, 0, none⟩ = false ∧ w.frozen? ⟨g, 1, none⟩ = false ∧ w.frozen? ⟨g, 2, none⟩ = false ∧ w.frozen? ⟨g, 3, none⟩ = false :=
  ⟨⟨h.cell (i := 0) (by omega), h.cell (i := 1) (by omega), h.cell (i := 2) (by omega), h.cell (i := 3) (by omega)⟩, h.frozen 0, h.frozen 1, h.frozen 2, h.frozen 3⟩
/-- The document's have made a step; what they are now is not in the variable yet. -/
structure Mid (w0 w : World) (S T T' : Nat → Prop) (q : Nat) (v u : Value) (n k : Nat) (s t t' : St) : Prop where
  both : Both w0 w S T q v n k s t
  val : RAt w T' u n t'
  heap : InHeap T' w
  st : Apart S T'
  tq : ¬ T' q
theorem Both.stepT {u : Value} {t' : St} (h : Both w0 w S T q v n k s t) (hb : Below w.heap.size w w') (hv : RAt w' T' u n t') (hh : InHeap T' w') (hn : ∀ k, T' k → T k ∨ w.heap.size ≤ k) : Mid w0 w' S T T' q v u n k s t t' := by
  refine ⟨h.below hb, hv, hh, fun j hs hj => ?_, fun hj => ?_⟩
  · rcases hn j hj with e | e
    · exact h.st j hs e
    · have := h.slots.heap j hs; omega
  · rcases hn q hj with e | e
    · exact h.tq e
    · have := h.rvar.lt; omega
theorem Mid.below {u : Value} {t' : St} (h : Mid w0 w S T T' q v u n k s t t') (hb : Below w.heap.size w w') : Mid w0 w' S T T' q v u n k s t t' := ⟨h.both.below hb, h.val.below hb, h.heap.more hb.size, h.st, h.tq⟩
theorem Mid.stepS {u : Value} {t' : St} (h : Mid w0 w S T T' q v u n k s t t') (hs : SlotsAt w' S' v n s') (hm : Moved S w S' w') (hl : Low (k + 1) s') : Mid w0 w' S' T T' q v u n (k + 1) s' t t' :=
  ⟨h.both.stepS hs hm hl, h.val.keep (hm.turn.same h.st), h.heap.more hm.turn.size, hm.apart h.st h.heap, h.tq⟩
/-- What they are now is put into the variable. -/
theorem Mid.store {Ao Ag Ac : Option Addr} {co cg cc : Nat} {t' : St} (h : Mid w0 w S T T' q v (.agg #[.slice Ao n co, .slice Ag n cg, .slice Ac t'.closed.length cc, .int .i64 t'.fresh]) n k s t t') :
    Both w0 ((((w.setCell ⟨q, 0, none⟩ (.slice Ao n co)).setCell ⟨q, 1, none⟩ (.slice Ag n cg)).setCell ⟨q, 2, none⟩ (.slice Ac t'.closed.length cc)).setCell ⟨q, 3, none⟩ (.int .i64 t'.fresh)) S T' q v n k s t' := by
  obtain ⟨Bo, do_, Bg, dg, Bc, dc, h1, h2⟩ := h.both.rvar
  have ht : Turn (fun j => j = q) w ((((w.setCell ⟨q, 0, none⟩ (.slice Ao n co)).setCell ⟨q, 1, none⟩ (.slice Ag n cg)).setCell ⟨q, 2, none⟩ (.slice Ac t'.closed.length cc)).setCell ⟨q, 3, none⟩ (.int .i64 t'.fresh)) :=
    (((Turn.set (S := fun j => j = q) _ _ _ rfl).trans (Turn.set _ _ _ rfl)).trans (Turn.set _ _ _ rfl)).trans (Turn.set _ _ _ rfl)
  exact ⟨h.both.slots.keep (ht.same fun j e hj => h.both.sq (e ▸ hj)), ⟨Ao, co, Ag, cg, Ac, cc, row_all h1 _ _ _ _, h.val.keep (ht.same fun j e hj => h.tq (e ▸ hj))⟩, h.both.sq, h.tq, h.st, h.heap.more ht.size, ht.below h.both.bel h.both.bel.size (fun j e => by rw [e]; exact h.both.lq), h.both.from_, h.both.lq, h.both.low⟩
end
theorem plays_out {w : World} {A : Option Addr} {len c : Nat} {n : Int} (h : 80 < (len : Int) ∨ (300 < n ∧ n ≤ 1048576)) :
    Calls Try.prog 3 #[.int .i64 n, .slice A len c] w (TrueBelow w) := by
  have hnot := not_any
  by_cases h1 : 80 < (len : Int)
  · clear h
    go_enter Try.func3, Try.ntmps3
    go_wp2_with fail
    refine works_any.mono ?_
    rintro e w' ⟨rfl, hb⟩
    go_wp2
    go_ret
    exact ⟨rfl, hb⟩
  · have h2 : 300 < n := by omega
    have h3 : n ≤ 1048576 := by omega
    clear h
    go_enter Try.func3, Try.ntmps3
    go_wp2_with fail
    refine works_any.mono ?_
    rintro e w' ⟨rfl, hb⟩
    go_wp2
    go_ret
    exact ⟨rfl, hb⟩
theorem plays_none {w : World} {A : Option Addr} {len c : Nat} {n : Int} (h0 : ¬ 80 < (len : Int)) (h : n < 0 ∨ 1048576 < n) :
    Calls Try.prog 3 #[.int .i64 n, .slice A len c] w (TrueBelow w) := by
  have hnot := not_any
  have HN := Lib.hid h
  rcases h with h | h
  · have h3 : ¬ 300 < n := by omega
    go_enter Try.func3, Try.ntmps3
    go_wp2_with fail
    refine (new_no n w HN.out).mono ?_
    rintro e w' ⟨rfl, rfl⟩
    go_wp2_with fail
    refine works_any.mono ?_
    rintro e w' ⟨rfl, hb⟩
    go_wp2
    go_ret
    exact ⟨rfl, hb⟩
  · have h3 : 300 < n := by omega
    have h4 : ¬ n ≤ 1048576 := by omega
    have h5 : ¬ n < 0 := by omega
    go_enter Try.func3, Try.ntmps3
    go_wp2_with fail
    refine (new_no n w HN.out).mono ?_
    rintro e w' ⟨rfl, rfl⟩
    go_wp2_with fail
    refine works_any.mono ?_
    rintro e w' ⟨rfl, hb⟩
    go_wp2
    go_ret
    exact ⟨rfl, hb⟩
set_option maxRecDepth 100000 in
set_option maxHeartbeats 6400000 in
theorem plays_in {w : World} {A : Option Addr} {acs : List (Bool × Int × Int)} {len c n : Nat} (h : ActsAt w A acs) (hlen : len = acs.length) (hle : len ≤ 80) (hn : n ≤ 300) :
    Calls Try.prog 3 #[.int .i64 n, .slice A len c] w (TrueBelow w) := by
  have hnot := not_any
  have h80 : ¬ 80 < (len : Int) := by omega
  have h300 : ¬ 300 < (n : Int) := by omega
  have hn0 : ¬ (n : Int) < 0 := by omega
  have hnm : ¬ 1048576 < (n : Int) := by omega
  have HN := Lib.hid hlen
  have H := Lib.hid h
  clear h hlen
  go_enter Try.func3, Try.ntmps3
  go_wp2_with fail
  refine (new_in (n := n) w (by omega)).mono ?_
  rintro e w1 ⟨g, S1, rfl, s1, b1, l1⟩
  go_wp2_with fail
  refine (rnew_any w1 (n := n) (by omega)).mono ?_
  rintro e w2 ⟨v2, T2, rfl, r2, ht2, lt2, b2⟩
  obtain ⟨Ao, co, Ag, cg, Ac, cc, rfl, hcc, r3, r4, r5⟩ := r2
  have hlc : St.none.closed.length = 0 := rfl
  have hlf : St.none.fresh = 0 := rfl
  have z2 : Both w (w2.alloc (.cells #[.slice Ao n co, .slice Ag n cg, .slice Ac 0 cc, .int .i64 0] 29)) S1 T2 w2.heap.size (.pointer (some ⟨g, 0, none⟩)) n 0 St.none St.none := by
    have ba : Below w2.heap.size w2 (w2.alloc (.cells #[.slice Ao n co, .slice Ag n cg, .slice Ac 0 cc, .int .i64 0] 29)) := (Below.refl _ _).alloc (Nat.le_refl _) _
    have hr : RAt w2 T2 (.agg #[.slice Ao n co, .slice Ag n cg, .slice Ac 0 cc, .int .i64 0]) n St.none := ⟨Ao, co, Ag, cg, Ac, cc, rfl, hcc, r3, r4, r5⟩
    have hS := s1.heap
    have hz := b2.size
    have hz1 := b1.size
    refine ⟨(s1.below b2).below ba, ⟨Ao, co, Ag, cg, Ac, cc, row_lit4 w2 _ _ _ _ _, hr.below ba⟩, fun e => ?_, fun e => ?_, fun j hs hj => ?_, ht2.more ba.size, (b1.trans (b2.mono hz1)).trans (ba.mono (by omega)), l1, by omega, Low.new⟩
    · have := hS _ e; omega
    · have := ht2 _ e; omega
    · have := hS j hs; have := lt2 j hj; omega
  have Z2 := Lib.hid z2
  clear s1 b1 l1 ht2 lt2 b2 hcc r3 r4 r5 z2
  go_upto_region 9 with fail
  generalize w2.alloc (.cells #[.slice Ao n co, .slice Ag n cg, .slice Ac 0 cc, .int .i64 0] 29) = W2 at *
  generalize w2.heap.size = q at *
  clear hlc hlf
  go_wp2
  go_loopw [7] (fun i wr => ∃ (k : Nat) (s : St) (S T : Nat → Prop), k ≤ len ∧ i = .int .i64 k ∧ Hid (Both w wr S T q (.pointer (some ⟨g, 0, none⟩)) n k s s)) (fun i _ => len - (intOf i).toNat)
  case atStart => exact ⟨0, St.none, S1, T2, Nat.zero_le _, rfl, Z2⟩
  case round =>
    clear Z2 h80 h300 hn0 hnm
    obtain ⟨k, s, S, T, hk, rfl, Z⟩ := hrel
    by_cases hlt : k < len
    · have hka : k < acs.length := by have := HN.out; omega
      have hi : 0 ≤ (k : Int) ∧ (k : Int) < (len : Int) := by omega
      obtain ⟨ab, ao, d, x, y, rfl, habl, hc0, hc1, hc2, hx, hy⟩ := H.out.at_ hka
      have d0 : wr.cell? ⟨ab, ao + k * 3, none⟩ = some (.bool d) := (Z.out.bel.cell (p := ⟨ab, ao + k * 3, none⟩) habl).trans hc0
      have d1 : wr.cell? ⟨ab, ao + k * 3 + 1, none⟩ = some (.int .i64 x) := (Z.out.bel.cell (p := ⟨ab, ao + k * 3 + 1, none⟩) habl).trans hc1
      have d2 : wr.cell? ⟨ab, ao + k * 3 + 2, none⟩ = some (.int .i64 y) := (Z.out.bel.cell (p := ⟨ab, ao + k * 3 + 2, none⟩) habl).trans hc2
      have HC0 : Hid (∀ W : World, Below w.heap.size w W → W.cell? ⟨ab, ao + k * 3, none⟩ = some (.bool d)) := fun W hW => (hW.cell (p := ⟨ab, ao + k * 3, none⟩) habl).trans hc0
      obtain ⟨r, er⟩ : ∃ r, rightI s x y = r := ⟨_, rfl⟩
      have HR := Lib.hid er
      have HX := Lib.hid hx
      have hok := Z.out.slots.ok
      have hlk : k ≤ 80 := by omega
      clear hc0 hc1 hc2 er hx hy
      go_upto_region 12 with fail
      go_quiet (fail)
      clear d0 d1 d2
      have Z1 := Lib.hid (Z.out.below (w' := wr.drewN nq) ⟨rfl, rfl, rfl, Nat.le_refl _, fun _ _ => rfl⟩)
      clear Z
      generalize wr.drewN nq = w3 at *
      -- Right, twice
      obtain ⟨Ao, co, Ag, cg, Ac, cc, rw3, hra3⟩ := Z1.out.rvar
      obtain ⟨⟨e0, e1, e2, e3⟩, _⟩ := row_vals rw3
      have HCQ : Hid (∀ W : World, Below w3.heap.size w3 W → W.cell? ⟨q, 0, none⟩ = some (.slice Ao n co) ∧ W.cell? ⟨q, 1, none⟩ = some (.slice Ag n cg) ∧ W.cell? ⟨q, 2, none⟩ = some (.slice Ac s.closed.length cc) ∧ W.cell? ⟨q, 3, none⟩ = some (.int .i64 s.fresh)) := fun W hW =>
        (row_vals (row_same rw3 (.of_below (fun _ => True) hW) trivial)).1
      have HRA : Hid (∀ W : World, Below w3.heap.size w3 W → RAt W T (.agg #[.slice Ao n co, .slice Ag n cg, .slice Ac s.closed.length cc, .int .i64 s.fresh]) n s) := fun W hW => hra3.below hW
      have HSA : Hid (∀ W : World, Below w3.heap.size w3 W → SlotsAt W S (.pointer (some ⟨g, 0, none⟩)) n s) := fun W hW => Z1.out.slots.below hW
      have HOK := Lib.hid hok
      have hb0 := below_drew w3
      obtain ⟨m, em⟩ : ∃ m, s.closed.length = m := ⟨_, rfl⟩
      obtain ⟨f, ef⟩ : ∃ f, s.fresh = f := ⟨_, rfl⟩
      rw [em] at e2 HCQ HRA
      rw [ef] at e3 HCQ HRA
      clear rw3 hra3 hok em ef
      have hrr : (r != r) = false := by simp
      have hbl := below_drew w3
      go_upto_region 13 with fail
      go_cut [73] from 49 to 144 (fun b wx => b = .bool false ∧ Hid (Below w3.heap.size w3 wx))
      case first =>
        go_region_held3 (fun W => W.cell? ⟨q, 0, none⟩ = some (.slice Ao n co) ∧ W.cell? ⟨q, 1, none⟩ = some (.slice Ag n cg) ∧ W.cell? ⟨q, 2, none⟩ = some (.slice Ac m cc) ∧ W.cell? ⟨q, 3, none⟩ = some (.int .i64 f))
          (first | (refine ⟨?_, ?_, ?_, ?_⟩ <;> with_reducible assumption) | exact ⟨e0, e1, e2, e3⟩)
          (first
            | (go_at_call 9
               refine (right_at (HSA.out _ (by with_reducible assumption)) HX.out HR.out).mono ?_
               rintro e w4 ⟨rfl, b4⟩
               have hbl := below_next (a := w3) (by with_reducible assumption) b4
               obtain ⟨q0, q1, q2, q3⟩ := HCQ.out w4 hbl)
            | (go_at_call 10
               refine (rright_at (HRA.out _ (by with_reducible assumption)) HOK.out HR.out).mono ?_
               rintro e w4 ⟨rfl, b4⟩
               have hbl := below_next (a := w3) (by with_reducible assumption) b4
               obtain ⟨q0, q1, q2, q3⟩ := HCQ.out w4 hbl))
        all_goals
          have HBL := Lib.hid hbl
          go_wp2_with fail
          go_meet
          case rel => exact ⟨rfl, HBL⟩
      case rest =>
        obtain ⟨rfl, HBL⟩ := hcut
        have Z4 := Lib.hid (Z1.out.below HBL.out)
        clear Z1 HCQ HRA HSA e0 e1 e2 e3 hb0 hbl hrr HBL
        have d0 := HC0.out _ Z4.out.bel
        go_upto_if 78 with fail
        clear d0
        go_cut [10, 11, 12, 13, 14, 15, 16, 17, 18] from 49 to 144 (fun a b c d e f g' h i wx => ∃ (S' T' : Nat → Prop) (s' : St), Hid (Both w wx S' T' q (.pointer (some ⟨g, 0, none⟩)) n (k + 1) s' s'))
        case first =>
          obtain ⟨Bo, do_, Bg, dg, Bc, dc, rw4, hra4⟩ := Z4.out.rvar
          obtain ⟨⟨e0, e1, e2, e3⟩, t0, t1, t2, t3⟩ := row_vals rw4
          obtain ⟨m, em⟩ : ∃ m, s.closed.length = m := ⟨_, rfl⟩
          obtain ⟨f, ef⟩ : ∃ f, s.fresh = f := ⟨_, rfl⟩
          rw [em] at e2 hra4
          rw [ef] at e3 hra4
          have HRA := Lib.hid hra4
          clear rw4 hra4 em ef t0 t1 t2 t3
          cases d with
          | true =>
            go_wp2_with fail
            refine (rclose_any HRA.out Z4.out.heap HOK.out (by omega) Z4.out.low (by omega) rfl HR.out).mono ?_
            rintro e w5 ⟨v5, T5, rfl, r5, h5, n5, b5⟩
            have M5 := Z4.out.stepT b5 r5 h5 n5
            obtain ⟨Co, ec, Cg, eg, Cc, fc, rfl, _, _, _, _⟩ := r5
            clear e0 e1 e2 e3 HRA b5 h5 n5
            obtain ⟨mc, emc⟩ : ∃ mc, (closeI s x y).closed.length = mc := ⟨_, rfl⟩
            obtain ⟨fc', efc⟩ : ∃ fc', (closeI s x y).fresh = fc' := ⟨_, rfl⟩
            rw [emc, efc] at M5 ⊢
            have HMC := Lib.hid emc
            have HFC := Lib.hid efc
            have rx := row_lit4 w5 (.slice Co n ec) (.slice Cg n eg) (.slice Cc mc fc) (.int .i64 fc') 29
            have M6 := Lib.hid (M5.below ((Below.refl _ _).alloc (Nat.le_refl _) (.cells #[.slice Co n ec, .slice Cg n eg, .slice Cc mc fc, .int .i64 fc'] 29)))
            have hSx := M5.both.slots.heap
            clear M5 emc efc
            go_upto_region 17 with fail
            generalize w5.alloc (.cells #[.slice Co n ec, .slice Cg n eg, .slice Cc mc fc, .int .i64 fc'] 29) = w6 at *
            generalize hBx : w5.heap.size = bx at *
            go_wp2_with fail
            refine (close_is M6.out.both.slots HX.out M6.out.both.low (by omega) rfl HR.out).mono ?_
            rintro e w7 ⟨S7, rfl, s7, m7⟩
            have M7 := M6.out.stepS s7 m7 (M6.out.both.low.closeI x y)
            have r7 := row_same rx (m7.turn.same (T := fun j => j = bx) fun j hj e => by have := hSx j hj; omega) rfl
            obtain ⟨⟨x0, x1, x2, x3⟩, _⟩ := row_vals r7
            obtain ⟨Do, gc, Dg, gd, Dc, ge, rw7, _⟩ := M7.both.rvar
            obtain ⟨⟨e0, e1, e2, e3⟩, t0, t1, t2, t3⟩ := row_vals rw7
            have M8 := Lib.hid M7
            have hrr : (r != r) = false := by simp
            clear rx r7 rw7 M6 M7 s7 m7 hSx hBx
            generalize s.closed.length = m at *
            generalize s.fresh = f at *
            go_wp2_with fail
            go_meet
            case rel =>
              have := M8.out
              rw [← HMC.out, ← HFC.out] at this ⊢
              exact ⟨S7, T5, _, Lib.hid this.store⟩
          | false =>
            go_wp2_with fail
            refine (rone_any HRA.out Z4.out.heap HOK.out (by omega) (s1 := s.openO n) rfl rfl rfl rfl).mono ?_
            rintro e w5 ⟨v5, T5, rfl, r5, h5, n5, b5⟩
            have M5 := Z4.out.stepT b5 r5 h5 n5
            obtain ⟨Co, ec, Cg, eg, Cc, fc, rfl, _, _, _, _⟩ := r5
            clear e0 e1 e2 e3 HRA b5 h5 n5
            have hlow1 := Z4.out.low.openO (n := n)
            have HOP : Hid (∀ (W : World) (S : Nat → Prop), SlotsAt W S (.pointer (some ⟨g, 0, none⟩)) n s → Calls Try.prog 14 #[.pointer (some ⟨g, 0, none⟩)] W (StepIn W S (.pointer (some ⟨g, 0, none⟩)) n (s.openO n) (.tuple #[.int .i64 (s.placeO n : Nat), .int .i64 (s.genO n : Nat), .bool (s.more n)]))) := fun W S hS => open_at hS
            generalize s.openO n = sn at *
            generalize s.placeO n = pn at *
            generalize s.genO n = gn at *
            generalize s.more n = mn at *
            obtain ⟨mc, emc⟩ : ∃ mc, sn.closed.length = mc := ⟨_, rfl⟩
            obtain ⟨fc', efc⟩ : ∃ fc', sn.fresh = fc' := ⟨_, rfl⟩
            rw [emc, efc] at M5 ⊢
            have HMC := Lib.hid emc
            have HFC := Lib.hid efc
            have HL1 := Lib.hid hlow1
            have rx := row_lit4 w5 (.slice Co n ec) (.slice Cg n eg) (.slice Cc mc fc) (.int .i64 fc') 29
            have M6 := Lib.hid (M5.below ((Below.refl _ _).alloc (Nat.le_refl _) (.cells #[.slice Co n ec, .slice Cg n eg, .slice Cc mc fc, .int .i64 fc'] 29)))
            have hSx := M5.both.slots.heap
            clear M5 emc efc hlow1
            go_upto_region 21 with fail
            generalize w5.alloc (.cells #[.slice Co n ec, .slice Cg n eg, .slice Cc mc fc, .int .i64 fc'] 29) = w6 at *
            generalize hBx : w5.heap.size = bx at *
            go_wp2_with fail
            refine (HOP.out _ _ M6.out.both.slots).mono ?_
            rintro e w7 ⟨S7, rfl, s7, m7⟩
            have M7 := M6.out.stepS s7 m7 (HL1.out.mono (Nat.le_succ k))
            have r7 := row_same rx (m7.turn.same (T := fun j => j = bx) fun j hj e => by have := hSx j hj; omega) rfl
            obtain ⟨⟨x0, x1, x2, x3⟩, _⟩ := row_vals r7
            obtain ⟨Do, gc, Dg, gd, Dc, ge, rw7, _⟩ := M7.both.rvar
            obtain ⟨⟨e0, e1, e2, e3⟩, t0, t1, t2, t3⟩ := row_vals rw7
            have M8 := Lib.hid M7
            have hr1 : ((pn : Int) != (pn : Int)) = false := by simp
            have hr2 : ((gn : Int) != (gn : Int)) = false := by simp
            have hr3 : (mn != mn) = false := by simp
            clear rx r7 rw7 M6 M7 s7 m7 hSx hBx
            generalize s.closed.length = m at *
            generalize s.fresh = f at *
            go_wp2_with fail
            go_meet
            case rel =>
              have := M8.out
              rw [← HMC.out, ← HFC.out] at this ⊢
              exact ⟨S7, T5, _, Lib.hid this.store⟩
        case rest =>
          obtain ⟨S5, T5, sn, Z5⟩ := hcut
          clear Z4 HOK HR
          obtain ⟨gv, egv⟩ : ∃ gv, genI n sn x = gv := ⟨_, rfl⟩
          obtain ⟨Bo, do_, Bg, dg, Bc, dc, rw4, hra4⟩ := Z5.out.rvar
          obtain ⟨⟨e0, e1, e2, e3⟩, _⟩ := row_vals rw4
          have HCQ : Hid (∀ W : World, Below wc.heap.size wc W → W.cell? ⟨q, 0, none⟩ = some (.slice Bo n do_) ∧ W.cell? ⟨q, 1, none⟩ = some (.slice Bg n dg) ∧ W.cell? ⟨q, 2, none⟩ = some (.slice Bc sn.closed.length dc) ∧ W.cell? ⟨q, 3, none⟩ = some (.int .i64 sn.fresh)) := fun W hW =>
            (row_vals (row_same rw4 (.of_below (fun _ => True) hW) trivial)).1
          have HRA : Hid (∀ W : World, Below wc.heap.size wc W → RAt W T5 (.agg #[.slice Bo n do_, .slice Bg n dg, .slice Bc sn.closed.length dc, .int .i64 sn.fresh]) n sn) := fun W hW => hra4.below hW
          have HSA : Hid (∀ W : World, Below wc.heap.size wc W → SlotsAt W S5 (.pointer (some ⟨g, 0, none⟩)) n sn) := fun W hW => Z5.out.slots.below hW
          have hig : 0 ≤ x → x < (n : Int) → ∃ (b o p : Nat), x = (p : Int) ∧ Bg = some ⟨b, o, none⟩ ∧ wc.cell? ⟨b, o + p, none⟩ = some (.int .i64 gv) := fun h0 h1 => by
            obtain ⟨p, rfl⟩ := Int.eq_ofNat_of_zero_le h0
            obtain ⟨Xo, xo, Xg, xg, Xc, xc, eX, _, _, hi, _⟩ := hra4
            injection eX with eX
            injection eX with eX
            injection eX with _ eX
            injection eX with eX _
            injection eX with eXg _ _
            subst eXg
            obtain ⟨b, o, rfl, _, _, hc⟩ := hi.at_ (ints_get (gensL_at (s := sn) (show p < n by omega)))
            refine ⟨b, o, p, rfl, rfl, ?_⟩
            rw [hc, ← egv]
            unfold genI
            rw [if_pos ⟨h0, h1⟩, Int.toNat_natCast]
          have hog : ¬ (0 ≤ x ∧ x < (n : Int)) → gv = -1 := fun h0 => by rw [← egv]; exact if_neg h0
          obtain ⟨m, em⟩ : ∃ m, sn.closed.length = m := ⟨_, rfl⟩
          obtain ⟨f, ef⟩ : ∃ f, sn.fresh = f := ⟨_, rfl⟩
          obtain ⟨lp, elp⟩ : ∃ lp, (placesOf n sn.opn).length = lp := ⟨_, rfl⟩
          rw [em] at e2 HCQ HRA
          rw [ef] at e3 HCQ HRA
          have HG := Lib.hid egv
          have HLP := Lib.hid elp
          clear rw4 hra4 em ef elp egv
          have hbl := below_drew wc
          have hll : ((lp : Int) != (lp : Int)) = false := by simp
          have hgg : (gv != gv) = false := by simp
          by_cases hx0 : 0 ≤ x
          · by_cases hxn : x < (n : Int)
            · obtain ⟨gb, go, p, rfl, rfl, hgc⟩ := hig hx0 hxn
              clear hig hog
              go_upto_region 28 with fail
              go_region_held3 (fun W => W.cell? ⟨q, 0, none⟩ = some (.slice Bo n do_) ∧ W.cell? ⟨q, 1, none⟩ = some (.slice (some ⟨gb, go, none⟩) n dg) ∧ W.cell? ⟨q, 2, none⟩ = some (.slice Bc m dc) ∧ W.cell? ⟨q, 3, none⟩ = some (.int .i64 f))
                (first | (refine ⟨?_, ?_, ?_, ?_⟩ <;> with_reducible assumption) | exact ⟨e0, e1, e2, e3⟩)
                (first
                  | (go_at_call 15; refine (gen_at (HSA.out _ (by with_reducible assumption)) HG.out).mono ?_; rintro e w' ⟨rfl, rfl⟩)
                  | (go_at_call 16; refine (len_at (HSA.out _ (by with_reducible assumption)) HLP.out).mono ?_; rintro e w' ⟨rfl, rfl⟩)
                  | (go_at_call 17
                     refine (rplaces_any (HRA.out _ (by with_reducible assumption)) (by omega)).mono ?_
                     rintro e w6 ⟨A6, c6, rfl, _, _, b6⟩
                     rw [HLP.out]
                     have hbl := below_next (a := wc) (by with_reducible assumption) b6
                     obtain ⟨q0, q1, q2, q3⟩ := HCQ.out w6 hbl))
              all_goals
                have Z6 := Lib.hid (Z5.out.below hbl)
                clear HSA HRA HCQ hbl e0 e1 e2 e3
                go_wp2
                go_roundw
                case rel => exact ⟨k + 1, sn, S5, T5, by omega, by go_num, Z6⟩
                case measure => simp [intOf]; omega
            · have hgv := hog (fun h => hxn h.2)
              subst hgv
              clear hig hog
              go_upto_region 28 with fail
              go_region_held3 (fun W => W.cell? ⟨q, 0, none⟩ = some (.slice Bo n do_) ∧ W.cell? ⟨q, 1, none⟩ = some (.slice Bg n dg) ∧ W.cell? ⟨q, 2, none⟩ = some (.slice Bc m dc) ∧ W.cell? ⟨q, 3, none⟩ = some (.int .i64 f))
                (first | (refine ⟨?_, ?_, ?_, ?_⟩ <;> with_reducible assumption) | exact ⟨e0, e1, e2, e3⟩)
                (first
                  | (go_at_call 15; refine (gen_at (HSA.out _ (by with_reducible assumption)) HG.out).mono ?_; rintro e w' ⟨rfl, rfl⟩)
                  | (go_at_call 16; refine (len_at (HSA.out _ (by with_reducible assumption)) HLP.out).mono ?_; rintro e w' ⟨rfl, rfl⟩)
                  | (go_at_call 17
                     refine (rplaces_any (HRA.out _ (by with_reducible assumption)) (by omega)).mono ?_
                     rintro e w6 ⟨A6, c6, rfl, _, _, b6⟩
                     rw [HLP.out]
                     have hbl := below_next (a := wc) (by with_reducible assumption) b6
                     obtain ⟨q0, q1, q2, q3⟩ := HCQ.out w6 hbl))
              all_goals
                have Z6 := Lib.hid (Z5.out.below hbl)
                clear HSA HRA HCQ hbl e0 e1 e2 e3
                go_wp2
                go_roundw
                case rel => exact ⟨k + 1, sn, S5, T5, by omega, by go_num, Z6⟩
                case measure => simp [intOf]; omega
          · have hgv := hog (fun h => hx0 h.1)
            subst hgv
            clear hig hog
            go_upto_region 28 with fail
            go_region_held3 (fun W => W.cell? ⟨q, 0, none⟩ = some (.slice Bo n do_) ∧ W.cell? ⟨q, 1, none⟩ = some (.slice Bg n dg) ∧ W.cell? ⟨q, 2, none⟩ = some (.slice Bc m dc) ∧ W.cell? ⟨q, 3, none⟩ = some (.int .i64 f))
              (first | (refine ⟨?_, ?_, ?_, ?_⟩ <;> with_reducible assumption) | exact ⟨e0, e1, e2, e3⟩)
              (first
                | (go_at_call 15; refine (gen_at (HSA.out _ (by with_reducible assumption)) HG.out).mono ?_; rintro e w' ⟨rfl, rfl⟩)
                | (go_at_call 16; refine (len_at (HSA.out _ (by with_reducible assumption)) HLP.out).mono ?_; rintro e w' ⟨rfl, rfl⟩)
                | (go_at_call 17
                   refine (rplaces_any (HRA.out _ (by with_reducible assumption)) (by omega)).mono ?_
                   rintro e w6 ⟨A6, c6, rfl, _, _, b6⟩
                   rw [HLP.out]
                   have hbl := below_next (a := wc) (by with_reducible assumption) b6
                   obtain ⟨q0, q1, q2, q3⟩ := HCQ.out w6 hbl))
            all_goals
              have Z6 := Lib.hid (Z5.out.below hbl)
              clear HSA HRA HCQ hbl e0 e1 e2 e3
              go_wp2
              go_roundw
              case rel => exact ⟨k + 1, sn, S5, T5, by omega, by go_num, Z6⟩
              case measure => simp [intOf]; omega
    · obtain ⟨Bo, do_, Bg, dg, Bc, dc, rw4, hra4⟩ := Z.out.rvar
      obtain ⟨⟨e0, e1, e2, e3⟩, _⟩ := row_vals rw4
      have HCQ : Hid (∀ W : World, Below wr.heap.size wr W → W.cell? ⟨q, 0, none⟩ = some (.slice Bo n do_) ∧ W.cell? ⟨q, 1, none⟩ = some (.slice Bg n dg) ∧ W.cell? ⟨q, 2, none⟩ = some (.slice Bc s.closed.length dc) ∧ W.cell? ⟨q, 3, none⟩ = some (.int .i64 s.fresh)) := fun W hW =>
        (row_vals (row_same rw4 (.of_below (fun _ => True) hW) trivial)).1
      have HRA : Hid (∀ W : World, Below wr.heap.size wr W → RAt W T (.agg #[.slice Bo n do_, .slice Bg n dg, .slice Bc s.closed.length dc, .int .i64 s.fresh]) n s) := fun W hW => hra4.below hW
      have HSA : Hid (∀ W : World, Below wr.heap.size wr W → SlotsAt W S (.pointer (some ⟨g, 0, none⟩)) n s) := fun W hW => Z.out.slots.below hW
      have HIL : Hid ((ints (placesOf n s.opn)).length = (placesOf n s.opn).length) := ints_length _
      have hpl := placesOf_le n s.opn
      have HSM : Hid (sameInts (ints (placesOf n s.opn)) (ints (placesOf n s.opn)) = true) := decide_eq_true rfl
      obtain ⟨m, em⟩ : ∃ m, s.closed.length = m := ⟨_, rfl⟩
      obtain ⟨f, ef⟩ : ∃ f, s.fresh = f := ⟨_, rfl⟩
      rw [em] at e2 HCQ HRA
      rw [ef] at e3 HCQ HRA
      have hbl := below_drew wr
      clear rw4 hra4 em ef
      go_upto_region 30 with fail
      go_region_held3 (fun W => W.cell? ⟨q, 0, none⟩ = some (.slice Bo n do_) ∧ W.cell? ⟨q, 1, none⟩ = some (.slice Bg n dg) ∧ W.cell? ⟨q, 2, none⟩ = some (.slice Bc m dc) ∧ W.cell? ⟨q, 3, none⟩ = some (.int .i64 f))
        (first | (refine ⟨?_, ?_, ?_, ?_⟩ <;> with_reducible assumption) | exact ⟨e0, e1, e2, e3⟩)
        (first
          | (go_at_call 19
             refine (places_at (HSA.out _ (by with_reducible assumption))).mono ?_
             rintro e w6 ⟨v6, rfl, ⟨A6, c6, rfl, _, i6, _⟩, b6⟩
             rw [HIL.out]
             have I6 := Lib.hid i6
             have hbl := below_next (a := wr) (by with_reducible assumption) b6
             obtain ⟨q0, q1, q2, q3⟩ := HCQ.out w6 hbl
             (first | (have J7 := Lib.hid (IntsAt.below I7.out b6)) | skip))
          | (go_at_call 17
             refine (rplaces_any (HRA.out _ (by with_reducible assumption)) (by omega)).mono ?_
             rintro e w6 ⟨A7, c7, rfl, i7, _, b7⟩
             have I7 := Lib.hid i7
             have hbl := below_next (a := wr) (by with_reducible assumption) b7
             obtain ⟨q0, q1, q2, q3⟩ := HCQ.out w6 hbl
             (first | (have J6 := Lib.hid (IntsAt.below I6.out b7)) | skip))
          | (go_at_call 18
             (first
               | refine (same_is J6.out I7.out HIL.out.symm HIL.out.symm (by rw [HIL.out]; omega) HSM.out).mono ?_
               | refine (same_is I6.out J7.out HIL.out.symm HIL.out.symm (by rw [HIL.out]; omega) HSM.out).mono ?_)
             rintro e w8 ⟨rfl, n8, rfl⟩
             have hbl8 := below_next hbl (below_dn w6 n8)
             obtain ⟨q0, q1, q2, q3⟩ := HCQ.out _ hbl8)
          | (go_at_call 6
             refine works_any.mono ?_
             rintro e w9 ⟨rfl, b9⟩
             have hbl9 := below_next hbl8 b9
             obtain ⟨q0, q1, q2, q3⟩ := HCQ.out _ hbl9))
      all_goals
        have HF := Lib.hid (Z.out.bel.trans (hbl9.mono Z.out.bel.size))
        clear HCQ HRA HSA hbl hbl8 hbl9
        go_wp2
        go_ret
        exact ⟨rfl, HF.out⟩
theorem plays_any {w : World} {A : Option Addr} {acs : List (Bool × Int × Int)} {len c : Nat} {n : Int} (h : ActsAt w A acs) (hlen : len = acs.length) :
    Calls Try.prog 3 #[.int .i64 n, .slice A len c] w (TrueBelow w) := by
  by_cases h1 : 80 < (len : Int)
  · exact plays_out (.inl h1)
  · by_cases h2 : 300 < n ∧ n ≤ 1048576
    · exact plays_out (.inr h2)
    · by_cases h3 : n < 0 ∨ 1048576 < n
      · exact plays_none h1 h3
      · obtain ⟨k, rfl⟩ := Int.eq_ofNat_of_zero_le (show 0 ≤ n by omega)
        exact plays_in h hlen (by omega) (by omega)
end Go.Proofs.Ytoocdngaimneoaa
