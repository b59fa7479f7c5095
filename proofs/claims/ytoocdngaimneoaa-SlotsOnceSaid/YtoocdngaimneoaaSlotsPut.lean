/- Layer 6 (slots): what take, Open, Close return, and how slots lie in memory behind them: contracts. -/
import Derived.Test.YtoocdngaimneoaaSlotsAsk
namespace Go.Proofs.Ytoocdngaimneoaa
open Go.RowKit Go.Maps

/-! ### one step of what lies in memory -/
section
variable {w w' w1 W : World} {S : Nat → Prop} {g n : Nat} {vg vc v1 : Value} {b : Nat} {G C : List Nat} {D : DataW Unit}
theorem MemAt.gv (h : MemAt w S g n vg vc b G C D) : vg.ownBlock ≠ some g := own_not_row h.gens h.head (by decide)
theorem MemAt.cv (h : MemAt w S g n vg vc b G C D) : vc.ownBlock ≠ some g := own_not_row h.clos h.head (by decide)
theorem MemAt.gb (h : MemAt w S g n vg vc b G C D) : vg.ownBlock ≠ some b := own_not_map h.gens h.mapp
theorem MemAt.cb (h : MemAt w S g n vg vc b G C D) : vc.ownBlock ≠ some b := own_not_map h.clos h.mapp
theorem MemAt.hb (h : MemAt w S g n vg vc b G C D) : g ≠ b := row_not_map h.head h.mapp
theorem dropLast_vals (l : List Nat) : (vals l).take (l.length - 1) = vals l.dropLast := by
  unfold vals
  rw [← List.map_take, List.dropLast_eq_take]
/-- The one that was closed last is closed no more. -/
theorem MemAt.cutC {kc cap : Nat} (h : MemAt w S g n vg (.slice (some ⟨kc, 0, none⟩) C.length cap) b G C D) : MemAt (w.setCell ⟨g, 2, none⟩ (.slice (some ⟨kc, 0, none⟩) (C.length - 1) cap)) S g n vg (.slice (some ⟨kc, 0, none⟩) (C.length - 1) cap) b G C.dropLast D := by
  have h1 := own_cut h.clos (m := C.length - 1) (by omega)
  refine ⟨?_, own_other h.gens h.gv _ _, own_like (own_other h1 (b := g) h.cv _ _) (by rw [List.length_dropLast]) (dropLast_vals C), h.mapp.setCell (a := ⟨g, 2, none⟩) h.hb.symm _, h.apart, h.sg, h.sb, h.svg, h.svc, h.heap.more (by simp [World.setCell])⟩
  refine (h.head.set 2 _).congr fun j hj => ?_
  match j, hj with
  | 0, _ => rfl
  | 1, _ => rfl
  | 2, _ => rfl
  | 3, _ => rfl
/-- One more place, in a row that append has made longer. -/
theorem MemAt.pushG {x : Nat} (h : MemAt w S g n vg vc b G C D) (hW : Below w.heap.size w W) (ho : w1.ownsRow 0 3 1 v1 (G.length + 1) (vals G ++ [.int .i64 x])) (hgr : W.grownBy w1 vg.ownBlock) (hat : v1.ownBlock = vg.ownBlock ∨ v1.ownBlock = some W.heap.size) :
    MemAt (w1.setCell ⟨g, 1, none⟩ v1) (fun k => S k ∨ v1.ownBlock = some k) g n v1 vc b (G ++ [x]) C D ∧ Moved S w (fun k => S k ∨ v1.ownBlock = some k) (w1.setCell ⟨g, 1, none⟩ v1) := by
  have hs := hW.size
  have hgl := h.head.lt
  have hbl := h.mapp.lt
  have sW := Same.of_below S hW
  have hv1g : v1.ownBlock ≠ some g := by
    rcases hat with e | e
    · rw [e]; exact h.gv
    · rw [e]; intro e2; injection e2 with e2; omega
  have hcl : ∀ k, vc.ownBlock = some k → k < w.heap.size := fun k hk => (h.clos.lt k hk).2
  refine ⟨⟨?_, ?_, ?_, ?_, ?_, .inl h.sg, .inl h.sb, fun k hk => .inr hk, fun k hk => .inl (h.svc k hk), ?_⟩, ⟨?_, ?_⟩⟩
  · refine ((row_grown (row_same h.head sW h.sg) hgr h.gv.symm).set 1 v1).congr fun j hj => ?_
    match j, hj with
    | 0, _ => rfl
    | 1, _ => rfl
    | 2, _ => rfl
    | 3, _ => rfl
  · exact own_like (own_other ho hv1g 1 v1) (by simp) (by rw [vals_append]; rfl)
  · refine own_other ((own_same h.clos sW h.svc).kept hgr ?_) h.cv 1 v1
    cases e : vc.ownBlock with
    | none => exact .inl rfl
    | some k => exact .inr fun e2 => h.apart k e2.symm e
  · exact ((map_same h.mapp sW h.sb).kept hgr h.gb.symm).setCell (a := ⟨g, 1, none⟩) h.hb.symm v1
  · intro k hk e
    rcases hat with e1 | e1
    · exact h.apart k (e1 ▸ hk) e
    · rw [e1] at hk
      injection hk with hk
      have := hcl k e
      omega
  · intro k hk
    have hsz : (w1.setCell ⟨g, 1, none⟩ v1).heap.size = w1.heap.size := by simp [World.setCell]
    rw [hsz]
    rcases hk with hk | hk
    · have := h.heap k hk
      have := hgr.size
      omega
    · exact (ho.lt k hk).2
  · exact ((Turn.of_below S hW).trans (Turn.of_grown hgr h.svg)).trans (Turn.set _ _ _ h.sg)
  · intro k hk
    rcases hk with hk | hk
    · exact .inl hk
    · rcases hat with e | e
      · exact .inl (h.svg k (e ▸ hk))
      · rw [e] at hk
        injection hk with hk
        exact .inr (by omega)
/-- One more that is closed. -/
theorem MemAt.pushC {x : Nat} (h : MemAt w S g n vg vc b G C D) (hW : Below w.heap.size w W) (ho : w1.ownsRow 0 3 1 v1 (C.length + 1) (vals C ++ [.int .i64 x])) (hgr : W.grownBy w1 vc.ownBlock) (hat : v1.ownBlock = vc.ownBlock ∨ v1.ownBlock = some W.heap.size) :
    MemAt (w1.setCell ⟨g, 2, none⟩ v1) (fun k => S k ∨ v1.ownBlock = some k) g n vg v1 b G (C ++ [x]) D ∧ Moved S w (fun k => S k ∨ v1.ownBlock = some k) (w1.setCell ⟨g, 2, none⟩ v1) := by
  have hs := hW.size
  have hgl := h.head.lt
  have hbl := h.mapp.lt
  have sW := Same.of_below S hW
  have hv1g : v1.ownBlock ≠ some g := by
    rcases hat with e | e
    · rw [e]; exact h.cv
    · rw [e]; intro e2; injection e2 with e2; omega
  have hcl : ∀ k, vg.ownBlock = some k → k < w.heap.size := fun k hk => (h.gens.lt k hk).2
  refine ⟨⟨?_, ?_, ?_, ?_, ?_, .inl h.sg, .inl h.sb, fun k hk => .inl (h.svg k hk), fun k hk => .inr hk, ?_⟩, ⟨?_, ?_⟩⟩
  · refine ((row_grown (row_same h.head sW h.sg) hgr h.cv.symm).set 2 v1).congr fun j hj => ?_
    match j, hj with
    | 0, _ => rfl
    | 1, _ => rfl
    | 2, _ => rfl
    | 3, _ => rfl
  · refine own_other ((own_same h.gens sW h.svg).kept hgr ?_) h.gv 2 v1
    cases e : vg.ownBlock with
    | none => exact .inl rfl
    | some k => exact .inr fun e2 => h.apart k e e2.symm
  · exact own_like (own_other ho hv1g 2 v1) (by simp) (by rw [vals_append]; rfl)
  · exact ((map_same h.mapp sW h.sb).kept hgr h.cb.symm).setCell (a := ⟨g, 2, none⟩) h.hb.symm v1
  · intro k hk e
    rcases hat with e1 | e1
    · exact h.apart k hk (e1 ▸ e)
    · rw [e1] at e
      injection e with e
      have := hcl k hk
      omega
  · intro k hk
    have hsz : (w1.setCell ⟨g, 2, none⟩ v1).heap.size = w1.heap.size := by simp [World.setCell]
    rw [hsz]
    rcases hk with hk | hk
    · have := h.heap k hk
      have := hgr.size
      omega
    · exact (ho.lt k hk).2
  · exact ((Turn.of_below S hW).trans (Turn.of_grown hgr h.svc)).trans (Turn.set _ _ _ h.sg)
  · intro k hk
    rcases hk with hk | hk
    · exact .inl hk
    · rcases hat with e | e
      · exact .inl (h.svc k (e ▸ hk))
      · rw [e] at hk
        injection hk with hk
        exact .inr (by omega)
theorem MemAt.turned {D' : DataW Unit} {j : Nat} (h : MemAt w S g n vg vc b G C D) (hm : w'.ownsMap Try.prog 3 unitElem b j D') (ht : w.mapTurned w' b) : MemAt w' S g n vg vc b G C D' ∧ Turn S w w' := by
  have hg := ht.grown
  have kept : ∀ {v : Value} {m : Nat} {xs : List Value}, w.ownsRow 0 3 1 v m xs → v.ownBlock ≠ some b → w'.ownsRow 0 3 1 v m xs := fun h1 h2 => h1.kept hg (.inr h2)
  exact ⟨⟨row_grown h.head hg (by intro e; injection e with e; exact h.hb e), kept h.gens h.gb, kept h.clos h.cb, tight hm, h.apart, h.sg, h.sb, h.svg, h.svc, h.heap.more hg.size⟩, Turn.of_grown hg fun k e => by injection e with e; rw [← e]; exact h.sb⟩
theorem MemAt.setG {kg cap p y : Nat} (h : MemAt w S g n (.slice (some ⟨kg, 0, none⟩) G.length cap) vc b G C D) : MemAt (w.setCell ⟨kg, p, none⟩ (.int .i64 y)) S g n (.slice (some ⟨kg, 0, none⟩) G.length cap) vc b (G.set p y) C D := by
  have h1 := own_set h.gens p (.int .i64 y)
  have hgk : g ≠ kg := fun e => h.gv (by rw [e]; rfl)
  have hbk : b ≠ kg := fun e => h.gb (by rw [e]; rfl)
  refine ⟨h.head.setOther (a := ⟨kg, p, none⟩) hgk _, own_like h1 (by rw [List.length_set]) ?_, own_other h.clos (fun e => h.apart kg rfl e) _ _, h.mapp.setCell (a := ⟨kg, p, none⟩) hbk _, h.apart, h.sg, h.sb, h.svg, h.svc, h.heap.more (by simp [World.setCell])⟩
  unfold vals
  rw [List.map_set]
end

/-! ### take -/
theorem cut_last (W : World) (b m c : Nat) (h1 : 1 ≤ m) (hmc : m ≤ c) : (Instr.slice 27 (.slice (some ⟨b, 0, none⟩) m c) none (some (.int .i64 ((m : Int) - 1))) none).run Try.prog W = .ok (.slice (some ⟨b, 0, none⟩) (m - 1) c) W := by
  rw [run_slice_h (P := Try.prog) W 27 (some ⟨b, 0, none⟩) m c (by kernel_rfl) .i64 ((m : Int) - 1) (by omega) (by omega)]
  rw [show (sizeOf (Try.prog.elem 27)).run Try.prog W = .ok 1 W by kernel_rfl]
  have e1 : ((m : Int) - 1).toNat = m - 1 := by omega
  rw [e1]
  simp [Result.andThen, sliced, Addr.add]
section
variable {w : World} {S : Nat → Prop} {g n : Nat} {vg vc : Value} {b : Nat} {G C : List Nat} {D : DataW Unit}
def TakeIn (w : World) (S : Nat → Prop) (g n b : Nat) (D : DataW Unit) (p : Nat) (G C : List Nat) (e : Ending) (w' : World) : Prop := ∃ vg vc S', e = .returned (.int .i64 p) ∧ MemAt w' S' g n vg vc b G C D ∧ Moved S w S' w'
theorem take_again (h : MemAt w S g n vg vc b G C D) (hC : 0 < C.length) (hC2 : C.length ≤ 1048576) : Calls Try.prog 23 #[.pointer (some ⟨g, 0, none⟩)] w (TakeIn w S g n b D (lastOf C) G C.dropLast) := by
  obtain ⟨kc, cap, rfl, hcap, _⟩ := own_some h.clos hC
  have c2 := h.c2
  have f2 := h.head.frozen 2
  have cl : w.cell? ⟨kc, C.length - 1, none⟩ = some (.int .i64 (lastOf C : Nat)) := by rw [World.ownsRow.cellAt h.clos _ (by omega), vals_at (lastOf_at hC)]
  have HE := Lib.hid h.cutC
  have HT : Hid (Turn S w (w.setCell ⟨g, 2, none⟩ (.slice (some ⟨kc, 0, none⟩) (C.length - 1) cap))) := Turn.set w 2 (.slice (some ⟨kc, 0, none⟩) (C.length - 1) cap) h.sg
  have hct := fun W => cut_last W kc C.length cap hC hcap
  generalize lastOf C = top at *
  generalize C.dropLast = C' at *
  generalize C.length = m at *
  have hi1 : 1 ≤ (m : Int) := by omega
  have hir : 0 ≤ (m : Int) - 1 ∧ (m : Int) - 1 < (m : Int) := by omega
  have hwr : IntKind.i64.wrap ((m : Int) - 1) = (m : Int) - 1 := IntWalk.i64_in _ (by omega)
  have hto : ((m : Int) - 1).toNat = m - 1 := by omega
  clear h
  go_enter Try.func23, Try.ntmps23
  go_wp2
  go_ret
  exact ⟨_, _, S, rfl, HE.out, .of_turn HT.out⟩
theorem take_next (h : MemAt w S g n vg vc b G [] D) (hG : G.length ≤ 1048576) : Calls Try.prog 23 #[.pointer (some ⟨g, 0, none⟩)] w (TakeIn w S g n b D G.length (G ++ [0]) []) := by
  obtain ⟨i0, hi0, hz0, hz1, hz2⟩ := info_parts int_info
  obtain ⟨Ac, cc, rfl, _⟩ := own_len h.clos
  have c2 := h.c2
  have c1 := h.c1
  have HI := Lib.hid hi0
  have HZ0 := Lib.hid hz0
  have HZ1 := Lib.hid hz1
  have HZ2 := Lib.hid hz2
  have HG := Lib.hid (h.gens.alloc (.cells #[.int .i64 0] 3))
  have HH := Lib.hid h
  rw [show ([] : List Nat).length = 0 from rfl] at c2
  clear hi0 hz0 hz1 hz2 h
  go_enter Try.func23, Try.ntmps23
  go_wp2_with (at_builtin; refine wpList_append_own_at _ rfl _ _ 27 rfl 0 3 i0 (.int .i64 0) 1 8 Try.underlying27 HI.out HZ0.out HZ1.out HZ2.out rfl (by decide) _ _ _ rfl HG.out ⟨w.heap.size, 0, none⟩ 1 1 [.int .i64 0] rfl rfl (new_one _ _ _) (one_int _ _) (by unfold maxLen; omega) (by omega) (by omega) ?_
               intro v1 w1 hown1 hgr1 _ hat1
               have hE := HH.out.pushG (W := w.alloc (.cells #[.int .i64 0] 3)) ((Below.refl _ _).alloc (Nat.le_refl _) _) hown1 hgr1 hat1
               have hq := row_grown (HH.out.head.alloc (.cells #[.int .i64 0] 3)) hgr1 HH.out.gv.symm
               have k1 := hq.cell (i := 1) (by omega)
               have q1 := hq.frozen 1
               have k2 := hE.1.c1
               obtain ⟨A1, cc1, rfl, _⟩ := own_len hown1
               have H := Lib.hid hE
               clear hq hE hgr1 hown1 hat1)
  go_ret
  exact ⟨_, _, _, rfl, H.out.1, H.out.2⟩
end
end Go.Proofs.Ytoocdngaimneoaa
