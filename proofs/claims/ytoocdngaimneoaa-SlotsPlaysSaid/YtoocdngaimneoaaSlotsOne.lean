/- What the document's own OpenOne for layer 6 (copyholdref06) returns: a contract. Written by gen_openone.py. -/
import Derived.Test.YtoocdngaimneoaaSlotsDocs
namespace Go.Proofs.Ytoocdngaimneoaa
open Go.RowKit Go.Maps

theorem cut_at (W : World) (b off m c : Nat) (h1 : 1 ≤ m) (hmc : m ≤ c) : (Instr.slice 27 (.slice (some ⟨b, off, none⟩) m c) none (some (.int .i64 ((m : Int) - 1))) none).run Try.prog W = .ok (.slice (some ⟨b, off, none⟩) (m - 1) c) W := by
  rw [run_slice_h (P := Try.prog) W 27 (some ⟨b, off, none⟩) m c (by kernel_rfl) .i64 ((m : Int) - 1) (by omega) (by omega)]
  rw [show (sizeOf (Try.prog.elem 27)).run Try.prog W = .ok 1 W by kernel_rfl]
  have e1 : ((m : Int) - 1).toNat = m - 1 := by omega
  rw [e1]
  simp [Result.andThen, sliced, Addr.add]
theorem ints_dropLast (l : List Nat) : ∀ (k : Nat) (x : Int), (ints l.dropLast)[k]? = some x → (ints l)[k]? = some x := by
  intro k x h
  unfold ints at h ⊢
  rw [List.getElem?_map, List.getElem?_dropLast] at h
  rw [List.getElem?_map]
  split at h
  · exact h
  · cases h
theorem IntsF.dropLast {w : World} {T : Nat → Prop} {A : Option Addr} {l : List Nat} (h : IntsF w T A (Go.Proofs.Ytoocdngaimneoaa.ints l)) : IntsF w T A (Go.Proofs.Ytoocdngaimneoaa.ints l.dropLast) := by
  rcases h with h | ⟨b, off, e, ht, hb, hc⟩
  · have : l = [] := by cases l with
      | nil => rfl
      | cons _ _ => unfold Go.Proofs.Ytoocdngaimneoaa.ints at h; cases h
    subst this
    exact .inl rfl
  · exact .inr ⟨b, off, e, ht, hb, fun k x hx => hc k x (ints_dropLast l k x hx)⟩
theorem cell_all {w : World} {a : Addr} {v : Value} {g : Nat} (h : w.cell? a = some v) (hb : a.block ≠ g) (x y z u : Value) : ((((w.setCell ⟨g, 0, none⟩ x).setCell ⟨g, 1, none⟩ y).setCell ⟨g, 2, none⟩ z).setCell ⟨g, 3, none⟩ u).cell? a = some v := by
  have e : ∀ (W : World) (i : Nat) (x : Value), (W.setCell ⟨g, i, none⟩ x).cell? a = W.cell? a := fun W i x => World.cell?_of_block (heap_setCell_other _ _ _ _ hb)
  rw [e, e, e, e, h]
theorem gensL_same (n : Nat) (s s' : St) (e : s'.gen = s.gen) : gensL n s = gensL n s' := by unfold gensL; rw [e]
section
variable {w : World} {T : Nat → Prop} {v : Value} {n : Nat} {s : St}
set_option maxHeartbeats 1600000 in
theorem rone_again (h : RAt w T v n s) (hT : InHeap T w) (hok : Ok n s) (hsm : n ≤ 1048576) (hc : 0 < s.closed.length) {p q : Nat} (hp : lastOf s.closed = p) (hq : s.gen p = q) : Calls Try.prog 13 #[v] w (RStep w T n s.again [.int .i64 p, .int .i64 q, .bool true]) := by
  obtain ⟨Ao, co, Ag, cg, Ac, cc, rfl, hcc, h1, h2, h3⟩ := h
  have hpn : p < n := by rw [← hp]; exact Nat.lt_of_lt_of_le (hok.shut _ (lastOf_mem hc)).1 hok.le
  have HOS := Lib.hid (opensL_upd n p true s s.again (by rw [← hp]; rfl))
  have HGS : Hid (gensL n s = gensL n s.again) := gensL_same n s s.again rfl
  have HGP : Hid ((gensL n s)[p]? = some q) := by show _ = _; rw [gensL_at hpn, hq]
  have HLO : Hid ((opensL n s).length = n) := opensL_length n s
  have HLG : Hid ((gensL n s).length = n) := gensL_length n s
  have H1 := Lib.hid h1
  have H2 := Lib.hid h2
  have hla : (ints s.closed)[s.closed.length - 1]? = some (p : Int) := by rw [← hp]; exact ints_get (lastOf_at hc)
  obtain ⟨bc, oc, rfl, hbc, _, hlc⟩ := h3.at_ hla
  have HCI := Lib.hid h3.dropLast
  have HT := Lib.hid hT
  have hml : s.closed.length ≤ n := by have := hok.count; have := hok.le; omega
  have hcl' : s.again.closed.length = s.closed.length - 1 := List.length_dropLast
  have HFR : Hid (s.again.fresh = s.fresh) := rfl
  obtain ⟨m, em⟩ : ∃ m, s.closed.length = m := ⟨_, rfl⟩
  obtain ⟨f, ef⟩ : ∃ f, s.fresh = f := ⟨_, rfl⟩
  rw [ef] at HFR ⊢
  rw [em] at hcl' hml hcc hc hlc ⊢
  have HCL := Lib.hid hcl'
  have hct := fun W => cut_at W bc oc m cc hc hcc
  clear h1 h2 h3 hT hok hp hq hla em ef hcl'
  have r0 := (row_lit4 w (.slice Ao n co) (.slice Ag n cg) (.slice (some ⟨bc, oc, none⟩) m cc) (.int .i64 f) 29).alloc (.cells #[.slice none 0 0, .slice none 0 0, .slice none 0 0, .int .i64 0] 29)
  have s0 := row_lit4 (w.alloc (.cells #[.slice Ao n co, .slice Ag n cg, .slice (some ⟨bc, oc, none⟩) m cc, .int .i64 f] 29)) (.slice none 0 0) (.slice none 0 0) (.slice none 0 0) (.int .i64 0) 29
  have b0 : Below w.heap.size w ((w.alloc (.cells #[.slice Ao n co, .slice Ag n cg, .slice (some ⟨bc, oc, none⟩) m cc, .int .i64 f] 29)).alloc (.cells #[.slice none 0 0, .slice none 0 0, .slice none 0 0, .int .i64 0] 29)) := ((Below.refl _ _).alloc (Nat.le_refl _) _).alloc (by simp) _
  have hsz : (w.alloc (.cells #[.slice Ao n co, .slice Ag n cg, .slice (some ⟨bc, oc, none⟩) m cc, .int .i64 f] 29)).heap.size = w.heap.size + 1 := by simp
  rw [hsz] at s0
  have hs2 : w.heap.size + 2 ≤ ((w.alloc (.cells #[.slice Ao n co, .slice Ag n cg, .slice (some ⟨bc, oc, none⟩) m cc, .int .i64 f] 29)).alloc (.cells #[.slice none 0 0, .slice none 0 0, .slice none 0 0, .int .i64 0] 29)).heap.size := by simp
  clear hsz
  go_enter Try.func13, Try.ntmps13
  go_upto_region 1 with fail
  generalize (w.alloc (.cells #[.slice Ao n co, .slice Ag n cg, .slice (some ⟨bc, oc, none⟩) m cc, .int .i64 f] 29)).alloc (.cells #[.slice none 0 0, .slice none 0 0, .slice none 0 0, .int .i64 0] 29) = W at *
  have e0 := r0.cell (i := 0) (by omega)
  have e1 := r0.cell (i := 1) (by omega)
  have e2 := r0.cell (i := 2) (by omega)
  have e3 := r0.cell (i := 3) (by omega)
  simp only [sF] at e0 e1 e2 e3
  have hlW : W.cell? ⟨bc, oc + (m - 1), none⟩ = some (.int .i64 p) := (b0.cell (p := ⟨bc, oc + (m - 1), none⟩) hbc).trans hlc
  have hi1 : 1 ≤ (m : Int) := by omega
  have hir : 0 ≤ (m : Int) - 1 ∧ (m : Int) - 1 < (m : Int) := by omega
  have hwr : IntKind.i64.wrap ((m : Int) - 1) = (m : Int) - 1 := IntWalk.i64_in _ (by omega)
  have hto : ((m : Int) - 1).toNat = m - 1 := by omega
  have f2 := r0.frozen 2
  have R0 := Lib.hid r0
  have S0 := Lib.hid s0
  have B0 := Lib.hid b0
  clear r0 s0 b0 hlc
  go_upto_region 4 with fail
  have r3 := row_set2 R0.out (.slice (some ⟨bc, oc, none⟩) (m - 1) cc)
  have s3 := S0.out.setOther (a := ⟨w.heap.size, 2, none⟩) (by simp) (.slice (some ⟨bc, oc, none⟩) (m - 1) cc)
  have b3 := B0.out.setCell (p := ⟨w.heap.size, 2, none⟩) (Nat.le_refl _) (.slice (some ⟨bc, oc, none⟩) (m - 1) cc)
  have hs3 : w.heap.size + 2 ≤ (W.setCell ⟨w.heap.size, 2, none⟩ (.slice (some ⟨bc, oc, none⟩) (m - 1) cc)).heap.size := by simp [World.setCell]; exact hs2
  clear R0 S0 B0 hlW f2 hs2 hi1 hir hwr hto hct
  clear e0 e1 e2 e3
  generalize W.setCell ⟨w.heap.size, 2, none⟩ (.slice (some ⟨bc, oc, none⟩) (m - 1) cc) = W3 at *
  have e0 := r3.cell (i := 0) (by omega)
  have e1 := r3.cell (i := 1) (by omega)
  have e2 := r3.cell (i := 2) (by omega)
  have e3 := r3.cell (i := 3) (by omega)
  simp only [sF] at e0 e1 e2 e3
  obtain ⟨bg, og, rfl, hbg, hTb, hcg⟩ := (H2.out.keep (.of_below T b3)).at_ (ints_get HGP.out)
  have F1 : Hid (BoolsF W3.drew T Ao (opensL n s)) := (H1.out.keep (.of_below T b3)).keep (.drewN T W3 1)
  have F2 : Hid (IntsF W3.drew T (some ⟨bg, og, none⟩) (ints (gensL n s))) := (H2.out.keep (.of_below T b3)).keep (.drewN T W3 1)
  have hbg3 : bg ≠ w.heap.size + 1 := by have := HT.out bg hTb; omega
  have e0d : W3.drew.cell? ⟨w.heap.size, 0, none⟩ = some (.slice Ao n co) := e0
  have e1d : W3.drew.cell? ⟨w.heap.size, 1, none⟩ = some (.slice (some ⟨bg, og, none⟩) n cg) := e1
  have e2d : W3.drew.cell? ⟨w.heap.size, 2, none⟩ = some (.slice (some ⟨bc, oc, none⟩) (m - 1) cc) := e2
  have e3d : W3.drew.cell? ⟨w.heap.size, 3, none⟩ = some (.int .i64 f) := e3
  have hcgd : W3.drew.cell? ⟨bg, og + p, none⟩ = some (.int .i64 q) := hcg
  have S3 := Lib.hid s3
  have B3 := Lib.hid b3
  have hpr : 0 ≤ (p : Int) ∧ (p : Int) < (n : Int) := by omega
  clear r3 s3 b3
  go_region_held3 (fun X => X.cell? ⟨w.heap.size, 0, none⟩ = some (.slice Ao n co) ∧ X.cell? ⟨w.heap.size, 1, none⟩ = some (.slice (some ⟨bg, og, none⟩) n cg) ∧ X.cell? ⟨w.heap.size, 2, none⟩ = some (.slice (some ⟨bc, oc, none⟩) (m - 1) cc) ∧ X.cell? ⟨w.heap.size, 3, none⟩ = some (.int .i64 f) ∧ X.cell? ⟨bg, og + p, none⟩ = some (.int .i64 q))
    (first
      | (refine ⟨?_, ?_, ?_, ?_, ?_⟩ <;> with_reducible assumption)
      | exact ⟨cell_all e0' (by simp) _ _ _ _, cell_all e1' (by simp) _ _ _ _, cell_all e2' (by simp) _ _ _ _, cell_all e3' (by simp) _ _ _ _, cell_all hcg' hbg3 _ _ _ _⟩)
    (first
      | (go_at_call 21
         (with_reducible refine (rwith_any F1.out F2.out HLO.out HLG.out hpn hsm true).mono ?_)
         rintro e w4 ⟨go, co4, gg, cg4, rfl, o4, q4, b4⟩
         have s4 := row_same S3.out (.of_below (fun _ => True) (show Below W3.heap.size W3 w4 from ⟨b4.os, b4.tape, b4.output, b4.size, b4.block⟩)) trivial
         have b5 := B3.out.trans (Below.mono (show Below W3.heap.size W3 w4 from ⟨b4.os, b4.tape, b4.output, b4.size, b4.block⟩) B3.out.size)
         have k0 := (Same.of_below (fun _ => True) (show Below W3.heap.size W3 w4 from ⟨b4.os, b4.tape, b4.output, b4.size, b4.block⟩))
         have hsz4 := b4.size
         have hlt3 : w.heap.size < W3.heap.size := by omega
         have e0' := (World.cell?_of_block (w := W3) (w' := w4) (a := ⟨w.heap.size, 0, none⟩) (k0.block w.heap.size trivial hlt3)).trans e0
         have e1' := (World.cell?_of_block (w := W3) (w' := w4) (a := ⟨w.heap.size, 1, none⟩) (k0.block w.heap.size trivial hlt3)).trans e1
         have e2' := (World.cell?_of_block (w := W3) (w' := w4) (a := ⟨w.heap.size, 2, none⟩) (k0.block w.heap.size trivial hlt3)).trans e2
         have e3' := (World.cell?_of_block (w := W3) (w' := w4) (a := ⟨w.heap.size, 3, none⟩) (k0.block w.heap.size trivial hlt3)).trans e3
         have hcg' := (World.cell?_of_block (w := W3) (w' := w4) (a := ⟨bg, og + p, none⟩) (k0.block _ trivial hbg)).trans hcg
         have g0 := s4.cell (i := 0) (by omega)
         have g1 := s4.cell (i := 1) (by omega)
         have g2 := s4.cell (i := 2) (by omega)
         have g3 := s4.cell (i := 3) (by omega)
         have t0 := s4.frozen 0
         have t1 := s4.frozen 1
         have t2 := s4.frozen 2
         have t3 := s4.frozen 3
         simp only [sF] at g0 g1 g2 g3
         have S4 := Lib.hid s4
         have O4 := Lib.hid o4
         have Q4 := Lib.hid q4
         have B5 := Lib.hid b5
         clear s4 o4 q4 b5 k0 b4))
  go_wp2
  refine bodyPost_ret_by (results_cell_four rfl _ _ (w.heap.size + 1) 29 _ (0, 0) _ rfl (row4 (row_all S4.out _ _ _ _)) Try.underlying29 rfl (by kernel_rfl) rfl rfl rfl) rfl ?_
  have bl := below_all B5.out (g := w.heap.size + 1) (by omega) (.slice (some ⟨go, 0, none⟩) n co4) (.slice (some ⟨gg, 0, none⟩) n cg4) (.slice (some ⟨bc, oc, none⟩) (m - 1) cc) (.int .i64 f)
  have hgo := (O4.out.lt go rfl).1
  have hgg := (Q4.out.lt gg rfl).1
  have hw3 : W3.drew.heap.size = W3.heap.size := rfl
  have ol := (own_all O4.out (g := w.heap.size + 1) (fun e => by have := blk_eq e; omega) (.slice (some ⟨go, 0, none⟩) n co4) (.slice (some ⟨gg, 0, none⟩) n cg4) (.slice (some ⟨bc, oc, none⟩) (m - 1) cc) (.int .i64 f)).mono (base' := w.heap.size) (by omega)
  have ql := (own_all Q4.out (g := w.heap.size + 1) (fun e => by have := blk_eq e; omega) (.slice (some ⟨go, 0, none⟩) n co4) (.slice (some ⟨gg, 0, none⟩) n cg4) (.slice (some ⟨bc, oc, none⟩) (m - 1) cc) (.int .i64 f)).mono (base' := w.heap.size) (by omega)
  refine ⟨_, Plus T w _, rfl, ?_, Plus.heap HT.out bl.size, fun k hk => hk.elim .inl fun h => .inr h.1, bl⟩
  have hx := rat_of ol ql HOS.out HGS.out (T' := Plus T w _) (fun k hk => .inr hk) (Ac := some ⟨bc, oc, none⟩) (cc := cc) (vc := .slice (some ⟨bc, oc, none⟩) (m - 1) cc) (by rw [HCL.out]) (by rw [HCL.out]; omega) ((HCI.out.keep (.of_below T bl)).more fun k hk => .inl hk) (f := f) HFR.out.symm
  exact hx
set_option maxHeartbeats 1600000 in
theorem rone_next (h : RAt w T v n s) (hT : InHeap T w) (hsm : n ≤ 1048576) (hc : s.closed = []) (hf : s.fresh < n) {p q : Nat} (hp : s.fresh = p) (hq : s.gen p = q) : Calls Try.prog 13 #[v] w (RStep w T n s.next [.int .i64 p, .int .i64 q, .bool true]) := by
  obtain ⟨Ao, co, Ag, cg, Ac, cc, rfl, hcc, h1, h2, h3⟩ := h
  have hpn : p < n := by rw [← hp]; exact hf
  have HOS := Lib.hid (opensL_upd n p true s s.next (by rw [← hp]; rfl))
  have HGS : Hid (gensL n s = gensL n s.next) := gensL_same n s s.next rfl
  have HGP : Hid ((gensL n s)[p]? = some q) := by show _ = _; rw [gensL_at hpn, hq]
  have HLO : Hid ((opensL n s).length = n) := opensL_length n s
  have HLG : Hid ((gensL n s).length = n) := gensL_length n s
  have H1 := Lib.hid h1
  have H2 := Lib.hid h2
  have HCI : Hid (IntsF w T Ac (ints s.next.closed)) := h3
  have HT := Lib.hid hT
  have HFR : Hid (s.next.fresh = p + 1) := by show s.fresh + 1 = _; rw [hp]
  have HCL : Hid (s.next.closed.length = 0) := by show s.closed.length = 0; rw [hc]; rfl
  obtain ⟨f, ef⟩ : ∃ f, s.fresh = f := ⟨_, rfl⟩
  have efp : f = p := by omega
  have em : s.closed.length = 0 := by rw [hc]; rfl
  rw [em, ef]
  clear h1 h2 h3 hT hp hq em hc hcc ef hf
  subst efp
  have r0 := (row_lit4 w (.slice Ao n co) (.slice Ag n cg) (.slice Ac 0 cc) (.int .i64 f) 29).alloc (.cells #[.slice none 0 0, .slice none 0 0, .slice none 0 0, .int .i64 0] 29)
  have s0 := row_lit4 (w.alloc (.cells #[.slice Ao n co, .slice Ag n cg, .slice Ac 0 cc, .int .i64 f] 29)) (.slice none 0 0) (.slice none 0 0) (.slice none 0 0) (.int .i64 0) 29
  have b0 : Below w.heap.size w ((w.alloc (.cells #[.slice Ao n co, .slice Ag n cg, .slice Ac 0 cc, .int .i64 f] 29)).alloc (.cells #[.slice none 0 0, .slice none 0 0, .slice none 0 0, .int .i64 0] 29)) := ((Below.refl _ _).alloc (Nat.le_refl _) _).alloc (by simp) _
  have hsz : (w.alloc (.cells #[.slice Ao n co, .slice Ag n cg, .slice Ac 0 cc, .int .i64 f] 29)).heap.size = w.heap.size + 1 := by simp
  rw [hsz] at s0
  have hs2 : w.heap.size + 2 ≤ ((w.alloc (.cells #[.slice Ao n co, .slice Ag n cg, .slice Ac 0 cc, .int .i64 f] 29)).alloc (.cells #[.slice none 0 0, .slice none 0 0, .slice none 0 0, .int .i64 0] 29)).heap.size := by simp
  clear hsz
  go_enter Try.func13, Try.ntmps13
  go_upto_region 1 with fail
  generalize (w.alloc (.cells #[.slice Ao n co, .slice Ag n cg, .slice Ac 0 cc, .int .i64 f] 29)).alloc (.cells #[.slice none 0 0, .slice none 0 0, .slice none 0 0, .int .i64 0] 29) = W at *
  have e0 := r0.cell (i := 0) (by omega)
  have e1 := r0.cell (i := 1) (by omega)
  have e2 := r0.cell (i := 2) (by omega)
  have e3 := r0.cell (i := 3) (by omega)
  simp only [sF] at e0 e1 e2 e3
  have hfr : 0 ≤ (f : Int) ∧ (f : Int) < (n : Int) := by omega
  have hge : ¬ (n : Int) ≤ (f : Int) := by omega
  have hwr : IntKind.i64.wrap ((f : Int) + 1) = (f : Int) + 1 := IntWalk.i64_in _ (by omega)
  have f3 := r0.frozen 3
  have R0 := Lib.hid r0
  have S0 := Lib.hid s0
  have B0 := Lib.hid b0
  clear r0 s0 b0
  go_upto_region 9 with fail
  have r3 := row_set3 R0.out (.int .i64 ((f : Int) + 1))
  have s3 := S0.out.setOther (a := ⟨w.heap.size, 3, none⟩) (by simp) (.int .i64 ((f : Int) + 1))
  have b3 := B0.out.setCell (p := ⟨w.heap.size, 3, none⟩) (Nat.le_refl _) (.int .i64 ((f : Int) + 1))
  have hs3 : w.heap.size + 2 ≤ (W.setCell ⟨w.heap.size, 3, none⟩ (.int .i64 ((f : Int) + 1))).heap.size := by simp [World.setCell]; exact hs2
  clear R0 S0 B0 f3 hs2 hfr hge hwr
  clear e0 e1 e2 e3
  generalize W.setCell ⟨w.heap.size, 3, none⟩ (.int .i64 ((f : Int) + 1)) = W3 at *
  have e0 := r3.cell (i := 0) (by omega)
  have e1 := r3.cell (i := 1) (by omega)
  have e2 := r3.cell (i := 2) (by omega)
  have e3 := r3.cell (i := 3) (by omega)
  simp only [sF] at e0 e1 e2 e3
  obtain ⟨bg, og, rfl, hbg, hTb, hcg⟩ := (H2.out.keep (.of_below T b3)).at_ (ints_get HGP.out)
  have F1 : Hid (BoolsF W3.drew T Ao (opensL n s)) := (H1.out.keep (.of_below T b3)).keep (.drewN T W3 1)
  have F2 : Hid (IntsF W3.drew T (some ⟨bg, og, none⟩) (ints (gensL n s))) := (H2.out.keep (.of_below T b3)).keep (.drewN T W3 1)
  have hbg3 : bg ≠ w.heap.size + 1 := by have := HT.out bg hTb; omega
  have e0d : W3.drew.cell? ⟨w.heap.size, 0, none⟩ = some (.slice Ao n co) := e0
  have e1d : W3.drew.cell? ⟨w.heap.size, 1, none⟩ = some (.slice (some ⟨bg, og, none⟩) n cg) := e1
  have e2d : W3.drew.cell? ⟨w.heap.size, 2, none⟩ = some (.slice Ac 0 cc) := e2
  have e3d : W3.drew.cell? ⟨w.heap.size, 3, none⟩ = some (.int .i64 ((f : Int) + 1)) := e3
  have hcgd : W3.drew.cell? ⟨bg, og + f, none⟩ = some (.int .i64 q) := hcg
  have S3 := Lib.hid s3
  have B3 := Lib.hid b3
  have hpr : 0 ≤ (f : Int) ∧ (f : Int) < (n : Int) := by omega
  clear r3 s3 b3
  go_region_held3 (fun X => X.cell? ⟨w.heap.size, 0, none⟩ = some (.slice Ao n co) ∧ X.cell? ⟨w.heap.size, 1, none⟩ = some (.slice (some ⟨bg, og, none⟩) n cg) ∧ X.cell? ⟨w.heap.size, 2, none⟩ = some (.slice Ac 0 cc) ∧ X.cell? ⟨w.heap.size, 3, none⟩ = some (.int .i64 ((f : Int) + 1)) ∧ X.cell? ⟨bg, og + f, none⟩ = some (.int .i64 q))
    (first
      | (refine ⟨?_, ?_, ?_, ?_, ?_⟩ <;> with_reducible assumption)
      | exact ⟨cell_all e0' (by simp) _ _ _ _, cell_all e1' (by simp) _ _ _ _, cell_all e2' (by simp) _ _ _ _, cell_all e3' (by simp) _ _ _ _, cell_all hcg' hbg3 _ _ _ _⟩)
    (first
      | (go_at_call 21
         (with_reducible refine (rwith_any F1.out F2.out HLO.out HLG.out hpn hsm true).mono ?_)
         rintro e w4 ⟨go, co4, gg, cg4, rfl, o4, q4, b4⟩
         have s4 := row_same S3.out (.of_below (fun _ => True) (show Below W3.heap.size W3 w4 from ⟨b4.os, b4.tape, b4.output, b4.size, b4.block⟩)) trivial
         have b5 := B3.out.trans (Below.mono (show Below W3.heap.size W3 w4 from ⟨b4.os, b4.tape, b4.output, b4.size, b4.block⟩) B3.out.size)
         have k0 := (Same.of_below (fun _ => True) (show Below W3.heap.size W3 w4 from ⟨b4.os, b4.tape, b4.output, b4.size, b4.block⟩))
         have hsz4 := b4.size
         have hlt3 : w.heap.size < W3.heap.size := by omega
         have e0' := (World.cell?_of_block (w := W3) (w' := w4) (a := ⟨w.heap.size, 0, none⟩) (k0.block w.heap.size trivial hlt3)).trans e0
         have e1' := (World.cell?_of_block (w := W3) (w' := w4) (a := ⟨w.heap.size, 1, none⟩) (k0.block w.heap.size trivial hlt3)).trans e1
         have e2' := (World.cell?_of_block (w := W3) (w' := w4) (a := ⟨w.heap.size, 2, none⟩) (k0.block w.heap.size trivial hlt3)).trans e2
         have e3' := (World.cell?_of_block (w := W3) (w' := w4) (a := ⟨w.heap.size, 3, none⟩) (k0.block w.heap.size trivial hlt3)).trans e3
         have hcg' := (World.cell?_of_block (w := W3) (w' := w4) (a := ⟨bg, og + f, none⟩) (k0.block _ trivial hbg)).trans hcg
         have g0 := s4.cell (i := 0) (by omega)
         have g1 := s4.cell (i := 1) (by omega)
         have g2 := s4.cell (i := 2) (by omega)
         have g3 := s4.cell (i := 3) (by omega)
         have t0 := s4.frozen 0
         have t1 := s4.frozen 1
         have t2 := s4.frozen 2
         have t3 := s4.frozen 3
         simp only [sF] at g0 g1 g2 g3
         have S4 := Lib.hid s4
         have O4 := Lib.hid o4
         have Q4 := Lib.hid q4
         have B5 := Lib.hid b5
         clear s4 o4 q4 b5 k0 b4))
  go_wp2
  refine bodyPost_ret_by (results_cell_four rfl _ _ (w.heap.size + 1) 29 _ (0, 0) _ rfl (row4 (row_all S4.out _ _ _ _)) Try.underlying29 rfl (by kernel_rfl) rfl rfl rfl) rfl ?_
  have bl := below_all B5.out (g := w.heap.size + 1) (by omega) (.slice (some ⟨go, 0, none⟩) n co4) (.slice (some ⟨gg, 0, none⟩) n cg4) (.slice Ac 0 cc) (.int .i64 ((f : Int) + 1))
  have hgo := (O4.out.lt go rfl).1
  have hgg := (Q4.out.lt gg rfl).1
  have hw3 : W3.drew.heap.size = W3.heap.size := rfl
  have ol := (own_all O4.out (g := w.heap.size + 1) (fun e => by have := blk_eq e; omega) (.slice (some ⟨go, 0, none⟩) n co4) (.slice (some ⟨gg, 0, none⟩) n cg4) (.slice Ac 0 cc) (.int .i64 ((f : Int) + 1))).mono (base' := w.heap.size) (by omega)
  have ql := (own_all Q4.out (g := w.heap.size + 1) (fun e => by have := blk_eq e; omega) (.slice (some ⟨go, 0, none⟩) n co4) (.slice (some ⟨gg, 0, none⟩) n cg4) (.slice Ac 0 cc) (.int .i64 ((f : Int) + 1))).mono (base' := w.heap.size) (by omega)
  refine ⟨_, Plus T w _, rfl, ?_, Plus.heap HT.out bl.size, fun k hk => hk.elim .inl fun h => .inr h.1, bl⟩
  have hx := rat_of ol ql HOS.out HGS.out (T' := Plus T w _) (fun k hk => .inr hk) (Ac := Ac) (cc := cc) (vc := .slice Ac 0 cc) (by rw [HCL.out]) (by rw [HCL.out]; omega) ((HCI.out.keep (.of_below T bl)).more fun k hk => .inl hk) (f := f + 1) HFR.out.symm
  rw [show ((f + 1 : Nat) : Int) = (f : Int) + 1 by omega] at hx
  exact hx
set_option maxHeartbeats 800000 in
theorem rone_none (h : RAt w T v n s) (hT : InHeap T w) (hc : s.closed = []) (hf : n ≤ s.fresh) : Calls Try.prog 13 #[v] w (RStep w T n s [.int .i64 0, .int .i64 0, .bool false]) := by
  have h0 := h
  obtain ⟨Ao, co, Ag, cg, Ac, cc, rfl, hcc, h1, h2, h3⟩ := h
  obtain ⟨f, ef⟩ : ∃ f, s.fresh = f := ⟨_, rfl⟩
  have em : s.closed.length = 0 := by rw [hc]; rfl
  rw [em, ef] at h0 ⊢
  have hge : (n : Int) ≤ (f : Int) := by omega
  have HH0 := Lib.hid h0
  have HT := Lib.hid hT
  clear h0 h1 h2 h3 hT em hc hcc ef hf
  have r0 := (row_lit4 w (.slice Ao n co) (.slice Ag n cg) (.slice Ac 0 cc) (.int .i64 f) 29).alloc (.cells #[.slice none 0 0, .slice none 0 0, .slice none 0 0, .int .i64 0] 29)
  have s0 := row_lit4 (w.alloc (.cells #[.slice Ao n co, .slice Ag n cg, .slice Ac 0 cc, .int .i64 f] 29)) (.slice none 0 0) (.slice none 0 0) (.slice none 0 0) (.int .i64 0) 29
  have b0 : Below w.heap.size w ((w.alloc (.cells #[.slice Ao n co, .slice Ag n cg, .slice Ac 0 cc, .int .i64 f] 29)).alloc (.cells #[.slice none 0 0, .slice none 0 0, .slice none 0 0, .int .i64 0] 29)) := ((Below.refl _ _).alloc (Nat.le_refl _) _).alloc (by simp) _
  have hsz : (w.alloc (.cells #[.slice Ao n co, .slice Ag n cg, .slice Ac 0 cc, .int .i64 f] 29)).heap.size = w.heap.size + 1 := by simp
  rw [hsz] at s0
  have hs2 : w.heap.size + 2 ≤ ((w.alloc (.cells #[.slice Ao n co, .slice Ag n cg, .slice Ac 0 cc, .int .i64 f] 29)).alloc (.cells #[.slice none 0 0, .slice none 0 0, .slice none 0 0, .int .i64 0] 29)).heap.size := by simp
  clear hsz
  go_enter Try.func13, Try.ntmps13
  go_upto_region 1 with fail
  generalize (w.alloc (.cells #[.slice Ao n co, .slice Ag n cg, .slice Ac 0 cc, .int .i64 f] 29)).alloc (.cells #[.slice none 0 0, .slice none 0 0, .slice none 0 0, .int .i64 0] 29) = W at *
  have e0 := r0.cell (i := 0) (by omega)
  have e1 := r0.cell (i := 1) (by omega)
  have e2 := r0.cell (i := 2) (by omega)
  have e3 := r0.cell (i := 3) (by omega)
  simp only [sF] at e0 e1 e2 e3
  have g0 := s0.cell (i := 0) (by omega)
  have g1 := s0.cell (i := 1) (by omega)
  have g2 := s0.cell (i := 2) (by omega)
  have g3 := s0.cell (i := 3) (by omega)
  have t0 := s0.frozen 0
  have t1 := s0.frozen 1
  have t2 := s0.frozen 2
  have t3 := s0.frozen 3
  simp only [sF] at g0 g1 g2 g3
  have S0 := Lib.hid s0
  have B0 := Lib.hid b0
  clear r0 s0 b0 hs2
  go_wp2
  refine bodyPost_ret_by (results_cell_four rfl _ _ (w.heap.size + 1) 29 _ (0, 0) _ rfl (row4 (row_all S0.out _ _ _ _)) Try.underlying29 rfl (by kernel_rfl) rfl rfl rfl) rfl ?_
  have bl := below_all B0.out (g := w.heap.size + 1) (by omega) (.slice Ao n co) (.slice Ag n cg) (.slice Ac 0 cc) (.int .i64 f)
  exact ⟨_, T, rfl, by have := HH0.out.below bl; exact this, HT.out.more bl.size, fun k hk => .inl hk, bl⟩
end
end Go.Proofs.Ytoocdngaimneoaa
