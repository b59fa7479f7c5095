/- The walk of SlotsOnce. -/
import Derived.Test.YtoocdngaimneoaaSlotsWorks
import Derived.Test.YtoocdngaimneoaaBaseRows
import Derived.Deep.RegionHeld3
namespace Go.Proofs.Ytoocdngaimneoaa
open Go.RowKit Go.Maps

/-- The block of a slice. -/
def blk (u : Value) : Nat → Prop := fun k => u.ownBlock = some k
theorem blk_heap {w : World} {base n : Nat} {t : TypeId} {u : Value} {xs : List Value} (h : w.ownsRow base t 1 u n xs) : InHeap (blk u) w := fun k hk => (h.lt k hk).2
theorem push_row {w W w1 : World} {u u1 : Value} (hW : Below w.heap.size w W) (hgr : W.grownBy w1 u.ownBlock) (hat : u1.ownBlock = u.ownBlock ∨ u1.ownBlock = some W.heap.size) : Moved (blk u) w (blk u1) w1 := by
  refine ⟨(Turn.of_below _ hW).trans (Turn.of_grown hgr fun k hk => hk), fun k hk => ?_⟩
  rcases hat with e | e
  · exact .inl (show u.ownBlock = some k from e ▸ (show u1.ownBlock = some k from hk))
  · have hk' : u1.ownBlock = some k := hk
    rw [e] at hk'
    injection hk' with hk'
    have := hW.size
    exact .inr (by omega)
/-- What was opened, behind k rounds: slots, places and generations, each in blocks of its own. -/
structure Seen (w0 w : World) (S : Nat → Prop) (v u u' : Value) (n k : Nat) (s : St) (ps gs : List Nat) : Prop where
  slots : SlotsAt w S v n s
  rowP : w.ownsRow w0.heap.size 3 1 u ps.length (vals ps)
  rowG : w.ownsRow w0.heap.size 3 1 u' ps.length (vals gs)
  len : gs.length = ps.length
  le : ps.length ≤ k
  sp : Apart S (blk u)
  sg : Apart S (blk u')
  pg : Apart (blk u) (blk u')
  bel : Below w0.heap.size w0 w
  from_ : ∀ k, S k → w0.heap.size ≤ k
  low : Low k s
  small : ∀ p ∈ ps, p < n
  past : Past s ps gs
section
variable {w0 w w' : World} {S S' : Nat → Prop} {v u u' : Value} {n k : Nat} {s s' : St} {ps gs : List Nat}
theorem Seen.step (h : Seen w0 w S v u u' n k s ps gs) (hs : SlotsAt w' S' v n s') (hm : Moved S w S' w') (hl : Low (k + 1) s') (hp : Past s' ps gs) : Seen w0 w' S' v u u' n (k + 1) s' ps gs := by
  have h1 := h.bel.size
  exact ⟨hs, own_same h.rowP (hm.turn.same h.sp) fun _ e => e, own_same h.rowG (hm.turn.same h.sg) fun _ e => e, h.len, Nat.le_succ_of_le h.le, hm.apart h.sp (blk_heap h.rowP), hm.apart h.sg (blk_heap h.rowG), h.pg, hm.below h.bel h1 h.from_, hm.from_ h.from_ h1, hl, h.small, hp⟩
theorem Seen.below (h : Seen w0 w S v u u' n k s ps gs) (hb : Below w.heap.size w w') : Seen w0 w' S v u u' n k s ps gs := by
  have h1 := h.bel.size
  exact ⟨h.slots.below hb, own_same h.rowP (.of_below _ hb) fun _ e => e, own_same h.rowG (.of_below _ hb) fun _ e => e, h.len, h.le, h.sp, h.sg, h.pg, h.bel.trans (hb.mono h1), h.from_, h.low, h.small, h.past⟩
theorem Seen.mono {k' : Nat} (h : Seen w0 w S v u u' n k s ps gs) (hk : k ≤ k') : Seen w0 w S v u u' n k' s ps gs :=
  ⟨h.slots, h.rowP, h.rowG, h.len, Nat.le_trans h.le hk, h.sp, h.sg, h.pg, h.bel, h.from_, h.low.mono hk, h.small, h.past⟩
/-- One more place put down. -/
theorem Seen.pushP {W : World} {u1 : Value} (h : Seen w0 w S v u u' n k s ps gs) (hW : Below w.heap.size w W) (hgr : W.grownBy w' u.ownBlock) (hat : u1.ownBlock = u.ownBlock ∨ u1.ownBlock = some W.heap.size) :
    SlotsAt w' S v n s ∧ w'.ownsRow w0.heap.size 3 1 u' ps.length (vals gs) ∧ Below w0.heap.size w0 w' ∧ Apart S (blk u1) ∧ Apart (blk u1) (blk u') := by
  have hm := push_row hW hgr hat
  have h1 := h.bel.size
  exact ⟨h.slots.keep (hm.turn.same h.sp.symm), own_same h.rowG (hm.turn.same h.pg) fun _ e => e, hm.below h.bel h1 (fun k hk => (h.rowP.lt k hk).1), (hm.apart h.sp.symm h.slots.heap).symm, hm.apart h.pg (blk_heap h.rowG)⟩
theorem Past.left {x y : List Nat} (h : Past s (ps ++ x) (gs ++ y)) (hl : gs.length = ps.length) : Past s ps gs := fun j p g hp hg => by
  have h1 := (List.getElem?_eq_some_iff.1 hp).1
  exact h j p g (by rw [List.getElem?_append_left h1, hp]) (by rw [List.getElem?_append_left (by omega), hg])
/-- What was opened is put down, its place and its generation. -/
theorem Seen.push {W W2 w4 w5 : World} {u4 u5 : Value} {p q : Nat} (h : Seen w0 w S v u u' n (k + 1) s ps gs) (hle : ps.length ≤ k) (hW : Below w.heap.size w W) (ho4 : w4.ownsRow w0.heap.size 3 1 u4 (ps.length + 1) (vals ps ++ [.int .i64 p])) (hgr4 : W.grownBy w4 u.ownBlock) (hat4 : u4.ownBlock = u.ownBlock ∨ u4.ownBlock = some W.heap.size)
    (hW2 : Below w4.heap.size w4 W2) (ho5 : w5.ownsRow w0.heap.size 3 1 u5 (ps.length + 1) (vals gs ++ [.int .i64 q])) (hgr5 : W2.grownBy w5 u'.ownBlock) (hat5 : u5.ownBlock = u'.ownBlock ∨ u5.ownBlock = some W2.heap.size) (hp : p < n) (hpast : Past s (ps ++ [p]) (gs ++ [q])) :
    Seen w0 w5 S v u4 u5 n (k + 1) s (ps ++ [p]) (gs ++ [q]) := by
  obtain ⟨s4, g4, b4, a1, a2⟩ := h.pushP hW hgr4 hat4
  have hm := push_row hW2 hgr5 hat5
  have h1 := b4.size
  refine ⟨s4.keep (hm.turn.same h.sg.symm), own_like (own_same ho4 (hm.turn.same a2.symm) fun _ e => e) (by simp) (by rw [vals_append]; rfl), own_like ho5 (by simp) (by rw [vals_append]; rfl), by simp [h.len], by simp; omega, a1, (hm.apart h.sg.symm s4.heap).symm, (hm.apart a2.symm (blk_heap ho4)).symm, hm.below b4 h1 (fun k hk => (g4.lt k hk).1), h.from_, h.low, fun x hx => ?_, hpast⟩
  rcases List.mem_append.1 hx with h2 | h2
  · exact h.small x h2
  · rw [List.mem_singleton.1 h2]; exact hp
end
set_option maxRecDepth 100000 in
set_option maxHeartbeats 6400000 in
theorem once_any {w : World} {A : Option Addr} {xs : List Nat} {n len c : Nat} (h : BytesAt w A xs) (hlen : len = xs.length) (hn : n < 256) :
    Calls Try.prog 4 #[.int .u8 n, .slice A len c] w (TrueBelow w) := by
  have hnot := not_any
  by_cases hbig : 100 < (len : Int)
  · clear h
    go_enter Try.func4, Try.ntmps4
    go_wp2_with fail
    refine works_any.mono ?_
    rintro e w' ⟨rfl, hb⟩
    go_wp2
    go_ret
    exact ⟨rfl, hb⟩
  · have hle : len ≤ 100 := by omega
    have HN := Lib.hid hlen
    have H := Lib.hid h
    have hwr : IntKind.i64.wrap (n : Int) = (n : Int) := IntWalk.i64_in _ (by omega)
    clear h hlen
    go_enter Try.func4, Try.ntmps4
    go_wp2_with fail
    refine (new_in (n := n) w (by omega)).mono ?_
    rintro e w1 ⟨g, S1, rfl, s1, b1, l1⟩
    have z0 : Seen w w1 S1 (.pointer (some ⟨g, 0, none⟩)) (.slice none 0 0) (.slice none 0 0) n 0 St.none [] [] :=
      ⟨s1, World.ownsRow_nil _ _ _ _, World.ownsRow_nil _ _ _ _, rfl, Nat.le_refl _, fun _ _ h => (by cases h), fun _ _ h => (by cases h), fun _ h => (by cases h), b1, l1, Low.new, fun _ h => (by cases h), fun _ _ _ h => (by cases h)⟩
    have Z0 := Lib.hid z0
    clear s1 b1 l1 z0 hwr
    go_wp2
    go_loopw [6, 7, 8] (fun u u' i wr => ∃ (k : Nat) (S : Nat → Prop) (s : St) (ps gs : List Nat), k ≤ len ∧ i = .int .i64 k ∧ Hid (Seen w wr S (.pointer (some ⟨g, 0, none⟩)) u u' n k s ps gs)) (fun _ _ i _ => len - (intOf i).toNat)
    case atStart => exact ⟨0, S1, St.none, [], [], Nat.zero_le _, rfl, Z0⟩
    case round =>
      clear Z0
      obtain ⟨k, S, s, ps, gs, hk, rfl, Z⟩ := hrel
      by_cases hlt : k < len
      · have hkx : k < xs.length := by have := HN.out; omega
        have hi : 0 ≤ (k : Int) ∧ (k : Int) < (len : Int) := by omega
        obtain ⟨b, off, rfl, h256, hc⟩ := H.out.at_ hkx
        have hbl := World.block_lt_of_cell? _ _ hc
        generalize xs[k]'hkx = y at *
        have hcr : wr.cell? ⟨b, off + k, none⟩ = some (.int .u8 y) := (Z.out.bel.cell (p := ⟨b, off + k, none⟩) hbl).trans hc
        have htm : Int.tmod (y : Int) 3 = ((y % 3 : Nat) : Int) := by rw [Int.tmod_eq_emod_of_nonneg (by omega)]; push_cast; rfl
        clear hc
        obtain ⟨A1, c1, rfl, _⟩ := own_len Z.out.rowP
        obtain ⟨A2, c2, rfl, _⟩ := own_len Z.out.rowG
        have hple := Z.out.le
        obtain ⟨m, em⟩ : ∃ m, ps.length = m := ⟨_, rfl⟩
        rw [em] at hple Z ⊢
        by_cases hy : y % 3 = 0
        · have hg3 : ¬ (0 : Int) < ((y % 3 : Nat) : Int) := by omega
          by_cases h0 : m = 0
          · subst h0
            go_wp2
            go_roundw
            case rel => exact ⟨k + 1, S, s, ps, gs, by omega, by go_num, Lib.hid (Z.out.mono (Nat.le_succ k))⟩
            case measure => simp [intOf]; omega
          · have hq : y % m < m := Nat.mod_lt _ (by omega)
            have htm2 : Int.tmod (y : Int) (m : Int) = ((y % m : Nat) : Int) := by rw [Int.tmod_eq_emod_of_nonneg (by omega)]; push_cast; rfl
            have hem2 : (y : Int) % (m : Int) = ((y % m : Nat) : Int) := by push_cast; rfl
            generalize y % m = q at *
            obtain ⟨p, hp⟩ : ∃ p, ps[q]? = some p := ⟨_, List.getElem?_eq_getElem (by omega)⟩
            obtain ⟨gn, hgn⟩ : ∃ gn, gs[q]? = some gn := ⟨_, List.getElem?_eq_getElem (by have := Z.out.len; omega)⟩
            have hpn := Z.out.small p (List.mem_of_getElem? hp)
            have hlow := Z.out.low
            have zp := Z.out.rowP
            have zg := Z.out.rowG
            obtain ⟨b1, c1', e1, _, hb1⟩ := own_some zp (by omega)
            obtain ⟨b2, c2', e2, _, hb2⟩ := own_some zg (by omega)
            injection e1 with e1 e1n e1c
            injection e2 with e2 e2n e2c
            subst e1 e2 e1c e2c
            clear e1n e2n
            rw [em] at zp zg
            have HC1 : Hid (∀ W : World, W.heap[b1]? = wr.heap[b1]? → W.cell? ⟨b1, q, none⟩ = some (.int .i64 p)) := fun W hW => by
              rw [World.cell?_of_block (w := wr) (a := ⟨b1, q, none⟩) hW, World.ownsRow.cellAt zp q (by omega), vals_at hp]
            have HC2 : Hid (∀ W : World, W.heap[b2]? = wr.heap[b2]? → W.cell? ⟨b2, q, none⟩ = some (.int .i64 gn)) := fun W hW => by
              rw [World.cell?_of_block (w := wr) (a := ⟨b2, q, none⟩) hW, World.ownsRow.cellAt zg q (by omega), vals_at hgn]
            have k1 := HC1.out wr rfl
            have k2 := HC2.out wr rfl
            have hw1 : IntKind.i64.wrap (y : Int) = (y : Int) := IntWalk.i64_in _ (by omega)
            have hw2 : IntKind.i64.wrap (q : Int) = (q : Int) := IntWalk.i64_in _ (by omega)
            have hqr : 0 ≤ (q : Int) ∧ (q : Int) < (m : Int) := by omega
            have hir : InInt (p : Int) := ⟨by omega, by omega⟩
            obtain ⟨r, er⟩ : ∃ r, rightI s (p : Int) (gn : Int) = r := ⟨_, rfl⟩
            have HR := Lib.hid er
            have HP := Lib.hid (Z.out.past.closeI (p : Int) (gn : Int))
            have HM := Lib.hid em
            have HIR := Lib.hid hir
            clear er hp hgn zp zg hpn hlow em hir
            go_wp2
            go_region_held3 (fun W => W.cell? ⟨b1, q, none⟩ = some (.int .i64 p) ∧ W.cell? ⟨b2, q, none⟩ = some (.int .i64 gn))
              (first | exact ⟨by assumption, by assumption⟩)
              (first
                | (go_at_call 9
                   refine (right_at (Z.out.slots.drewN 1) HIR.out HR.out).mono ?_
                   rintro e w3 ⟨rfl, b3⟩
                   have k3 := HC1.out w3 (b3.block b1 hb1)
                   have k4 := HC2.out w3 (b3.block b2 hb2)))
            have hb13 : w3.heap[b1]? = wr.heap[b1]? := b3.block b1 hb1
            have hb23 : w3.heap[b2]? = wr.heap[b2]? := b3.block b2 hb2
            have Z3 := Lib.hid (Z.out.below (w' := w3) ⟨b3.os, b3.tape, b3.output, b3.size, b3.block⟩)
            have HB1 : Hid (∀ W : World, W.heap[b1]? = w3.heap[b1]? → W.cell? ⟨b1, q, none⟩ = some (.int .i64 p)) := fun W hW => HC1.out W (hW.trans hb13)
            have HB2 : Hid (∀ W : World, W.heap[b2]? = w3.heap[b2]? → W.cell? ⟨b2, q, none⟩ = some (.int .i64 gn)) := fun W hW => HC2.out W (hW.trans hb23)
            have hz1 : b1 < w3.heap.size := Nat.lt_of_lt_of_le hb1 b3.size
            have hz2 : b2 < w3.heap.size := Nat.lt_of_lt_of_le hb2 b3.size
            clear Z HC1 HC2 hb13 hb23 b3 hb1 hb2 hcr k1 k2
            cases r
            all_goals
              go_wp2_with fail
              go_region_held3 (fun W => W.cell? ⟨b1, q, none⟩ = some (.int .i64 p) ∧ W.cell? ⟨b2, q, none⟩ = some (.int .i64 gn))
                (first | exact ⟨by assumption, by assumption⟩)
                (first
                  | (go_at_call 12
                     refine (close_is (Z3.out.slots.drewN 1) HIR.out Z3.out.low (by omega) (s1 := closeI s (p : Int) (gn : Int)) rfl HR.out).mono ?_
                     rintro e w5 ⟨S5, rfl, s5, m5⟩
                     have k5 := HB1.out w5 (m5.turn.block b1 hz1 fun hS => Z3.out.sp b1 hS rfl)
                     have k6 := HB2.out w5 (m5.turn.block b2 hz2 fun hS => Z3.out.sg b2 hS rfl)
                     have Z5 := Lib.hid (Z3.out.step s5 ⟨⟨m5.turn.os, m5.turn.tape, m5.turn.output, m5.turn.size, m5.turn.block⟩, m5.new⟩ (Z3.out.low.closeI _ _) HP.out)
                     have HB3 : Hid (∀ W : World, W.heap[b1]? = w5.heap[b1]? → W.cell? ⟨b1, q, none⟩ = some (.int .i64 p)) := fun W hW => HB1.out W (hW.trans (m5.turn.block b1 hz1 fun hS => Z3.out.sp b1 hS rfl))
                     have HB4 : Hid (∀ W : World, W.heap[b2]? = w5.heap[b2]? → W.cell? ⟨b2, q, none⟩ = some (.int .i64 gn)) := fun W hW => HB2.out W (hW.trans (m5.turn.block b2 hz2 fun hS => Z3.out.sg b2 hS rfl))
                     have hz3 : b1 < w5.heap.size := Nat.lt_of_lt_of_le hz1 m5.turn.size
                     have hz4 : b2 < w5.heap.size := Nat.lt_of_lt_of_le hz2 m5.turn.size
                     clear s5 m5)
                  | (go_at_call 9
                     refine (right_at Z5.out.slots HIR.out (closeI_right s (p : Int) (gn : Int))).mono ?_
                     rintro e w7 ⟨rfl, b7⟩
                     have k7 := HB3.out w7 (b7.block b1 hz3)
                     have k8 := HB4.out w7 (b7.block b2 hz4)))
              have Z7 := Z5.out.below b7
              have Z8 := Lib.hid Z7
              clear Z7 Z3 Z5 HB1 HB2 HB3 HB4 b7
              go_wp2
              go_roundw
              case rel => exact ⟨k + 1, S5, closeI s (p : Int) (gn : Int), ps, gs, by omega, by go_num, Z8⟩
              case measure => simp [intOf]; omega
        · have hg3 : (0 : Int) < ((y % 3 : Nat) : Int) := by omega
          have HEM := Lib.hid em
          have hok := Z.out.slots.ok
          clear em h256
          cases hmo : s.more n with
          | false =>
            have HS : Hid (s.openO n = s) := St.openO_no hmo
            have HM := Lib.hid hmo
            clear hmo hok
            go_wp2_with fail
            refine (open_full Z.out.slots HM.out).mono ?_
            rintro e w3 ⟨rfl, rfl⟩
            go_wp2
            refine wp_loop_rounds 1 ?_
            rw [rounds_succ]
            go_wp2
            go_roundw
            case rel => exact ⟨k + 1, S, s, ps, gs, by omega, by go_num, Lib.hid (Z.out.mono (Nat.le_succ k))⟩
            case measure => simp [intOf]; omega
          | true =>
            obtain ⟨i0, hi0, hz0, hz1, hz2⟩ := info_parts int_info
            have HI := Lib.hid hi0
            have HZ0 := Lib.hid hz0
            have HZ1 := Lib.hid hz1
            have HZ2 := Lib.hid hz2
            have HPA := Lib.hid (Z.out.past.openO (n := n) hmo Z.out.len)
            have HFR : Hid (∀ (j gj : Nat), ps[j]? = some (s.placeO n) → gs[j]? = some gj → gj ≠ s.genO n) := fun j gj h1 h2 => Z.out.past.fresh hok hmo h1 h2
            have hpn := (hok.place_not hmo).2
            have hlo := Z.out.low.openO (n := n)
            have HQ : Hid (s.genO n ≤ k) := by show _ ≤ _; rw [St.genO_at hmo]; exact Z.out.low _
            have hoS := open_is Z.out.slots (s1 := s.openO n) (p := s.placeO n) (q := s.genO n) (r := true) rfl rfl rfl hmo
            have HLO := Lib.hid hlo
            clear hmo hok hi0 hz0 hz1 hz2 hlo
            generalize s.placeO n = p at *
            generalize s.genO n = q at *
            generalize s.openO n = sn at *
            go_wp2_with fail
            refine hoS.mono ?_
            rintro e w3 ⟨S3, rfl, s3, m3⟩
            have z3 := Z.out.step s3 m3 (HLO.out.mono (Nat.le_succ k)) (HPA.out.left Z.out.len)
            have HLE : Hid (gs.length = m) := by show _ = _; rw [Z.out.len]; exact HEM.out
            have own1 := z3.rowP
            have own2 := z3.rowG
            rw [HEM.out] at own1 own2
            have OWN1 := Lib.hid own1
            have OWN2 := Lib.hid own2
            have Z3 := Lib.hid z3
            clear Z hoS s3 m3 z3 own1 own2 HLO hcr
            go_wp2
            go_loop [12] (fun kk => ∃ j : Nat, j ≤ m ∧ kk = .int .i64 j) (fun kk => m - (intOf kk).toNat)
            case atStart => exact ⟨0, Nat.zero_le _, rfl⟩
            case round =>
              obtain ⟨j, hj, rfl⟩ := hrel
              by_cases hjm : j < m
              · have hjr : 0 ≤ (j : Int) ∧ (j : Int) < (m : Int) := by omega
                obtain ⟨pj, hpj⟩ : ∃ pj, ps[j]? = some pj := ⟨_, List.getElem?_eq_getElem (by have := HEM.out; omega)⟩
                obtain ⟨gj, hgj⟩ : ∃ gj, gs[j]? = some gj := ⟨_, List.getElem?_eq_getElem (by have := HLE.out; omega)⟩
                obtain ⟨b1, c1', e1, _, hb1⟩ := own_some OWN1.out (by omega)
                obtain ⟨b2, c2', e2, _, hb2⟩ := own_some OWN2.out (by omega)
                injection e1 with e1 e1n e1c
                injection e2 with e2 e2n e2c
                subst e1 e2 e1c e2c
                clear e1n e2n
                have k1 : w3.cell? ⟨b1, j, none⟩ = some (.int .i64 pj) := by rw [World.ownsRow.cellAt OWN1.out j (by omega), vals_at hpj]
                have k2 : w3.cell? ⟨b2, j, none⟩ = some (.int .i64 gj) := by rw [World.ownsRow.cellAt OWN2.out j (by omega), vals_at hgj]
                by_cases hpp : pj = p
                · subst hpp
                  have hgq : gj ≠ q := HFR.out j gj hpj hgj
                  have hbb1 : ((pj : Int) == (pj : Int)) = true := by simp
                  have hbb2 : ((gj : Int) == (q : Int)) = false := by simp; omega
                  clear hgq hpj hgj
                  go_wp2
                  go_round
                  case rel => exact ⟨j + 1, by omega, by go_num⟩
                  case measure => simp [intOf]; omega
                · have hbb1 : ((pj : Int) == (p : Int)) = false := by simp; omega
                  clear hpp hpj hgj
                  go_wp2
                  go_round
                  case rel => exact ⟨j + 1, by omega, by go_num⟩
                  case measure => simp [intOf]; omega
              · obtain rfl : j = m := by omega
                clear hjm
                go_wp2_with (first
                  | (at_builtin; refine wpList_append_own_at _ rfl (.tmp 74) (.tmp 76) 27 rfl w.heap.size 3 i0 (.int .i64 0) 1 8 Try.underlying27 HI.out HZ0.out HZ1.out HZ2.out rfl (by decide) _ _ _ rfl (OWN1.out.alloc _) ⟨w3.heap.size, 0, none⟩ 1 1 [.int .i64 p] rfl rfl (new_one _ _ _) (one_int _ _) (by unfold maxLen; omega) (by omega) (by have := Z3.out.bel.size; simp; omega) ?_
                     intro v4 w4 hown4 hgr4 _ hat4
                     have OWN4 := Lib.hid hown4
                     have GR4 := Lib.hid hgr4
                     have AT4 := Lib.hid hat4
                     have g4 := (Z3.out.pushP ((Below.refl _ _).alloc (Nat.le_refl _) _) hgr4 hat4)
                     have G4 : Hid (w4.ownsRow w.heap.size 3 1 (.slice A2 j c2) j (vals gs)) := by have := g4.2.1; rw [HEM.out] at this; exact this
                     have B4 := Lib.hid g4.2.2.1
                     clear hown4 hgr4 hat4 g4)
                  | (at_builtin; refine wpList_append_own_at _ rfl (.tmp 78) (.tmp 80) 27 rfl w.heap.size 3 i0 (.int .i64 0) 1 8 Try.underlying27 HI.out HZ0.out HZ1.out HZ2.out rfl (by decide) _ _ _ rfl (G4.out.alloc _) ⟨w4.heap.size, 0, none⟩ 1 1 [.int .i64 q] rfl rfl (new_one _ _ _) (one_int _ _) (by unfold maxLen; omega) (by omega) (by have := B4.out.size; simp; omega) ?_
                     intro v5 w5 hown5 hgr5 _ hat5
                     have Z5 : Hid (Seen w w5 S3 (.pointer (some ⟨g, 0, none⟩)) v4 v5 n (k + 1) sn (ps ++ [p]) (gs ++ [q])) := by
                       have o4 := OWN4.out
                       rw [← HEM.out] at o4 hown5
                       exact Z3.out.push (by rw [HEM.out]; exact hple) ((Below.refl _ _).alloc (Nat.le_refl _) _) o4 GR4.out AT4.out ((Below.refl _ _).alloc (Nat.le_refl _) _) hown5 hgr5 hat5 hpn HPA.out
                     clear hown5 hgr5 hat5))
                go_roundw
                case rel => exact ⟨k + 1, S3, sn, ps ++ [p], gs ++ [q], by omega, by go_num, Z5⟩
                case measure => simp [intOf]; omega
      · clear hbig
        have bz := Z.out.bel
        have gone0 : ∀ W : World, Gone W (.pointer none) := fun W => .inl rfl
        have gone1 : Gone (wr.alloc (.cells #[.int .i64 0, .slice none 0 0, .slice none 0 0, .map none] 48)) (.pointer (some ⟨wr.heap.size, 0, none⟩)) := by
          refine .inr ⟨wr.heap.size, rfl, ?_⟩
          exact World.rowIs_alloc wr #[.int .i64 0, .slice none 0 0, .slice none 0 0, .map none] 48 zeroF (by
            intro i hi
            match i, hi with
            | 0, _ => rfl
            | 1, _ => rfl
            | 2, _ => rfl
            | 3, _ => rfl)
        have b0 := bz.alloc bz.size (.cells #[.int .i64 0, .slice none 0 0, .slice none 0 0, .map none] 48)
        have i0 : InInt 0 := ⟨by omega, by omega⟩
        clear Z bz
        go_wp2_with fail
        refine (open_gone (gone0 _)).mono ?_
        rintro e w2 ⟨rfl, rfl⟩
        go_wp2_with fail
        refine (open_gone gone1).mono ?_
        rintro e w2 ⟨rfl, rfl⟩
        go_wp2_with fail
        refine (right_gone (gone0 _) i0).mono ?_
        rintro e w2 ⟨rfl, b2⟩
        have g2 := gone1.below b2
        have b3 := b0.trans (b2.mono b0.size)
        clear gone1 b2 b0
        go_wp2_with fail
        refine (right_gone g2 i0).mono ?_
        rintro e w4 ⟨rfl, b4⟩
        have g4 := g2.below b4
        have b5 := b3.trans (b4.mono b3.size)
        clear g2 b3 b4
        go_wp2_with fail
        refine (close_gone (gone0 _) i0).mono ?_
        rintro e w6 ⟨rfl, b6⟩
        have g6 := g4.below b6
        have b7 := b5.trans (b6.mono b5.size)
        clear g4 b5 b6
        go_wp2_with fail
        refine (close_gone g6 i0).mono ?_
        rintro e w8 ⟨rfl, b8⟩
        have g8 := g6.below b8
        have b9 := b7.trans (b8.mono b7.size)
        clear g6 b7 b8
        go_wp2_with fail
        refine (gen_gone (gone0 _)).mono ?_
        rintro e w9 ⟨rfl, rfl⟩
        go_wp2_with fail
        refine (gen_gone g8).mono ?_
        rintro e w9 ⟨rfl, rfl⟩
        go_wp2_with fail
        refine (len_gone (gone0 _)).mono ?_
        rintro e w9 ⟨rfl, rfl⟩
        go_wp2_with fail
        refine (len_gone g8).mono ?_
        rintro e w9 ⟨rfl, rfl⟩
        go_wp2_with fail
        refine (places_gone (gone0 _)).mono ?_
        rintro e w10 ⟨rfl, b10⟩
        have g10 := g8.below b10
        have b11 := b9.trans (b10.mono b9.size)
        clear g8 b9 b10
        go_wp2_with fail
        refine (places_gone g10).mono ?_
        rintro e w12 ⟨rfl, b12⟩
        have b13 := b11.trans (b12.mono b11.size)
        clear g10 b11 b12
        go_wp2_with fail
        refine works_any.mono ?_
        rintro e w14 ⟨rfl, b14⟩
        have b15 := b13.trans (b14.mono b13.size)
        go_wp2
        go_ret
        exact ⟨rfl, b15⟩
end Go.Proofs.Ytoocdngaimneoaa
