/- Layer 10 (bytes): rows compared; put: a row is laid into the map, or struck from it where it is all 0: a contract. -/
import Derived.Test.YtcfnnchbnlcppaaBytesAsk
import Derived.Lib.Hide
import Derived.StillTailTactics
import Derived.Deep.Onto
import Derived.Deep.RegionHeld3
import Derived.Deep.CutRange
import Derived.BigQuiet
namespace Go.Proofs.Ytcfnnchbnlcppaa
open Go.RowKit Go.Maps

theorem eql_items (w : World) (f g : Nat → UInt8) : ∀ (l : List Nat), (∀ i ∈ l, i < 64) → (Op.eqItems 9999 5 1 (rowArr f) (rowArr g) l).run Try.prog w = .ok (l.all fun i => f i == g i) w
  | [], _ => by simp [Op.eqItems]
  | i :: l, h => by
    have p : ∀ f : Nat → UInt8, (part 5 (rowArr f) (i * 1)).run Try.prog w = .ok (byteV (f i)) w := fun f => by
      rw [Nat.mul_one]
      exact run_part_plain w (by kernel_rfl) (rowArr_at (h i List.mem_cons_self))
    have e : (Op.equalIn 9999 5 (byteV (f i)) (byteV (g i))).run Try.prog w = .ok (f i == g i) w := by
      rw [show (9999 : Nat) = 9998 + 1 from rfl]
      unfold byteV
      rw [run_equalIn_int w 9998 5 .u8 .u8 _ _ Try.underlying5]
      congr 1
      rw [Bool.eq_iff_iff]
      rw [beq_iff_eq, beq_iff_eq, ← UInt8.toNat_inj]
      omega
    simp only [Op.eqItems, Sem.run_bind, p, Result.andThen_ok, e, Sem.run_ite, Sem.run_pure]
    rw [List.all_cons]
    cases f i == g i
    · rfl
    · simp only [Bool.not_true, Bool.false_eq_true, if_false, Bool.true_and]
      exact eql_items w f g l fun j hj => h j (List.mem_cons_of_mem _ hj)
theorem eql_row (w : World) (f : Nat → UInt8) {r : Bool} (hr : (cnt f 64 == 0) = r) : (Op.equalIn 10000 55 (.agg (rowArr f)) (.agg (rowArr zeroF))).run Try.prog w = .ok r w := by
  obtain ⟨i, hi, h1, h2, _⟩ := info_parts u8_info
  rw [show (10000 : Nat) = 9999 + 1 from rfl, run_equalIn_array w 9999 _ _ row_u hi, cells_u8, eql_items w f zeroF _ fun i hi => List.mem_range.1 hi]
  congr 1
  rw [← hr, Bool.eq_iff_iff, List.all_eq_true, beq_iff_eq, cnt_zero]
  simp [zeroF]

/-- A row's cells, loaded: as the walk may ask for it. -/
theorem load_row {W : World} {q : Nat} {A : Array Value} {t : TypeId} {fr : Nat × Nat} (hq : W.heap[q]? = some (.cells A t fr)) (hs : A.size = 64) :
    (loadCellsFrom ⟨q, 0, none⟩ 0 64 #[]).run Try.prog W = .ok A W ∧ (loadVar 55 ⟨q, 0, none⟩).run Try.prog W = .ok (.agg A) W := by
  constructor
  · have := run_loadCells_list (P := Try.prog) W ⟨q, 0, none⟩ A.toList (fun j v hv => by
      have hadd : (⟨q, 0, none⟩ : Addr).add j = ⟨q, j, none⟩ := by unfold Addr.add; split <;> simp_all
      rw [hadd, cell_of_row _ _ j A t fr hq]
      simpa using hv)
    simpa [loadCells, hs] using this
  · exact run_loadVar_row W q t _ A fr _ hq row_u rfl (by rw [hs]; exact row_info)
/-- A variable that is loaded whole, as a step of a stretch that only reads. -/
theorem still_load {P : Program} {ops : Array Oper} {o : Oper} {rest : List Oper} {a : Act} {W : World} {Q : Act → Prop} (hgd : o.guard = none) (ty : TypeId) (x : Operand) (ho : o.op = .load ty x) (q : Addr) (hx : a.eval x = .pointer (some q)) (v : Value)
    (hl : (loadVar ty q).run P W = .ok v W) (h : wpStill P ops W Q rest (a.put o.dst v)) : wpStill P ops W Q (o :: rest) a :=
  wpStill_step fun K hK => by
    have hw : Region.wanted o (yielded ops a.tmps) = true := by simp [Region.wanted, hgd]
    rw [if_pos hw]
    unfold Oper.still execOp
    simp only [ho, hx, Instr.loadAt, Instr.sureAddr, Sem.run_bind, Sem.run_pure, Result.andThen_ok, hl]
    exact ⟨rfl, hK _ h⟩
section
variable {w : World} {g b n : Nat} {c : Nat → UInt8}
theorem rowSet_out {f : Nat → UInt8} {k : Nat} (h : ∀ j, n ≤ j → c j = 0) (hf : ∀ i, i < 64 → n ≤ 64 * k + i → f i = 0) : ∀ j, n ≤ j → rowSet c k f j = 0 := by
  intro j hj
  unfold rowSet
  split
  · exact hf _ (by omega) (by omega)
  · exact h j hj
theorem ChunkAt.put {f : Nat → UInt8} {k : Nat} {w' : World} {D' : DataW Unit} (h : ChunkAt w g b n c) (hf : ∀ i, i < 64 → n ≤ 64 * k + i → f i = 0) (hg : w.grownBy w' (some b)) {j : Nat} (hown : w'.ownsMap Try.prog 3 rowElem b j D') (hr : RowsAre D' (rowSet c k f)) : ChunkAt w' g b n (rowSet c k f) :=
  ⟨h.head.of_block (hg.block g h.lt.1 (by intro e; injection e with e; exact h.ne e)), ⟨D', tight hown, hr⟩, rowSet_out h.out hf, h.pos, h.small⟩
def PutIn (w : World) (g b n : Nat) (c : Nat → UInt8) (e : Ending) (w' : World) : Prop := e = .returned (.tuple #[]) ∧ ChunkAt w' g b n c ∧ w.grownBy w' (some b)
set_option maxRecDepth 100000 in
theorem put_at (h : ChunkAt w g b n c) {k : Nat} (hk : k < 16384) {f : Nat → UInt8} (hf : ∀ i, i < 64 → n ≤ 64 * k + i → f i = 0) : Calls Try.prog 29 #[.pointer (some ⟨g, 0, none⟩), .int .i64 k, .agg (rowArr f)] w (PutIn w g b n (rowSet c k f)) := by
  obtain ⟨D, hm, hd⟩ := h.mapp
  have hz := row_zero
  obtain ⟨A, hA⟩ : ∃ A, A = rowArr f := ⟨_, rfl⟩
  have hs : A.size = 64 := by rw [hA]; exact rowArr_size f
  have HI : (Try.prog.info? 55).map (·.size) = some A.size := by rw [hA, rowArr_size]; exact row_info
  obtain ⟨Z, hZ⟩ : ∃ Z, Z = rowArr zeroF := ⟨_, rfl⟩
  obtain ⟨r, hr⟩ : ∃ r, (cnt f 64 == 0) = r := ⟨_, rfl⟩
  have heq := fun (W : World) => eql_row W f hr
  have hel := rowElem_of f
  rw [← hA] at heq hel ⊢
  rw [← hZ] at heq hz
  have c1 : (w.alloc (.cells A 55)).cell? ⟨g, 1, none⟩ = some (.map (some b)) := (h.alloc _).c1
  have HK := Lib.hid (key_nat (show k ≤ 1048576 by omega))
  have HM := Lib.hid (hm.alloc (.cells A 55))
  have HG := Lib.hid (World.grownBy_alloc w (.cells A 55) (some b))
  have HP : Hid (∀ w' D' j, w.grownBy w' (some b) → w'.ownsMap Try.prog 3 rowElem b j D' → RowsAre D' (rowSet c k f) → PutIn w g b n (rowSet c k f) (.returned (.tuple #[])) w') := fun w' D' j hg hown hr => ⟨rfl, h.put hf hg hown hr, hg⟩
  have HL : Hid (Maps.size D < maxLen) := by
    show _ < _
    rw [size_keys hm hd]
    have := keysL_length (c := c) 16384 0
    unfold keysOf maxLen
    omega
  have HD : Hid (RowsAre D c) := hd
  have HT : Hid (Maps.IsMap D) := hm.isMap
  cases r
  · have HC : Hid (cnt f 64 ≠ 0) := by
      show ¬ _
      intro e
      rw [e] at hr
      cases hr
    clear hA hZ h hm hd hf hr
    go_enter Try.func29, Try.ntmps29
    go_upto_region 3 with (refine wpList_load_row rfl 55 (.tmp 5) rfl w.heap.size rfl 55 A (0, 0) _ (heap_alloc_last w _) row_u rfl HI ?_)
    obtain ⟨l1, l2⟩ := load_row (W := (w.alloc (.cells A 55)).drewN 1) (heap_alloc_last w _) hs
    obtain ⟨q, hq⟩ : ∃ q, w.heap.size = q := ⟨_, rfl⟩
    rw [hq] at l1 l2 ⊢
    clear hq
    generalize w.alloc (.cells A 55) = W1 at *
    refine wp_region_still_tail 6 (by kernel_rfl) (by kernel_rfl) ?_
    simp only [List.take_succ_cons, List.take_zero, List.drop_succ_cons, List.drop_zero]
    change wpStill _ _ (W1.drewN 1) _ _ _
    repeat still_step
    refine still_load rfl _ (.tmp 5) rfl _ rfl _ l2 ?_
    refine wpStill_nil ?_
    change wpList _ _ _ _ _ (W1.drewN 1)
    have HM2 : Hid ((W1.drewN 1).ownsMap Try.prog 3 rowElem b (Maps.size D) D) := HM.out
    go_wp2_with (at_mapUpdate; refine wpList_mapUpdate_own _ rfl _ _ _ 39 rfl 3 55 intKey Try.underlying39 rowElem b _ D rfl HM2.out HL.out _ _ _ rfl rfl HK.out (rowDat f) [] hel ?_; intro w2 hown2 hg2)
    go_end0
    exact HP.out _ _ _ ((grown_drewN HG.out 1).trans hg2) hown2 (HD.out.put HT.out hk HC.out)
  · have HC : Hid (cnt f 64 = 0) := by
      show _ = _
      simpa using hr
    clear hA hZ h hm hd hf hr
    go_enter Try.func29, Try.ntmps29
    go_wp2_with (first
      | (refine wpList_load_row rfl 55 (.tmp 5) rfl w.heap.size rfl 55 A (0, 0) _ (heap_alloc_last w _) row_u rfl HI ?_)
      | (at_delete; refine wpList_delete_own _ rfl _ _ 39 3 rfl 55 intKey Try.underlying39 rowElem b _ D rfl HM.out _ _ rfl HK.out ?_; intro w2 hown2 ht2))
    go_end0
    exact HP.out _ _ _ (HG.out.trans ht2.grown) hown2 (HD.out.del hk HC.out)
end
end Go.Proofs.Ytcfnnchbnlcppaa
