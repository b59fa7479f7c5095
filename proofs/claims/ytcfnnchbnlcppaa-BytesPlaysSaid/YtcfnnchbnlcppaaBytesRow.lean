/- Layer 10 (bytes): a row looked up; a row in a variable of its own: a part of it as a slice, a text copied into it, a part of it cleared. -/
import Derived.Test.YtcfnnchbnlcppaaBytesEach
import Derived.Lib.BufferWrite
namespace Go.Proofs.Ytcfnnchbnlcppaa
open Go.RowKit Go.Maps

set_option maxRecDepth 100000 in
theorem ChunkAt.look {w : World} {g b n : Nat} {c : Nat → UInt8} (h : ChunkAt w g b n c) {k : Nat} (hk : k < 16384) : (Instr.lookup 39 (.map (some b)) (.int .i64 (k : Int)) false).run Try.prog w = .ok (.agg (rowArr (rowOf c k))) w := by
  obtain ⟨D, hm, hd⟩ := h.mapp
  obtain ⟨v, ps, hrun, hv⟩ := hm.lookup (z := .agg (rowArr zeroF)) (zd := rowDat zeroF) (zp := []) intKey Try.underlying39 (row_zero w) (rowElem_of zeroF) (key_nat (show k ≤ 1048576 by omega))
  obtain ⟨f, rfl, hz⟩ := rowElem_inv hv
  injection hz with hz _
  rw [hd.at_ k hk] at hz
  rw [hrun, rowArr_same (rowDat_inj hz)]
/-- A variable that is stored whole. -/
theorem wpList_store_var {P : Program} {ops : Array Oper} {rest : List Oper} {o : Oper} {a : Act} {w : World} {Q : Exit → Act → World → Prop} (hgd : o.guard = none) (ty : TypeId) (x v : Operand) (ho : o.op = .store ty x v) (q : Addr) (hx : a.eval x = .pointer (some q)) (val : Value) (hv : a.eval v = val) (w' : World)
    (hs : (storeVar ty q val).run P w = .ok () w') (h : wpList P ops Q rest (a.put o.dst undef) w') : wpList P ops Q (o :: rest) a w := by
  refine wpList_plain hgd fun K hK => ?_
  unfold Oper.wp execOp
  simp only [ho, hx, hv, Instr.storeAt, Instr.sureAddr, Sem.run_bind, Sem.run_pure, Result.andThen_ok, hs]
  exact hK _ _ h
theorem wpList_load_var {P : Program} {ops : Array Oper} {rest : List Oper} {o : Oper} {a : Act} {w : World} {Q : Exit → Act → World → Prop} (hgd : o.guard = none) (ty : TypeId) (x : Operand) (ho : o.op = .load ty x) (q : Addr) (hx : a.eval x = .pointer (some q)) (v : Value)
    (hl : (loadVar ty q).run P w = .ok v w) (h : wpList P ops Q rest (a.put o.dst v) w) : wpList P ops Q (o :: rest) a w := by
  refine wpList_plain hgd fun K hK => ?_
  unfold Oper.wp execOp
  simp only [ho, hx, Instr.loadAt, Instr.sureAddr, Sem.run_bind, Sem.run_pure, Result.andThen_ok, hl]
  exact hK _ _ h
theorem store_row_new (w : World) {Z A : Array Value} (hZ : Z.size = 64) (hA : A.size = 64) (h1 : A.all (·.oneCell') = true) : (storeVar 55 ⟨w.heap.size, 0, none⟩ (.agg A)).run Try.prog (w.alloc (.cells Z 55)) = .ok () (w.alloc (.cells A 55)) :=
  run_storeVar_new w _ Z A (by rw [hA]; exact row_info) (by omega) h1
/-- r[from:to] of a row in a variable. -/
theorem slice_row (W : World) (q : Nat) {i t : Nat} (h1 : i < t) (h2 : t ≤ 64) : (Instr.sliceAt 55 (.pointer (some ⟨q, 0, none⟩)) (some (.int .i64 (i : Int))) (some (.int .i64 (t : Int))) none).run Try.prog W = .ok (.slice (some ⟨q, i, none⟩) (t - i) (64 - i)) W := by
  obtain ⟨ti, hi, _, hz, _⟩ := info_parts u8_info
  have e1 : (0 : Int) ≤ (i : Int) := by omega
  have e3 : (0 : Int) ≤ (t : Int) := by omega
  have e5 : ¬ (64 : Nat) = i := by omega
  simp [Instr.sliceAt, Instr.sureAddr, run_underlying row_u, Instr.sliceBounds, Instr.sliceBound, asIntOf, sizeOf, typeInfo, hi, hz, e1, e3, e5, Addr.add]
  rw [if_pos h2, if_pos (show i ≤ t by omega)]
  by_cases h0 : i = 0
  · rw [if_pos h0, h0]
  · rw [if_neg h0]
/-- The first bytes of a text copied into a row. -/
theorem copy_text (W : World) (ty : TypeId) {q i L cap : Nat} {s : ByteArray} {A : Array Value} {t : TypeId} (hq : W.heap[q]? = some (.cells A t (0, 0))) (hL : L ≤ s.size) (hfit : i + L ≤ A.size) :
    (Builtin.copy_ #[51, 9] ty #[.slice (some ⟨q, i, none⟩) L cap, .string s]).run Try.prog W = .ok (goInt L) (W.setRow q (A.toList.take i ++ Lib.byteCells (s.extract 0 L).data.toList ++ A.toList.drop (i + L)).toArray) := by
  have hsz : (s.extract 0 L).data.size = L := by
    show (s.extract 0 L).size = L
    rw [size_extract]
    omega
  have hlen : (Lib.byteCells (s.extract 0 L).data.toList).length = L := by rw [Lib.byteCells_length, Array.length_toList, hsz]
  have hst := run_storeCells_at Try.prog q i t (Lib.byteCells (s.extract 0 L).data.toList) 0 A W hq (by rw [hlen]; simpa using hfit) (Lib.byteCells_one _)
  have hmin : Nat.min s.size L = L := Nat.min_eq_right hL
  rw [hlen] at hst
  simp only [Nat.add_zero] at hst
  obtain ⟨ti, hi, _, hz, _⟩ := info_parts u8_info
  have hx : Lib.byteCells (s.extract 0 L).data.toList = List.take L (List.map (fun b : UInt8 => Value.int IntKind.u8 (b.toNat : Int)) s.data.toList) := by simp [Lib.byteCells]
  generalize (A.toList.take i ++ Lib.byteCells (s.extract 0 L).data.toList ++ A.toList.drop (i + L)).toArray = V at hst ⊢
  rw [hx] at hst
  simp [Builtin.copy_, run_underlying Try.underlying51, Builtin.lenOf, Builtin.firstCells, sizeOf, typeInfo, hi, hmin]
  rw [hst]
  simp [Result.andThen]
/-- A part of a row cleared. -/
theorem clear_row (W : World) (ty : TypeId) {q i L cap : Nat} {A : Array Value} {t : TypeId} (hq : W.heap[q]? = some (.cells A t (0, 0))) (h0 : 0 < L) (hfit : i + L ≤ A.size) :
    (Builtin.clear_ #[51] ty #[.slice (some ⟨q, i, none⟩) L cap]).run Try.prog W = .ok (.tuple #[]) (W.setRow q (A.toList.take i ++ List.replicate L (byteV 0) ++ A.toList.drop (i + L)).toArray) := by
  have hst := run_storeCells_at Try.prog q i t (List.replicate L (byteV 0)) 0 A W hq (by rw [List.length_replicate]; simpa using hfit) (fun v hv => by rw [List.eq_of_mem_replicate hv]; rfl)
  rw [List.length_replicate] at hst
  simp only [Nat.add_zero] at hst
  have hz : (zeroValue 5).run Try.prog W = .ok (.int .u8 0) W := by kernel_rfl
  have hc : (Builtin.zeroCells #[Value.int .u8 0] L).toList = List.replicate L (byteV 0) := by
    unfold Builtin.zeroCells
    apply List.ext_getElem?
    intro j
    rw [List.getElem?_replicate]
    simp
    by_cases hj : j < L
    · simp [hj, Nat.mod_one]
      rfl
    · simp [hj]
  obtain ⟨L', rfl⟩ : ∃ L', L = L' + 1 := ⟨L - 1, by omega⟩
  simp only [Builtin.clear_, run_underlying Try.underlying51, Sem.run_bind, Sem.run_pure, Result.andThen_ok, List.getElem?_toArray, List.getElem?_cons_zero]
  simp [hz, Value.cells, Result.andThen]
  rw [hc, hst]
  simp
/-! ### what the row's cells are then -/
theorem row_put {f h : Nat → UInt8} {i L : Nat} {t : ByteArray} (hL : t.size = L) (hfit : i + L ≤ 64) (hh : ∀ j, j < 64 → h j = if i ≤ j ∧ j < i + L then byteAt t (j - i) else f j) :
    ((rowArr f).toList.take i ++ Lib.byteCells t.data.toList ++ (rowArr f).toList.drop (i + L)).toArray = rowArr h := by
  have hlen : (Lib.byteCells t.data.toList).length = L := by rw [Lib.byteCells_length, Array.length_toList]; exact hL
  have h64 : (rowArr f).toList.length = 64 := by rw [Array.length_toList, rowArr_size]
  apply Array.ext_getElem?
  intro j
  rw [List.getElem?_toArray, List.getElem?_append, List.getElem?_append, List.length_append, List.length_take, hlen, h64]
  have hm : min i 64 = i := by omega
  rw [hm]
  rcases Nat.lt_or_ge j 64 with hj | hj
  · rw [rowArr_at hj, hh j hj]
    by_cases h1 : j < i
    · rw [if_pos (by omega), if_pos h1, if_neg (by omega), List.getElem?_take_of_lt h1, Array.getElem?_toList, rowArr_at hj]
    · by_cases h2 : j < i + L
      · rw [if_pos h2, if_neg h1, if_pos ⟨by omega, h2⟩]
        unfold Lib.byteCells byteAt
        rw [List.getElem?_map, Array.getElem?_toList]
        have : j - i < t.data.size := by show _ < t.size; omega
        rw [Array.getElem?_eq_getElem this]
        rfl
      · rw [if_neg h2, if_neg (by omega), List.getElem?_drop, Array.getElem?_toList, show i + L + (j - (i + L)) = j by omega, rowArr_at hj]
  · rw [if_neg (by omega), List.getElem?_drop, Array.getElem?_toList, show i + L + (j - (i + L)) = j by omega, Array.getElem?_eq_none (by rw [rowArr_size]; omega), Array.getElem?_eq_none (by rw [rowArr_size]; omega)]
theorem byteCells_zeros (L : Nat) : Lib.byteCells (zeros L).data.toList = List.replicate L (byteV 0) := by
  unfold zeros Lib.byteCells
  simp
  exact .inr rfl
theorem size_zeros' (L : Nat) : (zeros L).size = L := zeros_size L
end Go.Proofs.Ytcfnnchbnlcppaa
