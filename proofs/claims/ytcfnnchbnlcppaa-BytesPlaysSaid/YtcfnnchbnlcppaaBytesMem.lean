/- Layer 10 (bytes): how bytes lie in memory: the cells of their struct, the map that has by their numbers those rows that are not all 0. -/
import Derived.Test.YtcfnnchbnlcppaaBaseRecs
import Derived.Test.YtcfnnchbnlcppaaBytesMath
import Derived.Maps.OwnSet
import Derived.Maps.RangeWalk
import Derived.Lib.SlKeysI
import Derived.IntWalk
import Derived.Deep.WholeRow
import Derived.Laws.CopyRow
import Derived.ChangeKeysEq
import Derived.Laws.StructEq
namespace Go.Proofs.Ytcfnnchbnlcppaa
open Go.RowKit Go.Maps

/-! ### rows as values -/
def byteV (x : UInt8) : Value := .int .u8 (x.toNat : Int)
def rowArr (f : Nat → UInt8) : Array Value := ((List.range 64).map fun i => byteV (f i)).toArray
def rowDat (f : Nat → UInt8) : DataW Unit := .agg ((List.range 64).map fun i => .lit (.int .u8 ((f i).toNat : Int)))
def zeroF : Nat → UInt8 := fun _ => 0
theorem rowArr_size (f : Nat → UInt8) : (rowArr f).size = 64 := by unfold rowArr; simp
theorem rowArr_at {f : Nat → UInt8} {i : Nat} (h : i < 64) : (rowArr f)[i]? = some (byteV (f i)) := by
  unfold rowArr
  simp [h]
theorem rowArr_one (f : Nat → UInt8) : (rowArr f).all (·.oneCell') = true := by
  rw [Array.all_eq_true]
  intro i h
  have := rowArr_at (f := f) (i := i) (by rw [rowArr_size] at h; exact h)
  rw [Array.getElem?_eq_getElem h] at this
  injection this with e
  rw [e]
  rfl
theorem rowArr_same {f g : Nat → UInt8} (h : ∀ i, i < 64 → f i = g i) : rowArr f = rowArr g := by
  unfold rowArr
  congr 1
  exact List.map_congr_left fun i hi => by rw [h i (List.mem_range.1 hi)]
theorem rowDat_same {f g : Nat → UInt8} (h : ∀ i, i < 64 → f i = g i) : rowDat f = rowDat g := by
  unfold rowDat
  congr 1
  exact List.map_congr_left fun i hi => by rw [h i (List.mem_range.1 hi)]
theorem rowDat_inj {f g : Nat → UInt8} (h : rowDat f = rowDat g) : ∀ i, i < 64 → f i = g i := by
  intro i hi
  unfold rowDat at h
  injection h with h
  have h1 := congrArg (fun l => l[i]?) h
  simp only [List.getElem?_map, List.getElem?_range hi, Option.map_some] at h1
  injection h1 with h1
  injection h1 with h1
  injection h1 with _ h1
  exact UInt8.toNat_inj.1 (by omega)
def isByte : Value → Bool
  | .int .u8 x => decide (0 ≤ x ∧ x < 256)
  | _ => false
def byteOf : Value → UInt8
  | .int _ x => UInt8.ofNat x.toNat
  | _ => 0
theorem isByte_byteV (x : UInt8) : isByte (byteV x) = true := by
  have h := x.toNat_lt
  unfold byteV
  generalize x.toNat = k at *
  unfold isByte
  exact decide_eq_true ⟨by omega, by omega⟩
theorem byteOf_byteV (x : UInt8) : byteOf (byteV x) = x := by
  show UInt8.ofNat (x.toNat : Int).toNat = x
  simp
theorem byteV_byteOf {v : Value} (h : isByte v = true) : byteV (byteOf v) = v := by
  unfold isByte at h
  split at h
  · rename_i x
    have := of_decide_eq_true h
    show Value.int .u8 ((UInt8.ofNat x.toNat).toNat : Int) = _
    rw [UInt8.toNat_ofNat', Nat.mod_eq_of_lt (by omega)]
    congr 1
    omega
  · cases h
/-- How an element of the map reads. -/
def rowElem : Value → Option (DataW Unit × List MemPlace)
  | .agg cs => if cs.size = 64 ∧ cs.all isByte = true then some (rowDat fun i => byteOf (cs.getD i undef), []) else none
  | _ => none
theorem rowElem_of (f : Nat → UInt8) : rowElem (.agg (rowArr f)) = some (rowDat f, []) := by
  unfold rowElem
  have h : (rowArr f).all isByte = true := by
    rw [Array.all_eq_true]
    intro i h
    have := rowArr_at (f := f) (i := i) (by rw [rowArr_size] at h; exact h)
    rw [Array.getElem?_eq_getElem h] at this
    injection this with e
    rw [e]
    exact isByte_byteV _
  simp only
  rw [if_pos ⟨rowArr_size f, h⟩]
  congr 2
  refine rowDat_same fun i hi => ?_
  rw [Array.getD_eq_getD_getElem?, rowArr_at hi]
  exact byteOf_byteV _
theorem rowElem_inv {v : Value} {z : DataW Unit × List MemPlace} (h : rowElem v = some z) : ∃ f, v = .agg (rowArr f) ∧ z = (rowDat f, []) := by
  unfold rowElem at h
  split at h
  · rename_i cs
    split at h
    · rename_i hc
      injection h with h
      refine ⟨fun i => byteOf (cs.getD i undef), ?_, h.symm⟩
      congr 1
      apply Array.ext_getElem?
      intro i
      rcases Nat.lt_or_ge i 64 with hi | hi
      · rw [rowArr_at hi]
        have hs : i < cs.size := by omega
        have := Array.all_eq_true.1 hc.2 i hs
        rw [Array.getD_eq_getD_getElem?, Array.getElem?_eq_getElem hs]
        show some _ = some (byteV (byteOf cs[i]))
        rw [byteV_byteOf this]
      · rw [Array.getElem?_eq_none (by omega), Array.getElem?_eq_none (by rw [rowArr_size]; omega)]
    · cases h
  · cases h
theorem row_zero (w : World) : (zeroValue 55).run Try.prog w = .ok (.agg (rowArr zeroF)) w := by kernel_rfl
theorem row_info : (Try.prog.info? 55).map (·.size) = some 64 := by kernel_rfl
theorem row_u : Try.prog.underlying 55 = some (.array 64 5) := by kernel_rfl
theorem cells_u8 : Try.prog.cellsOf 5 = 1 := by kernel_rfl
theorem u8_info : (Try.prog.info? 5).map (fun i => (i.zero, i.size, i.bytes)) = some (some (.int .u8 0), 1, 1) := by kernel_rfl

/-! ### what the map has -/
theorem intKey : Keyed Try.prog 3 := int_keyed Try.underlying3
theorem wf_nat {k : Nat} (h : k ≤ 1048576) : (Lit.int .i64 (k : Int)).wf = true := by
  have hmin : IntKind.i64.min = -9223372036854775808 := rfl
  have hmax : IntKind.i64.max = 9223372036854775807 := rfl
  simp only [Lit.wf, Bool.and_eq_true, decide_eq_true_eq]
  omega
theorem key_nat {k : Nat} (h : k ≤ 1048576) : keyOf Try.prog 3 (.int .i64 (k : Int)) = some (.int .i64 (k : Int)) := keyOf_int_mk Try.underlying3 (wf_nat h)
/-- Has the map the row of this number? -/
def hasI (c : Nat → UInt8) (x : Int) : Bool := decide (0 ≤ x ∧ x < 16384) && rowHas c x.toNat
theorem hasI_nat {c : Nat → UInt8} {k : Nat} (h : k < 16384) : hasI c k = rowHas c k := by
  unfold hasI
  rw [decide_eq_true (by omega)]
  simp
/-- The map has the rows of these bytes, those that are not all 0. -/
structure RowsAre (D : DataW Unit) (c : Nat → UInt8) : Prop where
  at_ : ∀ k : Nat, k < 16384 → D.atKey (.int .i64 (k : Int)) (rowDat zeroF) = rowDat (rowOf c k)
  has : ∀ x : Int, Maps.has D (.int .i64 x) = hasI c x
theorem rowsAre_new : RowsAre (.map []) zeroF :=
  ⟨fun k _ => rfl, fun x => by
    show false = _
    unfold hasI
    have : rowHas zeroF x.toNat = false := rowHas_no.2 fun _ _ => rfl
    rw [this, Bool.and_false]⟩
/-- Other bytes, that differ in one row alone. -/
def rowSet (c : Nat → UInt8) (k : Nat) (f : Nat → UInt8) : Nat → UInt8 := fun j => if j / 64 = k then f (j % 64) else c j
theorem rowOf_same {c : Nat → UInt8} {k : Nat} {f : Nat → UInt8} : ∀ i, i < 64 → rowOf (rowSet c k f) k i = f i := by
  intro i hi
  unfold rowOf rowSet
  rw [if_pos (by omega)]
  congr 1
  omega
theorem rowOf_other {c : Nat → UInt8} {k m : Nat} {f : Nat → UInt8} (h : m ≠ k) : ∀ i, i < 64 → rowOf (rowSet c k f) m i = rowOf c m i := by
  intro i hi
  unfold rowOf rowSet
  rw [if_neg (by omega)]
theorem rowHas_same {c d : Nat → UInt8} {k m : Nat} (h : ∀ i, i < 64 → rowOf c k i = rowOf d m i) : rowHas c k = rowHas d m := by
  unfold rowHas
  rw [cnt_same h]
theorem rowHas_set {c : Nat → UInt8} {k : Nat} {f : Nat → UInt8} : rowHas (rowSet c k f) k = (cnt f 64 != 0) := by
  unfold rowHas
  rw [cnt_same rowOf_same]
theorem hasI_other {c : Nat → UInt8} {k : Nat} {f : Nat → UInt8} {x : Int} (h : x ≠ k) : hasI (rowSet c k f) x = hasI c x := by
  unfold hasI
  by_cases h0 : 0 ≤ x
  · rw [rowHas_same (rowOf_other (c := c) (f := f) (show x.toNat ≠ k by omega))]
  · rw [decide_eq_false (by omega)]
    rfl
theorem RowsAre.put {D : DataW Unit} {c f : Nat → UInt8} {k : Nat} (h : RowsAre D c) (hD : Maps.IsMap D) (hk : k < 16384) (hf : cnt f 64 ≠ 0) : RowsAre (D.put (.int .i64 (k : Int)) (rowDat f)) (rowSet c k f) := by
  refine ⟨fun m hm => ?_, fun x => ?_⟩
  · by_cases e : m = k
    · subst e
      rw [atKey_put_same hD (show WideAt.IsKeyLit (.int .i64 (m : Int)) from trivial)]
      exact rowDat_same fun i hi => (rowOf_same i hi).symm
    · rw [atKey_put_other (fun e2 => e (by injection e2 with _ e2; omega)), h.at_ m hm]
      exact rowDat_same fun i hi => (rowOf_other e i hi).symm
  · by_cases e : x = (k : Int)
    · rw [e, has_put_same hD (show WideAt.IsKeyLit (.int .i64 (k : Int)) from trivial), hasI_nat hk, rowHas_set]
      simp [hf]
    · rw [has_put_other (fun e2 => e (by injection e2)), h.has x, hasI_other e]
theorem RowsAre.del {D : DataW Unit} {c f : Nat → UInt8} {k : Nat} (h : RowsAre D c) (hk : k < 16384) (hf : cnt f 64 = 0) : RowsAre (D.del (.int .i64 (k : Int))) (rowSet c k f) := by
  refine ⟨fun m hm => ?_, fun x => ?_⟩
  · by_cases e : m = k
    · subst e
      rw [atKey_del_same]
      exact rowDat_same fun i hi => by rw [rowOf_same i hi, cnt_zero.1 hf i hi]; rfl
    · rw [atKey_del_other (fun e2 => e (by injection e2 with _ e2; omega)), h.at_ m hm]
      exact rowDat_same fun i hi => (rowOf_other e i hi).symm
  · by_cases e : x = (k : Int)
    · rw [e, has_del_same, hasI_nat hk, rowHas_set]
      simp [hf]
    · rw [has_del_other (fun e2 => e (by injection e2)), h.has x, hasI_other e]
theorem RowsAre.like {D : DataW Unit} {c d : Nat → UInt8} (h : RowsAre D c) (e : c = d) : RowsAre D d := by subst e; exact h

/-! ### bytes -/
def bytesF (n b : Nat) : Nat → Value
  | 0 => .int .i64 n
  | _ => .map (some b)
/-- Bytes of this size, whose map is in block b, are c. -/
structure ChunkAt (w : World) (g b n : Nat) (c : Nat → UInt8) : Prop where
  head : w.rowIs g 41 2 (bytesF n b)
  mapp : ∃ D, w.ownsMap Try.prog 3 rowElem b (Maps.size D) D ∧ RowsAre D c
  out : ∀ j, n ≤ j → c j = 0
  pos : 1 ≤ n
  small : n ≤ 1048576
theorem tight {w : World} {P : Program} {k : TypeId} {R : Value → Option (DataW Unit × List MemPlace)} {b n : Nat} {D : DataW Unit} (h : w.ownsMap P k R b n D) : w.ownsMap P k R b (Maps.size D) D := by
  obtain ⟨es, clock, hb, F, _, rfl⟩ := h
  refine ⟨es, clock, hb, F, ?_, rfl⟩
  simp [Maps.size, length_sorted]
section
variable {w w' : World} {g b n : Nat} {c : Nat → UInt8}
theorem ChunkAt.keep (h : ChunkAt w g b n c) (hg : w'.heap[g]? = w.heap[g]?) (hb : w'.heap[b]? = w.heap[b]?) : ChunkAt w' g b n c := by
  obtain ⟨h1, ⟨D, ⟨es, clock, h2, r⟩, h3⟩, h4, h5, h6⟩ := h
  exact ⟨h1.of_block hg, ⟨D, ⟨es, clock, hb.trans h2, r⟩, h3⟩, h4, h5, h6⟩
theorem ChunkAt.lt (h : ChunkAt w g b n c) : g < w.heap.size ∧ b < w.heap.size := by
  obtain ⟨h1, ⟨D, h2, _⟩, _⟩ := h
  exact ⟨h1.lt, h2.lt⟩
theorem ChunkAt.ne (h : ChunkAt w g b n c) : g ≠ b := by
  rintro rfl
  obtain ⟨⟨cs, hb, _⟩, ⟨D, ⟨es, clock, h2, _⟩, _⟩, _⟩ := h
  rw [hb] at h2
  cases h2
theorem ChunkAt.below {B : Nat} (h : ChunkAt w g b n c) (hb : Below B w w') (h1 : g < B) (h2 : b < B) : ChunkAt w' g b n c := h.keep (hb.block g h1) (hb.block b h2)
theorem ChunkAt.more (h : ChunkAt w g b n c) (hb : Below w.heap.size w w') : ChunkAt w' g b n c := h.below hb h.lt.1 h.lt.2
theorem ChunkAt.alloc (h : ChunkAt w g b n c) (o : Obj) : ChunkAt (w.alloc o) g b n c := h.more ((Below.refl _ _).alloc (Nat.le_refl _) _)
theorem ChunkAt.drewN (h : ChunkAt w g b n c) (k : Nat) : ChunkAt (w.drewN k) g b n c := h.keep rfl rfl
theorem ChunkAt.drew (h : ChunkAt w g b n c) : ChunkAt w.drew g b n c := h.keep rfl rfl
theorem ChunkAt.like {d : Nat → UInt8} (h : ChunkAt w g b n c) (e : ∀ j, c j = d j) : ChunkAt w g b n d := by
  obtain rfl : c = d := funext e
  exact h
theorem ChunkAt.c0 (h : ChunkAt w g b n c) : w.cell? ⟨g, 0, none⟩ = some (.int .i64 n) := h.head.cell (i := 0) (by omega)
theorem ChunkAt.c1 (h : ChunkAt w g b n c) : w.cell? ⟨g, 1, none⟩ = some (.map (some b)) := h.head.cell (i := 1) (by omega)
theorem ChunkAt.kind (h : ChunkAt w g b n c) {q : Nat} {cs : Array Value} {t : TypeId} {fr : Nat × Nat} (hq : w.heap[q]? = some (.cells cs t fr)) : q ≠ b := by
  rintro rfl
  obtain ⟨D, ⟨es, clock, h2, _⟩, _⟩ := h.mapp
  rw [hq] at h2
  cases h2
theorem keys_perm {D : DataW Unit} {j : Nat} (hown : w.ownsMap Try.prog 3 rowElem b j D) (hr : RowsAre D c) : (ints (keysOf c)).Perm (intKeys D) := by
  have h1 : CollectedI D (fun _ => false) (ints (keysOf c)) := ⟨by
    refine List.pairwise_map.2 ((keysL_sorted (c := c) 16384 0).imp fun {x y} h => ?_)
    omega, fun x => by
    rw [hr.has, ints, List.mem_map]
    constructor
    · rintro ⟨k, hk, rfl⟩
      have := mem_keysL.1 hk
      exact ⟨by rw [hasI_nat (by omega)]; exact this.2.2, rfl⟩
    · rintro ⟨hx, _⟩
      unfold hasI at hx
      rw [Bool.and_eq_true] at hx
      have h0 := of_decide_eq_true hx.1
      refine ⟨x.toNat, mem_keysL (f := 16384) (m := 0) |>.2 ⟨by omega, by omega, hx.2⟩, by omega⟩⟩
  exact h1.perm hown intKey Try.underlying3 fun _ => rfl
theorem size_keys {D : DataW Unit} {j : Nat} (hown : w.ownsMap Try.prog 3 rowElem b j D) (hr : RowsAre D c) : Maps.size D = (keysOf c).length := by
  have h1 := (keys_perm hown hr).length_eq
  rw [ints_length] at h1
  rw [h1]
  obtain ⟨es, e⟩ := hown.isMap
  rw [e]
  show es.length = (es.map fun p => intOf p.1).length
  rw [List.length_map]
theorem keys_none (hn : n ≤ 1048576) (ho : ∀ j, n ≤ j → c j = 0) : (keysOf c).length = 0 ↔ cnt c n = 0 := by
  rw [List.length_eq_zero_iff]
  constructor
  · intro h
    exact cnt_zero.2 fun j hj => keysL_nil (f := 16384) (m := 0) h j (by omega) (by omega)
  · intro h
    cases hk : keysOf c with
    | nil => rfl
    | cons k r =>
      have hm := mem_keysL.1 (show k ∈ keysL c 0 16384 by show k ∈ keysOf c; rw [hk]; exact List.mem_cons_self)
      have h0 : rowHas c k = false := rowHas_no.2 fun i hi => by
        rcases Nat.lt_or_ge (64 * k + i) n with h1 | h1
        · exact cnt_zero.1 h _ h1
        · exact ho _ h1
      rw [h0] at hm
      exact absurd hm.2.2 (by simp)
end
end Go.Proofs.Ytcfnnchbnlcppaa
