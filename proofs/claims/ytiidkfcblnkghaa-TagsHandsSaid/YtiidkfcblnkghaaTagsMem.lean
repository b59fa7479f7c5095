/- Layer 16 (tags): how tags lie in memory (three blocks: the chunks, the map of counts, the tags' own); contracts of New, chunk, Owner, Gen, Count; tags that New did not give. -/
import Derived.Test.YtiidkfcblnkghaaBaseFoot
import Derived.Test.YtiidkfcblnkghaaBaseRecs
import Derived.Test.YtiidkfcblnkghaaBaseFrom
import Derived.Test.YtiidkfcblnkghaaTagsMath
import Derived.Maps.OwnSet
import Derived.Lib.SlKeysI
import Derived.IntWalk
namespace Go.Proofs.Ytiidkfcblnkghaa
open Go.RowKit Go.Maps

theorem intKey : Keyed Try.prog 3 := int_keyed Try.underlying3
theorem zeroInt (w : World) : (zeroValue 3).run Try.prog w = .ok (.int .i64 0) w := by kernel_rfl
theorem wf_int {x : Int} (h : InInt x) : (Lit.int .i64 x).wf = true := by
  have hmin : IntKind.i64.min = -9223372036854775808 := rfl
  have hmax : IntKind.i64.max = 9223372036854775807 := rfl
  obtain ⟨h1, h2⟩ := h
  simp only [Lit.wf, Bool.and_eq_true, decide_eq_true_eq]
  omega
theorem key_int {x : Int} (h : InInt x) : keyOf Try.prog 3 (.int .i64 x) = some (.int .i64 x) := keyOf_int_mk Try.underlying3 (wf_int h)
noncomputable def intE : Value → Option (DataW Unit × List MemPlace) := plainElem Try.prog 3
theorem intE_mk {c : Int} (h : InInt c) : intE (.int .i64 c) = some (.lit (.int .i64 c), []) := plainElem_int Try.underlying3 (wf_int h)

/-! ### a map of counts -/
def CntF (D : DataW Unit) (f : Int → Nat) : Prop := ∀ x : Int, D.atKey (.int .i64 x) (.lit (.int .i64 0)) = .lit (.int .i64 (f x : Nat)) ∧ Maps.has D (.int .i64 x) = decide (0 < f x)
theorem CntF.like {D : DataW Unit} {f g : Int → Nat} (h : CntF D f) (e : ∀ x, f x = g x) : CntF D g := fun x => by rw [← e x]; exact h x
theorem CntF.new {f : Int → Nat} (h : ∀ x, f x = 0) : CntF (.map []) f := fun x => by rw [h x]; exact ⟨rfl, rfl⟩
theorem CntF.put {D : DataW Unit} {f g : Int → Nat} (h : CntF D f) (hm : IsMap D) {x : Int} {c : Nat} (hc : 0 < c) (hx : g x = c) (ho : ∀ y, y ≠ x → g y = f y) : CntF (D.put (.int .i64 x) (.lit (.int .i64 (c : Nat)))) g := fun y => by
  by_cases e : y = x
  · subst e
    rw [atKey_put_same hm (show WideAt.IsKeyLit (.int .i64 y) from trivial), has_put_same hm (show WideAt.IsKeyLit (.int .i64 y) from trivial), hx, decide_eq_true hc]
    exact ⟨rfl, rfl⟩
  · have hne : (Lit.int .i64 y) ≠ .int .i64 x := fun e2 => e (by injection e2)
    rw [atKey_put_other hne, has_put_other hne, ho y e]
    exact h y
/-- What is there between a store and the next look: another count at x. -/
def CntX (D : DataW Unit) (f : Int → Nat) (x : Int) (c : Nat) : Prop := D.atKey (.int .i64 x) (.lit (.int .i64 0)) = .lit (.int .i64 (c : Nat)) ∧ ∀ y, y ≠ x → D.atKey (.int .i64 y) (.lit (.int .i64 0)) = .lit (.int .i64 (f y : Nat)) ∧ Maps.has D (.int .i64 y) = decide (0 < f y)
theorem CntF.put' {D : DataW Unit} {f : Int → Nat} (h : CntF D f) (hm : IsMap D) (x : Int) (c : Nat) : CntX (D.put (.int .i64 x) (.lit (.int .i64 (c : Nat)))) f x c := by
  refine ⟨atKey_put_same hm (show WideAt.IsKeyLit (.int .i64 x) from trivial) _ _, fun y hy => ?_⟩
  have hne : (Lit.int .i64 y) ≠ .int .i64 x := fun e2 => hy (by injection e2)
  rw [atKey_put_other hne, has_put_other hne]
  exact h y
theorem CntX.del {D : DataW Unit} {f g : Int → Nat} {x : Int} {c : Nat} (h : CntX D f x c) (hx : g x = 0) (ho : ∀ y, y ≠ x → g y = f y) : CntF (D.del (.int .i64 x)) g := fun y => by
  by_cases e : y = x
  · subst e
    rw [atKey_del_same, has_del_same, hx]
    exact ⟨rfl, rfl⟩
  · have hne : (Lit.int .i64 y) ≠ .int .i64 x := fun e2 => e (by injection e2)
    rw [atKey_del_other hne, has_del_other hne, ho y e]
    exact h.2 y e
section
variable {w : World} {b j : Nat} {D : DataW Unit} {f : Int → Nat}
theorem look_at {x : Int} {c : Nat} (h : w.ownsMap Try.prog 3 intE b j D) (hc : D.atKey (.int .i64 x) (.lit (.int .i64 0)) = .lit (.int .i64 (c : Nat))) (hx : InInt x) : (Instr.lookup 44 (.map (some b)) (.int .i64 x) false).run Try.prog w = .ok (.int .i64 (c : Nat)) w := by
  obtain ⟨c', hrun, hat, _⟩ := h.lookup_int intKey Try.underlying44 Try.underlying3 (zeroInt w) (key_int hx)
  rw [hc] at hat
  injection hat with hat
  injection hat with _ hat
  rw [hrun, hat]
theorem look_cnt {x : Int} (h : w.ownsMap Try.prog 3 intE b j D) (hf : CntF D f) (hx : InInt x) : (Instr.lookup 44 (.map (some b)) (.int .i64 x) false).run Try.prog w = .ok (.int .i64 (f x : Nat)) w := look_at h (hf x).1 hx
theorem tight {w : World} {b n : Nat} {D : DataW Unit} (h : w.ownsMap Try.prog 3 intE b n D) : w.ownsMap Try.prog 3 intE b (Maps.size D) D := by
  obtain ⟨es, clock, hb, F, _, rfl⟩ := h
  refine ⟨es, clock, hb, F, ?_, rfl⟩
  simp [Maps.size, length_sorted]
theorem map_same {w' : World} {T : Nat → Prop} (h : w.ownsMap Try.prog 3 intE b j D) (hs : Same T w w') (ht : T b) : w'.ownsMap Try.prog 3 intE b j D := by
  have hl := h.lt
  obtain ⟨es, clock, hb, r⟩ := h
  exact ⟨es, clock, (hs.block b ht hl).trans hb, r⟩
theorem ints_nodup {l : List Nat} (h : l.Nodup) : (ints l).Nodup := List.pairwise_map.2 (h.imp fun hne e => hne (by omega))
theorem owners_nodup (O : List Nat) : (ownersL O).Nodup := (ownersL_sorted O).imp fun h => Nat.ne_of_lt h
/-- The keys of the map are all owners. -/
theorem keys_owners (h : w.ownsMap Try.prog 3 intE b j D) {O : List Nat} (hf : CntF D (cntV O)) : (ints (ownersL O)).Perm (intKeys D) := by
  have h1 : CollectedI D (fun _ => false) (ints (ownersL O)) := ⟨ints_nodup (owners_nodup O), fun x => by
    rw [(hf x).2]
    constructor
    · intro hx
      obtain ⟨p, hp, rfl⟩ := List.mem_map.1 hx
      obtain ⟨h0, hm⟩ := mem_ownersL.1 hp
      refine ⟨decide_eq_true ?_, rfl⟩
      rw [cntV_nat, if_pos h0]
      exact List.count_pos_iff.2 hm
    · rintro ⟨hx, _⟩
      have h2 := of_decide_eq_true hx
      by_cases h0 : 0 < x
      · obtain ⟨p, rfl⟩ := Int.eq_ofNat_of_zero_le (show 0 ≤ x by omega)
        rw [cntV_nat, if_pos (by omega)] at h2
        exact mem_ints.2 (mem_ownersL.2 ⟨by omega, List.count_pos_iff.1 h2⟩)
      · rw [cntV_low (by omega)] at h2
        omega⟩
  exact h1.perm h intKey Try.underlying3 (fun _ => rfl)
theorem keys_size (h : w.ownsMap Try.prog 3 intE b j D) : (intKeys D).length = Maps.size D := by
  obtain ⟨es, clock, hb, F, _, rfl⟩ := h
  simp [Maps.size, intKeys]
theorem size_owners (h : w.ownsMap Try.prog 3 intE b j D) {O : List Nat} (hf : CntF D (cntV O)) : Maps.size D ≤ O.length := by
  rw [← keys_size h, ← (keys_owners h hf).length_eq, ints_length]
  exact ownersL_length O
end

/-! ### tags in memory -/
def headF (q n : Nat) : Nat → Value
  | 0 => .slice (some ⟨q, 0, none⟩) n n
  | _ => .map (some (q + 1))
def tagF (O G : List Nat) (j : Nat) : Value := .int .i64 (if j % 2 = 0 then (O[j / 2]?.getD 0 : Nat) else (G[j / 2]?.getD 0 : Nat))
def Blk (q : Nat) : Nat → Prop := fun k => q ≤ k ∧ k < q + 3
def ptrAt (q : Nat) : Value := .pointer (some ⟨q + 2, 0, none⟩)
structure MemAt (w : World) (q n : Nat) (O G : List Nat) (D : DataW Unit) : Prop where
  head : w.rowIs (q + 2) 46 2 (headF q n)
  rows : w.rowIs q 60 (n * 2) (tagF O G)
  mapp : w.ownsMap Try.prog 3 intE (q + 1) (Maps.size D) D
  lo : O.length = n
  lg : G.length = n
  small : n ≤ 1048576
  low : ∀ k : Nat, O[k]?.getD 0 ≤ 9223372036854775807
  gens : ∀ k : Nat, G[k]?.getD 0 ≤ 1048575
/-- Tags of the owners O and the generations G, in blocks q, q + 1, q + 2. -/
def TagsAt (w : World) (q n : Nat) (O G : List Nat) : Prop := ∃ D, MemAt w q n O G D ∧ CntF D (cntV O)
section
variable {w w' : World} {q n : Nat} {O G : List Nat} {D : DataW Unit}
theorem MemAt.keep (h : MemAt w q n O G D) (hs : Same (Blk q) w w') : MemAt w' q n O G D :=
  ⟨row_same h.head hs ⟨by omega, by omega⟩, row_same h.rows hs ⟨by omega, by omega⟩, map_same h.mapp hs ⟨by omega, by omega⟩, h.lo, h.lg, h.small, h.low, h.gens⟩
theorem MemAt.below (h : MemAt w q n O G D) (hb : Below w.heap.size w w') : MemAt w' q n O G D := h.keep (.of_below _ hb)
theorem TagsAt.keep (h : TagsAt w q n O G) (hs : Same (Blk q) w w') : TagsAt w' q n O G := by
  obtain ⟨D, h1, h2⟩ := h
  exact ⟨D, h1.keep hs, h2⟩
theorem TagsAt.below (h : TagsAt w q n O G) (hb : Below w.heap.size w w') : TagsAt w' q n O G := h.keep (.of_below _ hb)
theorem MemAt.heap (h : MemAt w q n O G D) : InHeap (Blk q) w := fun k hk => by
  have := h.head.lt
  have := hk.2
  omega
theorem MemAt.c0 (h : MemAt w q n O G D) : w.cell? ⟨q + 2, 0, none⟩ = some (.slice (some ⟨q, 0, none⟩) n n) := h.head.cell (i := 0) (by omega)
theorem MemAt.c1 (h : MemAt w q n O G D) : w.cell? ⟨q + 2, 1, none⟩ = some (.map (some (q + 1))) := h.head.cell (i := 1) (by omega)
theorem MemAt.own (h : MemAt w q n O G D) {k y : Nat} (hk : k < n) (hy : O[k]?.getD 0 = y) : w.cell? ⟨q, k * 2, none⟩ = some (.int .i64 y) ∧ w.frozen? ⟨q, k * 2, none⟩ = false := by
  have h1 := World.rowIs.cell h.rows (i := k * 2) (by omega)
  unfold tagF at h1
  rw [if_pos (by omega), show k * 2 / 2 = k by omega, hy] at h1
  exact ⟨h1, World.rowIs.frozen h.rows _⟩
theorem MemAt.gen (h : MemAt w q n O G D) {k y : Nat} (hk : k < n) (hy : G[k]?.getD 0 = y) : w.cell? ⟨q, k * 2 + 1, none⟩ = some (.int .i64 y) ∧ w.frozen? ⟨q, k * 2 + 1, none⟩ = false := by
  have h1 := World.rowIs.cell h.rows (i := k * 2 + 1) (by omega)
  unfold tagF at h1
  rw [if_neg (by omega), show (k * 2 + 1) / 2 = k by omega, hy] at h1
  exact ⟨h1, World.rowIs.frozen h.rows _⟩
theorem getD_set' (l : List Nat) (k x j : Nat) (hk : k < l.length) : (l.set k x)[j]?.getD 0 = if j = k then x else l[j]?.getD 0 := by
  rw [List.getElem?_set]
  by_cases e : k = j
  · subst e; rw [if_pos rfl, if_pos rfl, if_pos hk]; rfl
  · rw [if_neg e, if_neg (fun e2 => e e2.symm)]
theorem MemAt.setO (h : MemAt w q n O G D) {k : Nat} (hk : k < n) (x : Nat) (hx : x ≤ 9223372036854775807) : MemAt (w.setCell ⟨q, k * 2, none⟩ (.int .i64 x)) q n (O.set k x) G D := by
  have hl := h.lo
  refine ⟨h.head.setOther (a := ⟨q, k * 2, none⟩) (by simp) _, ?_, h.mapp.setCell (a := ⟨q, k * 2, none⟩) (by simp) _, by rw [List.length_set]; exact h.lo, h.lg, h.small, fun j => ?_, h.gens⟩
  · refine (h.rows.set (k * 2) _).congr fun j hj => ?_
    unfold tagF
    by_cases e : j = k * 2
    · subst e
      rw [if_pos rfl, if_pos (by omega), show k * 2 / 2 = k by omega, getD_set' _ _ _ _ (by omega), if_pos rfl]
    · rw [if_neg e]
      by_cases e2 : j % 2 = 0
      · rw [if_pos e2, if_pos e2, getD_set' _ _ _ _ (by omega), if_neg (by omega)]
      · rw [if_neg e2, if_neg e2]
  · rw [getD_set' _ _ _ _ (by omega)]
    split
    · exact hx
    · exact h.low j
theorem MemAt.setG (h : MemAt w q n O G D) {k : Nat} (hk : k < n) (x : Nat) (hx : x ≤ 1048575) : MemAt (w.setCell ⟨q, k * 2 + 1, none⟩ (.int .i64 x)) q n O (G.set k x) D := by
  have hl := h.lg
  refine ⟨h.head.setOther (a := ⟨q, k * 2 + 1, none⟩) (by simp) _, ?_, h.mapp.setCell (a := ⟨q, k * 2 + 1, none⟩) (by simp) _, h.lo, by rw [List.length_set]; exact h.lg, h.small, h.low, fun j => ?_⟩
  · refine (h.rows.set (k * 2 + 1) _).congr fun j hj => ?_
    unfold tagF
    by_cases e : j = k * 2 + 1
    · subst e
      rw [if_pos rfl, if_neg (by omega), show (k * 2 + 1) / 2 = k by omega, getD_set' _ _ _ _ (by omega), if_pos rfl]
    · rw [if_neg e]
      by_cases e2 : j % 2 = 0
      · rw [if_pos e2, if_pos e2]
      · rw [if_neg e2, if_neg e2, getD_set' _ _ _ _ (by omega), if_neg (by omega)]
  · rw [getD_set' _ _ _ _ (by omega)]
    split
    · exact hx
    · exact h.gens j
theorem MemAt.turned {D' : DataW Unit} {j : Nat} (h : MemAt w q n O G D) (hm : w'.ownsMap Try.prog 3 intE (q + 1) j D') (ht : w.mapTurned w' (q + 1)) : MemAt w' q n O G D' ∧ Turn (Blk q) w w' := by
  have hg := ht.grown
  exact ⟨⟨row_grown h.head hg (by intro e; injection e with e; omega), row_grown h.rows hg (by intro e; injection e with e; omega), tight hm, h.lo, h.lg, h.small, h.low, h.gens⟩, Turn.of_grown hg fun k e => by injection e with e; exact ⟨by omega, by omega⟩⟩
theorem TagsAt.len (h : TagsAt w q n O G) : O.length = n ∧ G.length = n ∧ n ≤ 1048576 := by
  obtain ⟨D, h1, _⟩ := h
  exact ⟨h1.lo, h1.lg, h1.small⟩
theorem TagsAt.low (h : TagsAt w q n O G) (k : Nat) : O[k]?.getD 0 ≤ 9223372036854775807 := by
  obtain ⟨D, h1, _⟩ := h
  exact h1.low k
theorem TagsAt.heap (h : TagsAt w q n O G) : InHeap (Blk q) w := by
  obtain ⟨D, h1, _⟩ := h
  exact h1.heap
theorem TagsAt.like {O' G' : List Nat} (h : TagsAt w q n O G) (e : O = O') (e2 : G = G') : TagsAt w q n O' G' := by subst e e2; exact h

/-! ### tags that New did not give -/
def zeroF : Nat → Value
  | 0 => .slice none 0 0
  | _ => .map none
def Gone (w : World) (v : Value) : Prop := v = .pointer none ∨ ∃ g, v = .pointer (some ⟨g, 0, none⟩) ∧ w.rowIs g 46 2 zeroF
theorem Gone.below {v : Value} (h : Gone w v) (hb : Below w.heap.size w w') : Gone w' v := by
  rcases h with h | ⟨g, e, hr⟩
  · exact .inl h
  · exact .inr ⟨g, e, hr.of_block (hb.block g hr.lt)⟩
theorem zero_lit (w : World) : Gone (w.alloc (.cells #[.slice none 0 0, .map none] 46)) (.pointer (some ⟨w.heap.size, 0, none⟩)) :=
  .inr ⟨_, rfl, World.rowIs_alloc w #[.slice none 0 0, .map none] 46 zeroF (by
    intro i hi
    match i, hi with
    | 0, _ => rfl
    | 1, _ => rfl)⟩

/-! ### chunk -/
theorem eqm_in (d : Nat) (a : Option Nat) (W : World) : (Op.equalIn (d + 1) 44 (.map a) (.map none)).run Try.prog W = .ok a.isNone W := by
  cases a <;> simp [Op.equalIn, run_underlying Try.underlying44]
theorem eqm_nil (a : Option Nat) (W : World) : (Op.equal 44 (.map a) (.map none)).run Try.prog W = .ok a.isNone W := eqm_in 9999 a W
theorem eqm_none (W : World) : (binOp .eql 44 (.map none) (.map none)).run Try.prog W = .ok (.bool true) W := by
  simp only [binOp]
  simp [eqm_nil]
theorem eqm_some (b : Nat) (W : World) : (binOp .eql 44 (.map (some b)) (.map none)).run Try.prog W = .ok (.bool false) W := by
  simp only [binOp]
  simp [eqm_nil]
theorem chunk_gone {v : Value} (h : Gone w v) (i : Int) : Calls Try.prog 26 #[v, .int .i64 i] w fun e w' => e = .returned (.tuple #[.pointer none, .int .i64 16]) ∧ w = w' := by
  rcases h with rfl | ⟨g, rfl, hr⟩
  · go_enter Try.func26, Try.ntmps26
    go_wp2
    go_ret2
    exact ⟨rfl, rfl⟩
  · have c1 := hr.cell (i := 1) (by omega)
    simp only [zeroF] at c1
    have hnl := eqm_none
    clear hr
    go_enter Try.func26, Try.ntmps26
    go_wp2
    go_ret2
    exact ⟨rfl, rfl⟩
theorem chunk_out (h : MemAt w q n O G D) {i : Int} (hi : isIn n i = false) : Calls Try.prog 26 #[ptrAt q, .int .i64 i] w fun e w' => e = .returned (.tuple #[.pointer none, .int .i64 2]) ∧ w = w' := by
  have c0 := h.c0
  have c1 := h.c1
  have hnl := eqm_some (q + 1)
  unfold ptrAt
  clear h
  rcases isIn_not.1 hi with h | h
  · clear hi
    go_enter Try.func26, Try.ntmps26
    go_wp2
    go_ret2
    exact ⟨rfl, rfl⟩
  · have h0 : ¬ i < 0 := by omega
    clear hi
    go_enter Try.func26, Try.ntmps26
    go_wp2
    go_ret2
    exact ⟨rfl, rfl⟩
theorem chunk_in (h : MemAt w q n O G D) {k : Nat} (hk : k < n) : Calls Try.prog 26 #[ptrAt q, .int .i64 k] w fun e w' => e = .returned (.tuple #[.pointer (some ⟨q, k * 2, none⟩), .int .i64 0]) ∧ w = w' := by
  have c0 := h.c0
  have c1 := h.c1
  have hnl := eqm_some (q + 1)
  unfold ptrAt
  have h0 : ¬ (k : Int) < 0 := by omega
  have h1 : ¬ (n : Int) ≤ (k : Int) := by omega
  have hi : 0 ≤ (k : Int) ∧ (k : Int) < (n : Int) := by omega
  clear h
  go_enter Try.func26, Try.ntmps26
  go_wp2
  go_ret2
  exact ⟨by simp, rfl⟩

/-! ### Owner, Gen, Count -/
theorem owner_gone {v : Value} (h : Gone w v) (i : Int) : Calls Try.prog 15 #[v, .int .i64 i] w fun e w' => e = .returned (.int .i64 0) ∧ w = w' := by
  have H := Lib.hid (chunk_gone h i)
  clear h
  go_enter Try.func15, Try.ntmps15
  go_wp2_with fail
  refine H.out.mono ?_
  rintro e w1 ⟨rfl, rfl⟩
  go_wp2
  go_ret
  exact ⟨rfl, rfl⟩
theorem gen_gone {v : Value} (h : Gone w v) (i : Int) : Calls Try.prog 16 #[v, .int .i64 i] w fun e w' => e = .returned (.int .i64 (-1)) ∧ w = w' := by
  have H := Lib.hid (chunk_gone h i)
  clear h
  go_enter Try.func16, Try.ntmps16
  go_wp2_with fail
  refine H.out.mono ?_
  rintro e w1 ⟨rfl, rfl⟩
  go_wp2
  go_ret
  exact ⟨rfl, rfl⟩
theorem owner_is (h : TagsAt w q n O G) {i : Int} {r : Nat} (hr : ownerV O i = r) : Calls Try.prog 15 #[ptrAt q, .int .i64 i] w fun e w' => e = .returned (.int .i64 r) ∧ w = w' := by
  obtain ⟨D, h, _⟩ := h
  unfold ownerV at hr
  rw [h.lo] at hr
  cases hi : isIn n i with
  | false =>
    rw [hi, if_neg (by simp)] at hr
    subst hr
    have H := Lib.hid (chunk_out h hi)
    clear h hi
    go_enter Try.func15, Try.ntmps15
    go_wp2_with fail
    refine H.out.mono ?_
    rintro e w1 ⟨rfl, rfl⟩
    go_wp2
    go_ret
    exact ⟨rfl, rfl⟩
  | true =>
    rw [hi, if_pos rfl] at hr
    have hi2 := isIn_iff.1 hi
    obtain ⟨k, rfl⟩ := Int.eq_ofNat_of_zero_le hi2.1
    rw [atI_nat] at hr
    have hk : k < n := by omega
    have H := Lib.hid (chunk_in h hk)
    obtain ⟨c0, _⟩ := h.own hk hr
    clear h hi hi2 hr hk
    go_enter Try.func15, Try.ntmps15
    go_wp2_with fail
    refine H.out.mono ?_
    rintro e w1 ⟨rfl, rfl⟩
    go_wp2
    go_ret
    exact ⟨rfl, rfl⟩
theorem gen_is (h : TagsAt w q n O G) {i : Int} {r : Int} (hr : genV G i = r) : Calls Try.prog 16 #[ptrAt q, .int .i64 i] w fun e w' => e = .returned (.int .i64 r) ∧ w = w' := by
  obtain ⟨D, h, _⟩ := h
  unfold genV at hr
  rw [h.lg] at hr
  cases hi : isIn n i with
  | false =>
    rw [hi, if_neg (by simp)] at hr
    subst hr
    have H := Lib.hid (chunk_out h hi)
    clear h hi
    go_enter Try.func16, Try.ntmps16
    go_wp2_with fail
    refine H.out.mono ?_
    rintro e w1 ⟨rfl, rfl⟩
    go_wp2
    go_ret
    exact ⟨rfl, rfl⟩
  | true =>
    rw [hi, if_pos rfl] at hr
    have hi2 := isIn_iff.1 hi
    obtain ⟨k, rfl⟩ := Int.eq_ofNat_of_zero_le hi2.1
    rw [atI_nat] at hr
    subst hr
    have hk : k < n := by omega
    have H := Lib.hid (chunk_in h hk)
    obtain ⟨c0, _⟩ := h.gen hk rfl
    generalize G[k]?.getD 0 = r at *
    clear h hi hi2 hk
    go_enter Try.func16, Try.ntmps16
    go_wp2_with fail
    refine H.out.mono ?_
    rintro e w1 ⟨rfl, rfl⟩
    go_wp2
    go_ret
    exact ⟨rfl, rfl⟩
theorem count_is (h : TagsAt w q n O G) {x : Int} (hx : InInt x) {r : Nat} (hr : cntV O x = r) : Calls Try.prog 17 #[ptrAt q, .int .i64 x] w fun e w' => e = .returned (.int .i64 r) ∧ w = w' := by
  obtain ⟨D, h, hf⟩ := h
  have c1 := h.c1
  have hl := look_cnt h.mapp hf hx
  rw [hr] at hl
  unfold ptrAt
  clear h hf hr hx
  go_enter Try.func17, Try.ntmps17
  go_wp2
  go_ret
  exact ⟨rfl, rfl⟩
theorem count_gone {v : Value} (h : Gone w v) {x : Int} (hx : InInt x) : Calls Try.prog 17 #[v, .int .i64 x] w fun e w' => e = .returned (.int .i64 0) ∧ w = w' := by
  rcases h with rfl | ⟨g, rfl, hr⟩
  · clear hx
    go_enter Try.func17, Try.ntmps17
    go_wp2
    go_ret
    exact ⟨rfl, rfl⟩
  · have c1 := hr.cell (i := 1) (by omega)
    simp only [zeroF] at c1
    have hlk := fun (W : World) => Maps.look_nil (P := Try.prog) (w := W) false intKey Try.underlying44 (zeroInt W) (key_int hx)
    simp only [Bool.false_eq_true, if_false] at hlk
    clear hr hx
    go_enter Try.func17, Try.ntmps17
    go_wp2
    go_ret
    exact ⟨rfl, rfl⟩
end

/-! ### New -/
theorem new_no (w : World) {n : Int} (h : n < 0 ∨ 1048576 < n) : Calls Try.prog 7 #[.int .i64 n] w fun e w' => e = .returned (.pointer none) ∧ w = w' := by
  rcases h with h | h
  · go_enter Try.func7, Try.ntmps7
    go_wp2
    go_ret
    exact ⟨rfl, rfl⟩
  · have h0 : ¬ n < 0 := by omega
    go_enter Try.func7, Try.ntmps7
    go_wp2
    go_ret
    exact ⟨rfl, rfl⟩
theorem tag_info : (Try.prog.info? 60).map (fun i => (i.zero, i.size, i.bytes)) = some (some (.agg #[.int .i64 0, .int .i64 0]), 2, 16) := by kernel_rfl
theorem make_tags (n : Nat) (hn : n ≤ 1048576) (W : World) : (Instr.makeSlice 43 (.int .i64 n) (.int .i64 n)).run Try.prog W = .ok (.slice (some ⟨W.heap.size, 0, none⟩) n n) (W.alloc (.cells (madeCells #[.int .i64 0, .int .i64 0] (n * 2)) 60)) := by
  obtain ⟨i, hi, hzz⟩ := Option.map_eq_some_iff.1 tag_info
  simp only [Prod.mk.injEq] at hzz
  obtain ⟨hz, hs, hb⟩ := hzz
  have h := run_make (P := Try.prog) W 43 60 i _ Try.underlying43 hi hz .i64 .i64 n n (by omega) (by omega) (by rw [hb]; omega) (by omega)
  rw [hs, Int.toNat_natCast] at h
  exact h
theorem zeros_getD (n k : Nat) : (List.replicate n 0)[k]?.getD 0 = 0 := by
  rw [List.getElem?_replicate]
  split <;> rfl
def newW (w : World) (n : Nat) : World := ((w.alloc (.cells (madeCells #[.int .i64 0, .int .i64 0] (n * 2)) 60)).alloc (.map #[] 0)).alloc (.cells #[.slice (some ⟨w.heap.size, 0, none⟩) n n, .map (some (w.heap.size + 1))] 46)
theorem new_lies (w : World) {n : Nat} (hn : n ≤ 1048576) : TagsAt (newW w n) w.heap.size n (List.replicate n 0) (List.replicate n 0) := by
  refine ⟨.map [], ⟨?_, ?_, ?_, List.length_replicate .., List.length_replicate .., hn, fun k => ?_, fun k => ?_⟩, CntF.new fun x => cntV_zeros n x⟩
  · have := World.rowIs_alloc ((w.alloc (.cells (madeCells #[.int .i64 0, .int .i64 0] (n * 2)) 60)).alloc (.map #[] 0)) #[.slice (some ⟨w.heap.size, 0, none⟩) n n, .map (some (w.heap.size + 1))] 46 (headF w.heap.size n) (by
      intro i hi
      match i, hi with
      | 0, _ => rfl
      | 1, _ => rfl)
    unfold newW
    simpa using this
  · have h := World.rowIs_alloc w (madeCells #[.int .i64 0, .int .i64 0] (n * 2)) 60 (tagF (List.replicate n 0) (List.replicate n 0)) (fun i hi => by
      rw [size_madeCells] at hi
      unfold tagF
      rw [zeros_getD]
      have h2 : i % 2 = 0 ∨ i % 2 = 1 := by omega
      rcases h2 with h2 | h2 <;> simp [madeCells, hi, h2])
    rw [size_madeCells] at h
    exact (h.alloc _).alloc _
  · have h := World.ownsMap_made (w.alloc (.cells (madeCells #[.int .i64 0, .int .i64 0] (n * 2)) 60)) Try.prog 3 intE
    rw [show (w.alloc (.cells (madeCells #[.int .i64 0, .int .i64 0] (n * 2)) 60)).heap.size = w.heap.size + 1 by simp] at h
    exact h.alloc _
  · rw [zeros_getD]; omega
  · rw [zeros_getD]; omega
theorem new_below3 (w : World) (n : Nat) : Below w.heap.size w (newW w n) := ((new_below w _).alloc (by simp) _).alloc (by simp; omega) _
theorem new_size (w : World) (n : Nat) : (newW w n).heap.size = w.heap.size + 3 := by unfold newW; simp
theorem new_is {n : Nat} (w : World) (hn : n ≤ 1048576) : Calls Try.prog 7 #[.int .i64 n] w fun e w' => e = .returned (ptrAt w.heap.size) ∧ TagsAt w' w.heap.size n (List.replicate n 0) (List.replicate n 0) ∧ Below w.heap.size w w' ∧ w'.heap.size = w.heap.size + 3 := by
  have hmm := @run_makeMap Try.prog
  have hmk := make_tags n hn
  have H := Lib.hid (new_lies w hn)
  have HB := Lib.hid (new_below3 w n)
  have HS := Lib.hid (new_size w n)
  have h0 : ¬ (n : Int) < 0 := by omega
  have h1 : ¬ 1048576 < (n : Int) := by omega
  unfold newW at H HB HS
  unfold ptrAt
  go_enter Try.func7, Try.ntmps7
  go_wp2
  go_ret
  exact ⟨by simp, H.out, HB.out, HS.out⟩
end Go.Proofs.Ytiidkfcblnkghaa
