/- Layer 6 (slots): how slots lie in memory, what is kept of them by what; contracts of Len, count, isOpen, Right, Gen. -/
import Derived.Test.YtoocdngaimneoaaBaseFoot
import Derived.Test.YtoocdngaimneoaaSlotsMath
import Derived.Maps.OwnSet
import Derived.Lib.SlKeysI
import Derived.IntWalk
import Derived.Test.YtoocdngaimneoaaBaseRecs
namespace Go.Proofs.Ytoocdngaimneoaa
open Go.RowKit Go.Maps

theorem intKey : Keyed Try.prog 3 := int_keyed Try.underlying3
theorem zeroUnit (w : World) : (zeroValue 53).run Try.prog w = .ok (.agg #[]) w := by kernel_rfl
theorem wf_int {x : Int} (h : InInt x) : (Lit.int .i64 x).wf = true := by
  have hmin : IntKind.i64.min = -9223372036854775808 := rfl
  have hmax : IntKind.i64.max = 9223372036854775807 := rfl
  obtain ⟨h1, h2⟩ := h
  simp only [Lit.wf, Bool.and_eq_true, decide_eq_true_eq]
  omega
theorem key_int {x : Int} (h : InInt x) : keyOf Try.prog 3 (.int .i64 x) = some (.int .i64 x) := keyOf_int_mk Try.underlying3 (wf_int h)

def slotsF (n : Nat) (vg vc : Value) (b : Nat) : Nat → Value
  | 0 => .int .i64 n
  | 1 => vg
  | 2 => vc
  | _ => .map (some b)
/-- The cells of slots: their own four, the generations of the places that were ever open, those that were closed, the map of those that are open. -/
structure MemAt (w : World) (S : Nat → Prop) (g n : Nat) (vg vc : Value) (b : Nat) (G C : List Nat) (D : DataW Unit) : Prop where
  head : w.rowIs g 48 4 (slotsF n vg vc b)
  gens : w.ownsRow 0 3 1 vg G.length (vals G)
  clos : w.ownsRow 0 3 1 vc C.length (vals C)
  mapp : w.ownsMap Try.prog 3 unitElem b (Maps.size D) D
  apart : ∀ k, vg.ownBlock = some k → vc.ownBlock ≠ some k
  sg : S g
  sb : S b
  svg : ∀ k, vg.ownBlock = some k → S k
  svc : ∀ k, vc.ownBlock = some k → S k
  heap : InHeap S w
theorem tight {w : World} {P : Program} {k : TypeId} {R : Value → Option (DataW Unit × List MemPlace)} {b n : Nat} {D : DataW Unit} (h : w.ownsMap P k R b n D) : w.ownsMap P k R b (Maps.size D) D := by
  obtain ⟨es, clock, hb, F, _, rfl⟩ := h
  refine ⟨es, clock, hb, F, ?_, rfl⟩
  simp [Maps.size, length_sorted]
section
variable {w w' : World} {S : Nat → Prop} {g n : Nat} {vg vc : Value} {b : Nat} {G C : List Nat} {D : DataW Unit}
theorem own_not_row {w : World} {base m sz : Nat} {t t' : TypeId} {v : Value} {xs : List Value} {k : Nat} {f : Nat → Value} {q : Nat} (h : w.ownsRow base t sz v m xs) (hr : w.rowIs k t' q f) (ht : t ≠ t') : v.ownBlock ≠ some k := by
  intro e
  obtain ⟨c, hb, _⟩ := hr
  rcases h.2 with ⟨rfl, _⟩ | ⟨g, cap, cur, rfl, _, hg, _⟩
  · cases e
  · injection e with e
    simp only at e
    rw [e, hb] at hg
    injection hg with hg
    injection hg with _ e2
    exact ht e2.symm
theorem own_not_map {w : World} {base m sz : Nat} {t : TypeId} {v : Value} {xs : List Value} {k j : Nat} {P : Program} {kt : TypeId} {R : Value → Option (DataW Unit × List MemPlace)} {D : DataW Unit} (h : w.ownsRow base t sz v m xs) (hm : w.ownsMap P kt R k j D) : v.ownBlock ≠ some k := by
  intro e
  obtain ⟨es, clock, hb, _⟩ := hm
  rcases h.2 with ⟨rfl, _⟩ | ⟨g, cap, cur, rfl, _, hg, _⟩
  · cases e
  · injection e with e
    simp only at e
    rw [e, hb] at hg
    injection hg with hg
    cases hg
theorem row_not_map {w : World} {t : TypeId} {k k' j q : Nat} {f : Nat → Value} {P : Program} {kt : TypeId} {R : Value → Option (DataW Unit × List MemPlace)} {D : DataW Unit} (hr : w.rowIs k t q f) (hm : w.ownsMap P kt R k' j D) : k ≠ k' := by
  rintro rfl
  obtain ⟨es, clock, hb, _⟩ := hm
  obtain ⟨c, hb', _⟩ := hr
  rw [hb] at hb'
  cases hb'
theorem map_same {T : Nat → Prop} {P : Program} {kt : TypeId} {R : Value → Option (DataW Unit × List MemPlace)} {k j : Nat} (h : w.ownsMap P kt R k j D) (hs : Same T w w') (ht : T k) : w'.ownsMap P kt R k j D := by
  have hl := h.lt
  obtain ⟨es, clock, hb, r⟩ := h
  exact ⟨es, clock, (hs.block k ht hl).trans hb, r⟩
theorem MemAt.keep (h : MemAt w S g n vg vc b G C D) (hs : Same S w w') : MemAt w' S g n vg vc b G C D :=
  ⟨row_same h.head hs h.sg, own_same h.gens hs h.svg, own_same h.clos hs h.svc, map_same h.mapp hs h.sb, h.apart, h.sg, h.sb, h.svg, h.svc, h.heap.more hs.size⟩
theorem MemAt.c0 (h : MemAt w S g n vg vc b G C D) : w.cell? ⟨g, 0, none⟩ = some (.int .i64 n) := h.head.cell (i := 0) (by omega)
theorem MemAt.c1 (h : MemAt w S g n vg vc b G C D) : w.cell? ⟨g, 1, none⟩ = some vg := h.head.cell (i := 1) (by omega)
theorem MemAt.c2 (h : MemAt w S g n vg vc b G C D) : w.cell? ⟨g, 2, none⟩ = some vc := h.head.cell (i := 2) (by omega)
theorem MemAt.c3 (h : MemAt w S g n vg vc b G C D) : w.cell? ⟨g, 3, none⟩ = some (.map (some b)) := h.head.cell (i := 3) (by omega)
theorem vals_at {l : List Nat} {p x : Nat} (h : l[p]? = some x) : (vals l)[p]? = some (.int .i64 x) := by unfold vals; rw [List.getElem?_map, h]; rfl
theorem MemAt.gcell (h : MemAt w S g n vg vc b G C D) {p x : Nat} (hp : G[p]? = some x) : ∃ k c, vg = .slice (some ⟨k, 0, none⟩) G.length c ∧ G.length ≤ c ∧ w.cell? ⟨k, p, none⟩ = some (.int .i64 x) ∧ w.frozen? ⟨k, p, none⟩ = false := by
  have hl := (List.getElem?_eq_some_iff.1 hp).1
  obtain ⟨k, c, rfl, hc, _⟩ := own_some h.gens (by omega)
  exact ⟨k, c, rfl, hc, by rw [World.ownsRow.cellAt h.gens p (by omega), vals_at hp], World.ownsRow.frozenAt h.gens p⟩
end

/-! ### slots -/
/-- The map has just those that are open. -/
structure SetIs (D : DataW Unit) (n : Nat) (s : St) : Prop where
  has : ∀ x : Int, Maps.has D (.int .i64 x) = openI s x
  size : Maps.size D = (placesOf n s.opn).length
/-- n slots that are so lie in blocks of S. -/
structure SlotsAt (w : World) (S : Nat → Prop) (v : Value) (n : Nat) (s : St) : Prop where
  mem : ∃ g vg vc b D, v = .pointer (some ⟨g, 0, none⟩) ∧ MemAt w S g n vg vc b (gensOf s) s.closed D ∧ SetIs D n s
  ok : Ok n s
  small : n ≤ 1048576
section
variable {w w' : World} {S : Nat → Prop} {v : Value} {n : Nat} {s : St}
theorem SlotsAt.keep (h : SlotsAt w S v n s) (hs : Same S w w') : SlotsAt w' S v n s := by
  obtain ⟨⟨g, vg, vc, b, D, e, hm, hd⟩, h1, h2⟩ := h
  exact ⟨⟨g, vg, vc, b, D, e, hm.keep hs, hd⟩, h1, h2⟩
theorem SlotsAt.below (h : SlotsAt w S v n s) (hb : Below w.heap.size w w') : SlotsAt w' S v n s := h.keep (.of_below S hb)
theorem SlotsAt.drewN (h : SlotsAt w S v n s) (k : Nat) : SlotsAt (w.drewN k) S v n s := h.keep (.drewN S w k)
theorem SlotsAt.heap (h : SlotsAt w S v n s) : InHeap S w := by
  obtain ⟨⟨g, vg, vc, b, D, e, hm, hd⟩, h1, h2⟩ := h
  exact hm.heap
theorem SlotsAt.like {s' : St} (h : SlotsAt w S v n s) (e : s = s') : SlotsAt w S v n s' := by subst e; exact h

theorem len_at (h : SlotsAt w S v n s) {r : Nat} (hr : (placesOf n s.opn).length = r) : Calls Try.prog 16 #[v] w fun e w' => e = .returned (.int .i64 r) ∧ w = w' := by
  obtain ⟨⟨g, vg, vc, b, D, rfl, hm, hd⟩, _, _⟩ := h
  have c3 := hm.c3
  have HM := Lib.hid hm.mapp
  have HR : Hid (Maps.size D = r) := by show _ = _; rw [hd.size, hr]
  clear hm hd hr
  go_enter Try.func16, Try.ntmps16
  go_wp2_with (at_len; refine wpList_len_own _ rfl _ 46 rfl 3 53 Try.underlying46 _ b _ D rfl HM.out ?_)
  rw [HR.out]
  go_wp2
  go_ret
  exact ⟨rfl, rfl⟩
theorem count_at (h : SlotsAt w S v n s) : Calls Try.prog 22 #[v] w fun e w' => e = .returned (.int .i64 n) ∧ w = w' := by
  obtain ⟨⟨g, vg, vc, b, D, rfl, hm, hd⟩, _, _⟩ := h
  have c0 := hm.c0
  clear hm hd
  go_enter Try.func22, Try.ntmps22
  go_wp2
  go_ret
  exact ⟨rfl, rfl⟩
theorem isOpen_at (h : SlotsAt w S v n s) {x : Int} (hx : InInt x) {r : Bool} (hr : openI s x = r) : Calls Try.prog 20 #[v, .int .i64 x] w fun e w' => e = .returned (.bool r) ∧ Below w.heap.size w w' := by
  obtain ⟨⟨g, vg, vc, b, D, rfl, hm, hd⟩, _, _⟩ := h
  have c3 := hm.c3
  have HM := Lib.hid hm.mapp
  have HX := Lib.hid (key_int hx)
  have HR : Hid (Maps.has D (.int .i64 x) = r) := by show _ = _; rw [hd.has, hr]
  clear hm hd hr hx
  go_enter Try.func20, Try.ntmps20
  go_wp2_with (at_lookup; refine wpList_lookup_own_unit _ rfl _ _ 46 rfl 3 53 intKey Try.underlying46 (zeroUnit _) b _ D rfl HM.out _ _ rfl HX.out ?_)
  rw [HR.out]
  go_wp2
  go_ret
  exact ⟨rfl, (Below.refl _ _).alloc (Nat.le_refl _) _⟩
end
end Go.Proofs.Ytoocdngaimneoaa
