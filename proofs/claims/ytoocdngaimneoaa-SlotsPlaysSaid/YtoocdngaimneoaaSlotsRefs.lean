/- What the document's own answers for layer 6 (copyholdref06) return: New, Right: contracts; how they lie in memory. -/
import Derived.Test.YtoocdngaimneoaaSlotsWorks
import Derived.Deep.RegionHeld3
import Derived.Laws.Rows
import Derived.Laws.NewBlocks
namespace Go.Proofs.Ytoocdngaimneoaa
open Go.RowKit Go.Maps

def opensL (n : Nat) (s : St) : List Bool := (List.range n).map s.opn
def gensL (n : Nat) (s : St) : List Nat := (List.range n).map s.gen
theorem opensL_length (n : Nat) (s : St) : (opensL n s).length = n := by unfold opensL; simp
theorem gensL_length (n : Nat) (s : St) : (gensL n s).length = n := by unfold gensL; simp
theorem opensL_at {n p : Nat} {s : St} (h : p < n) : (opensL n s)[p]? = some (s.opn p) := by unfold opensL; rw [List.getElem?_map, List.getElem?_range h]; rfl
theorem gensL_at {n p : Nat} {s : St} (h : p < n) : (gensL n s)[p]? = some (s.gen p) := by unfold gensL; rw [List.getElem?_map, List.getElem?_range h]; rfl
theorem ints_get {l : List Nat} {p x : Nat} (h : l[p]? = some x) : (ints l)[p]? = some (x : Int) := by unfold ints; rw [List.getElem?_map, h]; rfl
/-- The document's slots: three lists and a number, in blocks of T. -/
def RAt (w : World) (T : Nat → Prop) (v : Value) (n : Nat) (s : St) : Prop := ∃ Ao co Ag cg Ac cc, v = .agg #[.slice Ao n co, .slice Ag n cg, .slice Ac s.closed.length cc, .int .i64 s.fresh] ∧ s.closed.length ≤ cc ∧ BoolsF w T Ao (opensL n s) ∧ IntsF w T Ag (ints (gensL n s)) ∧ IntsF w T Ac (ints s.closed)
theorem RAt.keep {w w' : World} {T : Nat → Prop} {v : Value} {n : Nat} {s : St} (h : RAt w T v n s) (hs : Same T w w') : RAt w' T v n s := by
  obtain ⟨Ao, co, Ag, cg, Ac, cc, e, h0, h1, h2, h3⟩ := h
  exact ⟨Ao, co, Ag, cg, Ac, cc, e, h0, h1.keep hs, h2.keep hs, h3.keep hs⟩
theorem RAt.more {w : World} {T T' : Nat → Prop} {v : Value} {n : Nat} {s : St} (h : RAt w T v n s) (ht : ∀ k, T k → T' k) : RAt w T' v n s := by
  obtain ⟨Ao, co, Ag, cg, Ac, cc, e, h0, h1, h2, h3⟩ := h
  exact ⟨Ao, co, Ag, cg, Ac, cc, e, h0, h1.more ht, h2.more ht, h3.more ht⟩
theorem RAt.below {w w' : World} {T : Nat → Prop} {v : Value} {n : Nat} {s : St} (h : RAt w T v n s) (hb : Below w.heap.size w w') : RAt w' T v n s := h.keep (.of_below T hb)

theorem bool_info : (Try.prog.info? 4).map (fun i => (i.zero, i.size, i.bytes)) = some (some (.bool false), 1, 1) := by kernel_rfl
theorem rright_at {w : World} {T : Nat → Prop} {v : Value} {n : Nat} {s : St} (h : RAt w T v n s) (hok : Ok n s) {x y : Int} {r : Bool} (hr : rightI s x y = r) :
    Calls Try.prog 10 #[v, .int .i64 x, .int .i64 y] w fun e w' => e = .returned (.bool r) ∧ Below w.heap.size w w' := by
  obtain ⟨Ao, co, Ag, cg, Ac, cc, rfl, _, h1, h2, _⟩ := h
  have bel : Below w.heap.size w (w.alloc (.cells #[.slice Ao n co, .slice Ag n cg, .slice Ac s.closed.length cc, .int .i64 s.fresh] 29)) := (Below.refl _ _).alloc (Nat.le_refl _) _
  generalize s.closed.length = m at *
  generalize s.fresh = f at *
  by_cases h0 : 0 ≤ x
  · by_cases hx : x < (n : Int)
    · obtain ⟨p, rfl⟩ := Int.eq_ofNat_of_zero_le h0
      have hpn : p < n := by omega
      obtain ⟨bo, oo, rfl, hbo, _, ho⟩ := (h1.keep (.of_below T bel)).at_ (opensL_at (s := s) hpn)
      obtain ⟨bg, og, rfl, hbg, _, hg⟩ := (h2.keep (.of_below T bel)).at_ (ints_get (gensL_at (s := s) hpn))
      unfold rightI at hr
      rw [openI_nat, Int.toNat_natCast] at hr
      generalize s.gen p = q at *
      clear h1 h2
      cases hp : s.opn p with
      | false =>
        rw [hp] at hr ho
        have hr' : false = r := by rw [← hr]; rfl
        subst hr'
        clear hr hp
        go_enter Try.func10, Try.ntmps10
        go_wp2
        go_ret
        exact ⟨rfl, bel⟩
      | true =>
        rw [hp] at hr ho
        simp only [Bool.true_and] at hr
        clear hp
        cases r with
        | false =>
          have hbb : ((q : Int) == y) = false := by have := of_decide_eq_false hr; simp [this]
          clear hr
          go_enter Try.func10, Try.ntmps10
          go_wp2
          go_ret
          exact ⟨rfl, bel⟩
        | true =>
          have hbb : ((q : Int) == y) = true := by have := of_decide_eq_true hr; simp [this]
          clear hr
          go_enter Try.func10, Try.ntmps10
          go_wp2
          go_ret
          exact ⟨rfl, bel⟩
    · have hr' : false = r := by
        rw [← hr]
        unfold rightI openI
        cases e : s.opn x.toNat with
        | false => simp
        | true =>
          have := hok.below _ e
          have := hok.le
          omega
      subst hr'
      clear hr h1 h2
      go_enter Try.func10, Try.ntmps10
      go_wp2
      go_ret
      exact ⟨rfl, bel⟩
  · have hr' : false = r := by rw [← hr]; unfold rightI openI; rw [decide_eq_false h0]; rfl
    subst hr'
    clear hr h1 h2
    go_enter Try.func10, Try.ntmps10
    go_wp2
    go_ret
    exact ⟨rfl, bel⟩

/-! ### New -/
theorem alloc_last (w : World) (o : Obj) : (w.alloc o).heap[w.heap.size]? = some o := by
  show (w.heap.push _)[w.heap.size]? = _
  simp
theorem alloc_first3 (w : World) (a b c : Obj) : (((w.alloc a).alloc b).alloc c).heap[w.heap.size]? = some a := by
  rw [Below.heap_alloc _ _ _ (by simp; omega), Below.heap_alloc _ _ _ (by simp), alloc_last]
theorem alloc_below3 (w : World) (a b c : Obj) : Below w.heap.size w (((w.alloc a).alloc b).alloc c) := (((Below.refl _ _).alloc (Nat.le_refl _) _).alloc (by simp) _).alloc (by simp; omega) _
theorem boolsF_row {w : World} {T : Nat → Prop} {b n : Nat} {t : TypeId} {l : List Bool} (h : w.rowIs b t n (fun i => .bool (l.getD i false))) (hl : l.length = n) (ht : T b) : BoolsF w T (some ⟨b, 0, none⟩) l :=
  .inr ⟨b, 0, rfl, ht, h.lt, fun k x hx => by
    have hk := (List.getElem?_eq_some_iff.1 hx).1
    rw [Nat.zero_add, h.cell (by omega), List.getD_eq_getElem?_getD, hx]; rfl⟩
theorem intsF_row {w : World} {T : Nat → Prop} {b n : Nat} {t : TypeId} {l : List Int} (h : w.rowIs b t n (fun i => .int .i64 (l.getD i 0))) (hl : l.length = n) (ht : T b) : IntsF w T (some ⟨b, 0, none⟩) l :=
  .inr ⟨b, 0, rfl, ht, h.lt, fun k x hx => by
    have hk := (List.getElem?_eq_some_iff.1 hx).1
    rw [Nat.zero_add, h.cell (by omega), List.getD_eq_getElem?_getD, hx]; rfl⟩
theorem opensL_none (n : Nat) : opensL n St.none = List.replicate n false := by unfold opensL St.none; rw [List.map_const', List.length_range]
theorem gensL_none (n : Nat) : ints (gensL n St.none) = List.replicate n 0 := by unfold gensL St.none; rw [List.map_const', List.length_range]; unfold ints; rw [List.map_replicate]; rfl
theorem rnew_lies {W : World} {lo n bo bg : Nat} (h1 : W.rowIs bo 4 n (fun _ => .bool false)) (h2 : W.rowIs bg 3 n (fun _ => .int .i64 0)) (hlo : lo ≤ bo ∧ lo ≤ bg) :
    RAt W (fun k => lo ≤ k ∧ k < W.heap.size) (.agg #[.slice (some ⟨bo, 0, none⟩) n n, .slice (some ⟨bg, 0, none⟩) n n, .slice none 0 0, .int .i64 0]) n St.none := by
  refine ⟨_, _, _, _, none, 0, rfl, Nat.le_refl _, boolsF_row (h1.congr fun i hi => ?_) (opensL_length _ _) ⟨hlo.1, h1.lt⟩, intsF_row (h2.congr fun i hi => ?_) (by rw [ints_length, gensL_length]) ⟨hlo.2, h2.lt⟩, .inl rfl⟩
  · rw [opensL_none, List.getD_eq_getElem?_getD, List.getElem?_replicate]; simp [hi]
  · rw [gensL_none, List.getD_eq_getElem?_getD, List.getElem?_replicate]; simp [hi]
theorem rnew_any (w : World) {n : Nat} (hn : n ≤ 1048576) : Calls Try.prog 8 #[.int .i64 n] w fun e w' => ∃ v T, e = .returned v ∧ RAt w' T v n St.none ∧ InHeap T w' ∧ (∀ k, T k → w.heap.size ≤ k) ∧ Below w.heap.size w w' := by
  have hmi := fun W => run_make_row' (P := Try.prog) 27 3 (.int .i64 0) 8 Try.underlying27 int_info rfl .i64 .i64 n (by omega) (by omega) W
  have hmb := fun W => run_make_row' (P := Try.prog) 26 4 (.bool false) 1 Try.underlying26 bool_info rfl .i64 .i64 n (by omega) (by omega) W
  go_enter Try.func8, Try.ntmps8
  go_wp2
  go_region_held3 (fun _ => True) (first | exact trivial) (first | fail)
  all_goals go_wp2
  all_goals
    refine bodyPost_ret_by (results_cell_row rfl _ _ w.heap.size 29 _ (0, 0) _ rfl (alloc_first3 _ _ _ _) Try.underlying29 rfl (by kernel_rfl)) rfl ?_
  · refine ⟨_, _, rfl, rnew_lies (lo := w.heap.size) (World.rowIs.drew ?_) (World.rowIs.drew ?_) (by omega), fun k hk => hk.2, fun k hk => hk.1, below_drewN (alloc_below3 _ _ _ _) 1⟩
    · have := (World.rowIs_made (w.alloc (.cells #[.slice (some ⟨w.heap.size + 1, 0, none⟩) n n, .slice (some ⟨w.heap.size + 1 + 1, 0, none⟩) n n, .slice none 0 0, .int .i64 0] 29)) (.bool false) n 4).alloc (.cells (madeCells #[.int .i64 0] n) 3)
      simpa using this
    · have := World.rowIs_made ((w.alloc (.cells #[.slice (some ⟨w.heap.size + 1, 0, none⟩) n n, .slice (some ⟨w.heap.size + 1 + 1, 0, none⟩) n n, .slice none 0 0, .int .i64 0] 29)).alloc (.cells (madeCells #[.bool false] n) 4)) (.int .i64 0) n 3
      simpa using this
  · refine ⟨_, _, rfl, rnew_lies (lo := w.heap.size) (World.rowIs.drew ?_) (World.rowIs.drew ?_) (by omega), fun k hk => hk.2, fun k hk => hk.1, below_drewN (alloc_below3 _ _ _ _) 1⟩
    · have := World.rowIs_made ((w.alloc (.cells #[.slice (some ⟨w.heap.size + 1 + 1, 0, none⟩) n n, .slice (some ⟨w.heap.size + 1, 0, none⟩) n n, .slice none 0 0, .int .i64 0] 29)).alloc (.cells (madeCells #[.int .i64 0] n) 3)) (.bool false) n 4
      simpa using this
    · have := (World.rowIs_made (w.alloc (.cells #[.slice (some ⟨w.heap.size + 1 + 1, 0, none⟩) n n, .slice (some ⟨w.heap.size + 1, 0, none⟩) n n, .slice none 0 0, .int .i64 0] 29)) (.int .i64 0) n 3).alloc (.cells (madeCells #[.bool false] n) 4)
      simpa using this
end Go.Proofs.Ytoocdngaimneoaa
