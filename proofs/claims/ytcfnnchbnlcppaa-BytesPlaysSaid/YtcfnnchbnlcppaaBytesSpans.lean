/- Layer 10 (bytes): slices of spans in memory, append to them, and SameSpans: out of layer 8's texts. -/
import Derived.Test.YtcfnnchbnlcppaaBaseRecs
import Derived.Test.YtcfnnchbnlcppaaBaseFrom
import Derived.Test.YtcfnnchbnlcppaaBytesMath
import Derived.IntWalk
import Derived.Deep.CutRange
import Derived.Deep.RegionLaw
import Derived.ChangeKeysEq
import Derived.Laws.StructEq
import Derived.ArgAppend
import Derived.BigQuiet
namespace Go.Proofs.Ytcfnnchbnlcppaa
open Go.RowKit

/-- A slice whose elements read as l. -/
structure SpansIn (w : World) (v : Value) (l : List Sp) : Prop where
  ex : ∃ A c, v = .slice A l.length c ∧ l.length ≤ c ∧ c ≤ maxLen ∧ PairsAt w A l
  ints : ∀ p ∈ l, InInt p.1 ∧ InInt p.2
theorem SpansIn.below {w w' : World} {v : Value} {l : List Sp} (h : SpansIn w v l) (hb : Below w.heap.size w w') : SpansIn w' v l := by
  obtain ⟨⟨A, c, e, h1, h2, h3⟩, hi⟩ := h
  exact ⟨⟨A, c, e, h1, h2, h3.below hb⟩, hi⟩
/-- Its element number k. -/
theorem PairsAt.one {w : World} {A : Option Addr} {l : List Sp} {k : Nat} {p : Sp} (h : PairsAt w A l) (hk : l[k]? = some p) : ∃ b off, A = some ⟨b, off, none⟩ ∧ b < w.heap.size ∧ w.cell? ⟨b, off + k * 2, none⟩ = some (.int .i64 p.1) ∧ w.cell? ⟨b, off + k * 2 + 1, none⟩ = some (.int .i64 p.2) := by
  rcases h with h | ⟨b, off, e, hlt, hc⟩
  · rw [h] at hk; simp at hk
  · exact ⟨b, off, e, hlt, hc k p hk⟩
theorem PairsAt.all {w : World} {A : Option Addr} {l : List Sp} (h : PairsAt w A l) (h0 : 0 < l.length) : ∃ b off, A = some ⟨b, off, none⟩ ∧ ∀ W, Below w.heap.size w W → ∀ (k : Nat) (p : Sp), l[k]? = some p → W.cell? ⟨b, off + k * 2, none⟩ = some (.int .i64 p.1) ∧ W.cell? ⟨b, off + k * 2 + 1, none⟩ = some (.int .i64 p.2) := by
  rcases h with h | ⟨b, off, e, hlt, hc⟩
  · rw [h] at h0; simp at h0
  · exact ⟨b, off, e, fun W hb k p hk => ⟨(hb.cell (p := ⟨b, off + k * 2, none⟩) hlt).trans (hc k p hk).1, (hb.cell (p := ⟨b, off + k * 2 + 1, none⟩) hlt).trans (hc k p hk).2⟩⟩
def twoF (a b : Value) : Nat → Value
  | 0 => a
  | _ => b
theorem two_lit (w : World) (a b : Value) (t : TypeId) : (w.alloc (.cells #[a, b] t)).rowIs w.heap.size t 2 (twoF a b) := World.rowIs_alloc w #[a, b] t (twoF a b) (by
  intro i hi
  match i, hi with
  | 0, _ => rfl
  | 1, _ => rfl)
theorem two_any {W0 : World} {g : Nat} {t : TypeId} {f : Nat → Value} (h : W0.rowIs g t 2 f) {W : World} (hb : Below W0.heap.size W0 W) : W.cell? ⟨g, 0, none⟩ = some (f 0) ∧ W.cell? ⟨g, 1, none⟩ = some (f 1) := by
  have k := h.of_block (hb.block g h.lt)
  exact ⟨k.cell (by omega), k.cell (by omega)⟩
def cellsL : List Sp → List Value
  | [] => []
  | p :: r => .int .i64 p.1 :: .int .i64 p.2 :: cellsL r
theorem cellsL_length : ∀ l : List Sp, (cellsL l).length = l.length * 2
  | [] => rfl
  | p :: r => by
    show (cellsL r).length + 1 + 1 = (r.length + 1) * 2
    rw [cellsL_length r]; omega
theorem cellsL_append : ∀ l m : List Sp, cellsL (l ++ m) = cellsL l ++ cellsL m
  | [], _ => rfl
  | p :: r, m => by
    show Value.int .i64 p.1 :: .int .i64 p.2 :: cellsL (r ++ m) = _
    rw [cellsL_append r m]; rfl
theorem cellsL_one : ∀ (l : List Sp), ∀ u ∈ cellsL l, u.oneCell' = true
  | [], u, h => by cases h
  | p :: r, u, h => by
    rcases List.mem_cons.1 h with e | h
    · rw [e]; rfl
    · rcases List.mem_cons.1 h with e | h
      · rw [e]; rfl
      · exact cellsL_one r u h
theorem cellsL_at : ∀ {l : List Sp} {k : Nat} {p : Sp}, l[k]? = some p → (cellsL l)[k * 2]? = some (.int .i64 p.1) ∧ (cellsL l)[k * 2 + 1]? = some (.int .i64 p.2)
  | [], k, p, h => by simp at h
  | q :: r, 0, p, h => by simp at h; subst h; exact ⟨rfl, rfl⟩
  | q :: r, k + 1, p, h => by
    have := cellsL_at (l := r) (k := k) (p := p) (by simpa using h)
    rw [show (k + 1) * 2 = k * 2 + 1 + 1 by omega]
    exact this
theorem cellsL_get : ∀ {l : List Sp} {j : Nat} {u : Value}, (cellsL l)[j]? = some u → ∃ k p, l[k]? = some p ∧ (j = k * 2 ∧ u = .int .i64 p.1 ∨ j = k * 2 + 1 ∧ u = .int .i64 p.2)
  | [], j, u, h => by simp [cellsL] at h
  | q :: r, 0, u, h => by
    have e : some (Value.int .i64 q.1) = some u := h
    injection e with e
    exact ⟨0, q, rfl, .inl ⟨rfl, e.symm⟩⟩
  | q :: r, 1, u, h => by
    have e : some (Value.int .i64 q.2) = some u := h
    injection e with e
    exact ⟨0, q, rfl, .inr ⟨rfl, e.symm⟩⟩
  | q :: r, j + 2, u, h => by
    obtain ⟨k, p, h1, h2⟩ := cellsL_get (l := r) (j := j) (u := u) h
    exact ⟨k + 1, p, by simpa using h1, by
      rcases h2 with ⟨e, h2⟩ | ⟨e, h2⟩
      · exact .inl ⟨by omega, h2⟩
      · exact .inr ⟨by omega, h2⟩⟩
theorem PairsAt.news {w : World} {ad : Addr} {zs : List Sp} (h : PairsAt w (some ad) zs) : ∀ j u, (cellsL zs)[j]? = some u → w.cell? (ad.add j) = some u := by
  intro j u hj
  obtain ⟨k, p, hk, hu⟩ := cellsL_get hj
  obtain ⟨b, off, e, _, c0, c1⟩ := h.one hk
  injection e with e
  subst e
  rw [Addr.add_lit]
  rcases hu with ⟨rfl, rfl⟩ | ⟨rfl, rfl⟩
  · exact c0
  · exact c1
theorem PairsAt.none {w : World} {zs : List Sp} (h : PairsAt w none zs) : zs = [] := by
  rcases h with h | ⟨b, off, e, _⟩
  · exact h
  · cases e
theorem span_info : (Try.prog.info? 68).map (fun i => (i.zero, i.size, i.bytes)) = some (some (.agg #[.int .i64 0, .int .i64 0]), 2, 16) := by kernel_rfl
theorem own_pairs {w : World} {base : Nat} {A : Option Addr} {n c : Nat} {l : List Sp} (h : w.ownsRow base 68 2 (.slice A n c) n (cellsL l)) : PairsAt w A l := by
  have hl := h.1
  rw [cellsL_length] at hl
  rcases h.2 with ⟨e, hn⟩ | ⟨g, cap, cur, e, _, hg, _⟩
  · exact .inl (List.eq_nil_of_length_eq_zero (by omega))
  · injection e with e1 _ e3
    subst e1 e3
    refine .inr ⟨g, 0, rfl, (Array.getElem?_eq_some_iff.1 hg).1, fun k p hk => ?_⟩
    obtain ⟨c0, c1⟩ := cellsL_at hk
    have hkl := (List.getElem?_eq_some_iff.1 hk).1
    rw [Nat.zero_add, h.cellAt (k * 2) (by omega), h.cellAt (k * 2 + 1) (by omega)]
    exact ⟨c0, c1⟩
theorem own_slice {w : World} {base n : Nat} {t : TypeId} {z : Nat} {v : Value} {xs : List Value} (h : w.ownsRow base t z v n xs) : ∃ A c, v = .slice A n c ∧ n ≤ c ∧ c ≤ maxLen := by
  rcases h.2 with ⟨rfl, rfl⟩ | ⟨g, cap, cur, rfl, _, _, hc, hm, _⟩
  · exact ⟨_, 0, rfl, Nat.le_refl _, Nat.zero_le _⟩
  · exact ⟨_, cap, rfl, hc, hm⟩
/-- What append is called on: a slice without room, or a row of the call's own. -/
structure Head (w : World) (base : Nat) (v : Value) (xs : List Sp) : Prop where
  val : (∃ A, v = .slice A xs.length xs.length ∧ PairsAt w A xs) ∨ w.ownsRow base 68 2 v xs.length (cellsL xs)
theorem Head.nil (w : World) (base : Nat) : Head w base (.slice none 0 0) [] := ⟨.inl ⟨none, rfl, .inl rfl⟩⟩
theorem Head.own {w : World} {base : Nat} {v : Value} {xs : List Sp} (h : w.ownsRow base 68 2 v xs.length (cellsL xs)) : Head w base v xs := ⟨.inr h⟩
theorem Head.slice {w : World} {base : Nat} {v : Value} {xs : List Sp} (h : Head w base v xs) (hs : xs.length ≤ 4194304) : ∃ A c, v = .slice A xs.length c ∧ xs.length ≤ c ∧ c ≤ maxLen ∧ PairsAt w A xs := by
  rcases h.val with ⟨A, e, hp⟩ | ho
  · exact ⟨A, _, e, Nat.le_refl _, by unfold maxLen; omega, hp⟩
  · obtain ⟨A, c, rfl, h1, h2⟩ := own_slice ho
    exact ⟨A, c, rfl, h1, h2, own_pairs ho⟩
theorem Head.spans {w : World} {base : Nat} {v : Value} {xs : List Sp} (h : Head w base v xs) (hs : xs.length ≤ 4194304) (hi : ∀ p ∈ xs, InInt p.1 ∧ InInt p.2) : SpansIn w v xs := ⟨h.slice hs, hi⟩
theorem Head.below {w w' : World} {base : Nat} {v : Value} {xs : List Sp} (h : Head w base v xs) (hb : Below w.heap.size w w') : Head w' base v xs := by
  rcases h.val with ⟨A, e, hp⟩ | ho
  · exact ⟨.inl ⟨A, e, hp.below hb⟩⟩
  · refine ⟨.inr (ho.kept (grown_of_below hb none) ?_)⟩
    cases v.ownBlock with
    | none => exact .inl rfl
    | some _ => exact .inr (by simp)
section
variable (w : World)
theorem run_head {base : Nat} {v : Value} {xs : List Sp} (ty : TypeId) (h : Head w base v xs) (hbase : base ≤ w.heap.size) (A : Option Addr) (m c : Nat) {zs : List Sp} (hz : PairsAt w A zs) (hm : m = zs.length) (hsm : xs.length + zs.length ≤ 4194304) :
    ∃ v' w', (Builtin.append_ #[45, 45] ty #[v, .slice A m c]).run Try.prog w = .ok v' w' ∧ Head w' base v' (xs ++ zs) ∧ Below base w w' ∧ w.grownBy w' v.ownBlock := by
  obtain ⟨i, hi, hz0, hz1, hz2⟩ := info_parts span_info
  subst hm
  have hst : ∀ (B : Option Addr) (n cap : Nat), n ≤ cap → ∀ (A : Option Addr) (c : Nat), (Builtin.append_ #[45, 45] ty #[.slice B n cap, .slice A 0 c]).run Try.prog w = .ok (.slice B n cap) w := by
    intro B n cap hle A c
    rcases B with _ | B <;> rcases A with _ | A <;> simp [Builtin.append_, run_underlying Try.underlying45, sizeOf, typeInfo, hi, Builtin.lenOf, Builtin.firstCells, hle, storeCells, loadCells, loadCellsFrom]
  have fin : ∀ (n : Nat) (v' : Value) (w' : World), n = xs.length → w'.ownsRow base 68 2 v' (n + zs.length) (cellsL xs ++ cellsL zs) → Head w' base v' (xs ++ zs) := by
    rintro n v' w' rfl ho
    rw [← cellsL_append] at ho
    exact ⟨.inr (by rw [List.length_append]; exact ho)⟩
  rcases Nat.eq_zero_or_pos zs.length with h0 | h0
  · have e := List.eq_nil_of_length_eq_zero h0
    subst e
    rw [List.append_nil]
    rcases h.val with ⟨B, rfl, hp⟩ | ho
    · exact ⟨_, w, hst B _ _ (Nat.le_refl _) A c, h, Below.refl _ _, World.grownBy.refl w _⟩
    · obtain ⟨B, cap, rfl, h1, _⟩ := own_slice ho
      exact ⟨_, w, hst B _ _ h1 A c, h, Below.refl _ _, World.grownBy.refl w _⟩
  · rcases A with _ | ad
    · rw [hz.none] at h0; simp at h0
    · rcases h.val with ⟨B, rfl, hp⟩ | ho
      · rcases B with _ | B
        · have e := hp.none
          subst e
          obtain ⟨v', w', hrun, h2, h3, _⟩ := run_append_own_at (P := Try.prog) w base 45 ty 68 i _ 2 16 Try.underlying45 hi hz0 hz1 hz2 rfl (by decide) (.slice none 0 0) 0 [] (World.ownsRow_nil w base _ 2) ad zs.length c (cellsL zs) (cellsL_length zs) hz.news (cellsL_one zs) (by unfold maxLen; omega) (by omega) hbase
          refine ⟨v', w', hrun, fin 0 v' w' rfl h2, ⟨h3.os, h3.tape, h3.output, h3.size, fun k hk => h3.block k (by omega) (by simp [Value.ownBlock])⟩, h3⟩
        · obtain ⟨v', w', hrun, h2, h3⟩ := run_append_arg_grows (P := Try.prog) w 45 ty 68 i _ 2 16 Try.underlying45 hi hz0 hz1 hz2 rfl (by decide) B xs.length xs.length (cellsL xs) (cellsL_length xs) hp.news ad zs.length c (cellsL zs) (cellsL_length zs) hz.news (by omega) (by unfold maxLen; omega) (by omega)
          exact ⟨v', w', hrun, fin _ v' w' rfl (h2.mono hbase), ⟨h3.os, h3.tape, h3.output, h3.size, fun k hk => h3.block k (by omega) (by simp)⟩, ⟨h3.os, h3.tape, h3.output, h3.size, fun k hk _ => h3.block k hk (by simp)⟩⟩
      · obtain ⟨v', w', hrun, h2, h3, _⟩ := run_append_own_at (P := Try.prog) w base 45 ty 68 i _ 2 16 Try.underlying45 hi hz0 hz1 hz2 rfl (by decide) v xs.length (cellsL xs) ho ad zs.length c (cellsL zs) (cellsL_length zs) hz.news (cellsL_one zs) (by unfold maxLen; omega) (by omega) hbase
        refine ⟨v', w', hrun, fin _ v' w' rfl h2, ⟨h3.os, h3.tape, h3.output, h3.size, fun k hk => h3.block k (by omega) fun e => ?_⟩, h3⟩
        have := (ho.lt k e.symm).1
        omega
end
theorem step_head {w : World} {ops : Array Oper} {o : Oper} {a : Act} {K : Act → World → Prop} {Q : Exit → Act → World → Prop} {E : Prop} (hgd : o.guard = none) (s x : Operand)
    (ho : o.op = .call { callee := .builtin .append, args := #[s, x], argTypes := #[45, 45] })
    {base : Nat} {v : Value} {xs : List Sp} (hs : a.eval s = v) (h : Head w base v xs) (hbase : base ≤ w.heap.size) (A : Option Addr) (m c : Nat) {zs : List Sp} (hx : a.eval x = .slice A m c) (hz : PairsAt w A zs) (hm : m = zs.length) (hsm : xs.length + zs.length ≤ 4194304)
    (hk : ∀ v' w', Head w' base v' (xs ++ zs) → Below base w w' → w.grownBy w' v.ownBlock → K (a.put o.dst v') w') :
    if Region.wanted o (yielded ops a.tmps) = true then Oper.wp Try.prog o a w K Q else E := by
  have hw : Region.wanted o (yielded ops a.tmps) = true := by simp [Region.wanted, hgd]
  rw [if_pos hw]
  obtain ⟨v', w', hrun, h2, h3, h4⟩ := run_head w o.type h hbase A m c hz hm hsm
  unfold Oper.wp execOp
  simp only [ho, resolve, invoke, builtin, Sem.run_bind, Sem.run_pure, Result.andThen_ok, List.map_toArray, List.map_cons, List.map_nil, hs, hx, hrun]
  exact hk v' w' h2 h3 h4
theorem wpList_head {w : World} {ops : Array Oper} {rest : List Oper} {o : Oper} {a : Act} {Q : Exit → Act → World → Prop} (hgd : o.guard = none) (s x : Operand)
    (ho : o.op = .call { callee := .builtin .append, args := #[s, x], argTypes := #[45, 45] })
    {base : Nat} {v : Value} {xs : List Sp} (hs : a.eval s = v) (h : Head w base v xs) (hbase : base ≤ w.heap.size) (A : Option Addr) (m c : Nat) {zs : List Sp} (hx : a.eval x = .slice A m c) (hz : PairsAt w A zs) (hm : m = zs.length) (hsm : xs.length + zs.length ≤ 4194304)
    (hk : ∀ v' w', Head w' base v' (xs ++ zs) → Below base w w' → w.grownBy w' v.ownBlock → wpList Try.prog ops Q rest (a.put o.dst v') w') : wpList Try.prog ops Q (o :: rest) a w := by
  refine wpList_plain hgd fun K hK' => ?_
  obtain ⟨v', w', hrun, h2, h3, h4⟩ := run_head w o.type h hbase A m c hz hm hsm
  unfold Oper.wp execOp
  simp only [ho, resolve, invoke, builtin, Sem.run_bind, Sem.run_pure, Result.andThen_ok, List.map_toArray, List.map_cons, List.map_nil, hs, hx, hrun]
  exact hK' _ _ (hk v' w' h2 h3 h4)
/-- The one that append(l, s) lays first. -/
theorem one_pairs (w : World) (x y : Int) : PairsAt (w.alloc (.cells #[.int .i64 x, .int .i64 y] 68)) (some ⟨w.heap.size, 0, none⟩) [(x, y)] := by
  have n0 := two_lit w (.int .i64 x) (.int .i64 y) 68
  refine .inr ⟨_, 0, rfl, by simp, fun k p hk => ?_⟩
  have hk0 : k = 0 := by
    have := (List.getElem?_eq_some_iff.1 hk).1
    simp at this
    exact this
  subst hk0
  simp at hk
  subst hk
  exact two_any n0 (Below.refl _ _)

/-- A row of the call's own. -/
def Own (w : World) (base : Nat) (v : Value) (xs : List Sp) : Prop := w.ownsRow base 68 2 v xs.length (cellsL xs)
theorem Own.nil (w : World) (base : Nat) : Own w base (.slice none 0 0) [] := World.ownsRow_nil w base _ 2
theorem Own.head {w : World} {base : Nat} {v : Value} {xs : List Sp} (h : Own w base v xs) : Head w base v xs := ⟨.inr h⟩
theorem Own.lt {w : World} {base : Nat} {v : Value} {xs : List Sp} (h : Own w base v xs) : ∀ k, v.ownBlock = some k → base ≤ k ∧ k < w.heap.size := World.ownsRow.lt h
theorem own_ne {w : World} {base g : Nat} {v : Value} {xs : List Sp} (h : Own w base v xs) (hg : w.heap.size ≤ g) : some g ≠ v.ownBlock := fun e => by have := (h.lt g e.symm).2; omega
theorem Own.below {w w' : World} {base : Nat} {v : Value} {xs : List Sp} (h : Own w base v xs) (hb : Below w.heap.size w w') : Own w' base v xs := by
  refine World.ownsRow.kept h (grown_of_below hb none) ?_
  cases v.ownBlock with
  | none => exact .inl rfl
  | some _ => exact .inr (by simp)
theorem Own.spans {w : World} {base : Nat} {v : Value} {xs : List Sp} (h : Own w base v xs) (hs : xs.length ≤ 4194304) (hi : ∀ p ∈ xs, InInt p.1 ∧ InInt p.2) : SpansIn w v xs := h.head.spans hs hi
/-- append of one. -/
theorem wpList_one {w : World} {ops : Array Oper} {rest : List Oper} {o : Oper} {a : Act} {Q : Exit → Act → World → Prop} (hgd : o.guard = none) (s x : Operand)
    (ho : o.op = .call { callee := .builtin .append, args := #[s, x], argTypes := #[45, 45] })
    {base : Nat} {v : Value} {xs : List Sp} (hs : a.eval s = v) (h : Own w base v xs) (hbase : base ≤ w.heap.size) (ad : Addr) (c : Nat) {z : Sp} (hx : a.eval x = .slice (some ad) 1 c) (hz : PairsAt w (some ad) [z]) (hsm : xs.length + 1 ≤ 4194304)
    (hk : ∀ v' w', Own w' base v' (xs ++ [z]) → Below base w w' → w.grownBy w' v.ownBlock → wpList Try.prog ops Q rest (a.put o.dst v') w') : wpList Try.prog ops Q (o :: rest) a w := by
  obtain ⟨i, hi, hz0, hz1, hz2⟩ := info_parts span_info
  refine wpList_append_own_at w hgd s x 45 ho base 68 i _ 2 16 Try.underlying45 hi hz0 hz1 hz2 rfl (by decide) v xs.length (cellsL xs) hs h ad 1 c (cellsL [z]) hx rfl hz.news (cellsL_one [z]) (by unfold maxLen; omega) (by omega) hbase ?_
  intro v' w' h2 h3 _ _
  refine hk v' w' ?_ ⟨h3.os, h3.tape, h3.output, h3.size, fun k hk => h3.block k (by omega) fun e => ?_⟩ h3
  · unfold Own
    rw [cellsL_append, List.length_append]
    exact h2
  · have := (Own.lt h k e.symm).1
    omega

theorem pairs_grown {w w' : World} {A : Option Addr} {l : List Sp} {row : Option Nat} (h : PairsAt w A l) (hg : w.grownBy w' row) (hne : ∀ b off, A = some ⟨b, off, none⟩ → some b ≠ row) : PairsAt w' A l := by
  rcases h with h | ⟨b, off, e, hlt, hc⟩
  · exact .inl h
  · exact .inr ⟨b, off, e, Nat.lt_of_lt_of_le hlt hg.size, fun k p hk => ⟨hg.cell (hc k p hk).1 (hne b off e), hg.cell (hc k p hk).2 (hne b off e)⟩⟩
theorem one_pairs' (w : World) (x y : Int) {g : Nat} (hg : g = w.heap.size) : PairsAt (w.alloc (.cells #[.int .i64 x, .int .i64 y] 68)) (some ⟨g, 0, none⟩) [(x, y)] := by
  subst hg; exact one_pairs w x y

/-! ### parts of a slice -/
theorem eql_span (w : World) (a b x y : Int) :
    (Op.equalIn 10000 68 (.agg #[.int .i64 a, .int .i64 b]) (.agg #[.int .i64 x, .int .i64 y])).run Try.prog w = .ok (decide ((a, b) = (x, y))) w := by
  have u3 := Try.underlying3
  have a3 := Try.isAgg3
  have z3 := Try.sizeOf3
  have hS : Try.prog.underlying 68 = some (.struct (Try.prog.fieldsOf 68)) := by kernel_rfl
  have hp : Try.prog.stoodInHeld 68 = false := by kernel_rfl
  rw [show (10000 : Nat) = 9999 + 1 from rfl, run_equalIn_struct w 9999 68 _ _ hS hp]
  simp only [Program.fieldsOf, Try.underlying68]
  go_simp
  by_cases h1 : a = x <;> by_cases h2 : b = y <;> simp [h1, h2]
theorem eql_span_is (w : World) {a b x y : Int} {r : Bool} (h : decide ((a, b) = (x, y)) = r) :
    (Op.equalIn 10000 68 (.agg #[.int .i64 a, .int .i64 b]) (.agg #[.int .i64 x, .int .i64 y])).run Try.prog w = .ok r w := by
  rw [← h]; exact eql_span w a b x y
set_option maxHeartbeats 800000 in
theorem same_is {w : World} {v u : Value} {xs ys : List Sp} {r : Bool} (hx : SpansIn w v xs) (hy : SpansIn w u ys) (hr : decide (xs = ys) = r) : Calls Try.prog 20 #[v, u] w fun e w' => e = .returned (.bool r) ∧ Below w.heap.size w w' := by
  obtain ⟨⟨A, c, rfl, h1, h2, h3⟩, _⟩ := hx
  obtain ⟨⟨B, d, rfl, g1, g2, g3⟩, _⟩ := hy
  by_cases he : xs.length = ys.length
  · obtain ⟨n, en⟩ : ∃ n, xs.length = n := ⟨_, rfl⟩
    have em : ys.length = n := he.symm.trans en
    rw [en] at h1 ⊢
    rw [em] at g1 ⊢
    have hbb : ((n : Int) != (n : Int)) = false := by simp
    have hn63 : n ≤ 9223372036854775807 := by unfold maxLen at h2; omega
    have HX := Lib.hid h3
    have HY := Lib.hid g3
    have HN := Lib.hid en
    have HM := Lib.hid em
    have HR := Lib.hid hr
    clear h1 h2 h3 g1 g2 g3 he en em hr
    go_enter Try.func20, Try.ntmps20
    go_wp2
    go_loopw [5] (fun i wr => ∃ k : Nat, k ≤ n ∧ i = .int .i64 k ∧ Below w.heap.size w wr ∧ Hid (∀ j, j < k → xs[j]? = ys[j]?)) (fun i _ => n - (intOf i).toNat)
    case atStart => exact ⟨0, by omega, rfl, Below.refl _ _, fun j hj => by omega⟩
    case round =>
      obtain ⟨k, hk, rfl, hb, hh⟩ := hrel
      by_cases hlt : k < n
      · obtain ⟨p, hp⟩ : ∃ p, xs[k]? = some p := ⟨_, List.getElem?_eq_getElem (by rw [HN.out]; exact hlt)⟩
        obtain ⟨q, hq0⟩ : ∃ q, ys[k]? = some q := ⟨_, List.getElem?_eq_getElem (by rw [HM.out]; exact hlt)⟩
        obtain ⟨b, off, rfl, hc⟩ := (HX.out.below hb).all (by rw [HN.out]; omega)
        obtain ⟨b', off', rfl, hc'⟩ := (HY.out.below hb).all (by rw [HM.out]; omega)
        have c0 : ∀ q : From wr, q.W.cell? ⟨b, off + k * 2, none⟩ = some (.int .i64 p.1) := fun q => (hc q.W q.bel k p hp).1
        have c1 : ∀ q : From wr, q.W.cell? ⟨b, off + k * 2 + 1, none⟩ = some (.int .i64 p.2) := fun q => (hc q.W q.bel k p hp).2
        have c2 : ∀ q' : From wr, q'.W.cell? ⟨b', off' + k * 2, none⟩ = some (.int .i64 q.1) := fun q' => (hc' q'.W q'.bel k q hq0).1
        have c3 : ∀ q' : From wr, q'.W.cell? ⟨b', off' + k * 2 + 1, none⟩ = some (.int .i64 q.2) := fun q' => (hc' q'.W q'.bel k q hq0).2
        have hik : 0 ≤ (k : Int) ∧ (k : Int) < (n : Int) := by omega
        have hb1 := Below.refl wr.heap.size wr
        have HP := Lib.hid hp
        have HQ := Lib.hid hq0
        clear hp hq0 hc hc'
        obtain ⟨x, y⟩ := p
        obtain ⟨a, m⟩ := q
        simp only at c0 c1 c2 c3
        by_cases hxy : (x, y) = (a, m)
        · have z : ∀ W, (Op.equalIn 10000 68 (.agg #[.int .i64 x, .int .i64 y]) (.agg #[.int .i64 a, .int .i64 m])).run Try.prog W = .ok true W := fun W => eql_span_is W (decide_eq_true hxy)
          have HXY := Lib.hid hxy
          clear hxy
          go_wp2
          refine wp_region_from (w0 := wr) (by kernel_rfl) (by kernel_rfl) hb1 ?_
          repeat (go_big_quiet_step (fail))
          refine wpQuiet_nil ?_
          intro wq hw'
          obtain ⟨⟨wy, hq⟩, hw''⟩ := hw'
          subst hw''
          go_wp2
          go_roundw
          case rel =>
            refine ⟨k + 1, by omega, by go_num, step_below hb hq, fun j hj => ?_⟩
            by_cases e : j = k
            · rw [e, HP.out, HQ.out, HXY.out]
            · exact hh.out j (by omega)
          case measure => simp [intOf]; omega
        · have z : ∀ W, (Op.equalIn 10000 68 (.agg #[.int .i64 x, .int .i64 y]) (.agg #[.int .i64 a, .int .i64 m])).run Try.prog W = .ok false W := fun W => eql_span_is W (decide_eq_false hxy)
          have HE : Hid (false = r) := by
            show _ = _
            rw [← HR.out, eq_comm, decide_eq_false_iff_not]
            intro e
            rw [e, HQ.out] at HP
            have := HP.out
            injection this with this
            exact hxy this.symm
          clear hxy
          go_wp2
          refine wp_region_from (w0 := wr) (by kernel_rfl) (by kernel_rfl) hb1 ?_
          repeat (go_big_quiet_step (fail))
          refine wpQuiet_nil ?_
          intro wq hw'
          obtain ⟨⟨wy, hq⟩, hw''⟩ := hw'
          subst hw''
          go_wp2
          go_ret
          exact ⟨ret_bool HE.out, step_below hb hq⟩
      · have HE : Hid (true = r) := by
          show _ = _
          rw [← HR.out, eq_comm, decide_eq_true_iff]
          refine List.ext_getElem? fun j => ?_
          by_cases hj : j < k
          · exact hh.out j hj
          · rw [List.getElem?_eq_none (by rw [HN.out]; omega), List.getElem?_eq_none (by rw [HM.out]; omega)]
        go_wp2
        go_ret
        exact ⟨ret_bool HE.out, hb⟩
  · have hbb : ((xs.length : Int) != (ys.length : Int)) = true := by simp; omega
    have HE : Hid (false = r) := by
      show _ = _
      rw [← hr, eq_comm, decide_eq_false_iff_not]
      intro e
      exact he (by rw [e])
    clear hr h1 h2 h3 g1 g2 g3
    go_enter Try.func20, Try.ntmps20
    go_wp2
    go_ret
    exact ⟨ret_bool HE.out, Below.refl _ _⟩
end Go.Proofs.Ytcfnnchbnlcppaa
