/- Layer 8 (spans): append to slices of spans (two cells each), and parts of such slices. -/
import Derived.Test.YtppiibdeigjcjaaSpansRight
import Derived.Deep.RegionLaw
namespace Go.Proofs.Ytppiibdeigjcjaa
open Go.RowKit

def cellsL : List Sp → List Value
  | [] => []
  | p :: r => .int .i64 p.1 :: .int .i64 p.2 :: cellsL r
theorem cellsL_length : ∀ l : List Sp, (cellsL l).length = l.length * 2
  | [] => rfl
  | p :: r => by
    show (cellsL r).length + 1 + 1 = (r.length + 1) * 2
    rw [cellsL_length r]; omega
theorem cellsL_append : ∀ l m : List Sp, cellsL (l ++ m) = cellsL l ++ cellsL m
  | [], _ => rfl
  | p :: r, m => by
    show Value.int .i64 p.1 :: .int .i64 p.2 :: cellsL (r ++ m) = _
    rw [cellsL_append r m]; rfl
theorem cellsL_one : ∀ (l : List Sp), ∀ u ∈ cellsL l, u.oneCell' = true
  | [], u, h => by cases h
  | p :: r, u, h => by
    rcases List.mem_cons.1 h with e | h
    · rw [e]; rfl
    · rcases List.mem_cons.1 h with e | h
      · rw [e]; rfl
      · exact cellsL_one r u h
theorem cellsL_at : ∀ {l : List Sp} {k : Nat} {p : Sp}, l[k]? = some p → (cellsL l)[k * 2]? = some (.int .i64 p.1) ∧ (cellsL l)[k * 2 + 1]? = some (.int .i64 p.2)
  | [], k, p, h => by simp at h
  | q :: r, 0, p, h => by simp at h; subst h; exact ⟨rfl, rfl⟩
  | q :: r, k + 1, p, h => by
    have := cellsL_at (l := r) (k := k) (p := p) (by simpa using h)
    rw [show (k + 1) * 2 = k * 2 + 1 + 1 by omega]
    exact this
theorem cellsL_get : ∀ {l : List Sp} {j : Nat} {u : Value}, (cellsL l)[j]? = some u → ∃ k p, l[k]? = some p ∧ (j = k * 2 ∧ u = .int .i64 p.1 ∨ j = k * 2 + 1 ∧ u = .int .i64 p.2)
  | [], j, u, h => by simp [cellsL] at h
  | q :: r, 0, u, h => by
    have e : some (Value.int .i64 q.1) = some u := h
    injection e with e
    exact ⟨0, q, rfl, .inl ⟨rfl, e.symm⟩⟩
  | q :: r, 1, u, h => by
    have e : some (Value.int .i64 q.2) = some u := h
    injection e with e
    exact ⟨0, q, rfl, .inr ⟨rfl, e.symm⟩⟩
  | q :: r, j + 2, u, h => by
    obtain ⟨k, p, h1, h2⟩ := cellsL_get (l := r) (j := j) (u := u) h
    exact ⟨k + 1, p, by simpa using h1, by
      rcases h2 with ⟨e, h2⟩ | ⟨e, h2⟩
      · exact .inl ⟨by omega, h2⟩
      · exact .inr ⟨by omega, h2⟩⟩
theorem PairsAt.news {w : World} {ad : Addr} {zs : List Sp} (h : PairsAt w (some ad) zs) : ∀ j u, (cellsL zs)[j]? = some u → w.cell? (ad.add j) = some u := by
  intro j u hj
  obtain ⟨k, p, hk, hu⟩ := cellsL_get hj
  obtain ⟨b, off, e, _, c0, c1⟩ := h.one hk
  injection e with e
  subst e
  rw [Addr.add_lit]
  rcases hu with ⟨rfl, rfl⟩ | ⟨rfl, rfl⟩
  · exact c0
  · exact c1
theorem PairsAt.none {w : World} {zs : List Sp} (h : PairsAt w none zs) : zs = [] := by
  rcases h with h | ⟨b, off, e, _⟩
  · exact h
  · cases e
theorem span_info : (Try.prog.info? 24).map (fun i => (i.zero, i.size, i.bytes)) = some (some (.agg #[.int .i64 0, .int .i64 0]), 2, 16) := by kernel_rfl
theorem own_pairs {w : World} {base : Nat} {A : Option Addr} {n c : Nat} {l : List Sp} (h : w.ownsRow base 24 2 (.slice A n c) n (cellsL l)) : PairsAt w A l := by
  have hl := h.1
  rw [cellsL_length] at hl
  rcases h.2 with ⟨e, hn⟩ | ⟨g, cap, cur, e, _, hg, _⟩
  · exact .inl (List.eq_nil_of_length_eq_zero (by omega))
  · injection e with e1 _ e3
    subst e1 e3
    refine .inr ⟨g, 0, rfl, (Array.getElem?_eq_some_iff.1 hg).1, fun k p hk => ?_⟩
    obtain ⟨c0, c1⟩ := cellsL_at hk
    have hkl := (List.getElem?_eq_some_iff.1 hk).1
    rw [Nat.zero_add, h.cellAt (k * 2) (by omega), h.cellAt (k * 2 + 1) (by omega)]
    exact ⟨c0, c1⟩
theorem own_slice {w : World} {base n : Nat} {t : TypeId} {z : Nat} {v : Value} {xs : List Value} (h : w.ownsRow base t z v n xs) : ∃ A c, v = .slice A n c ∧ n ≤ c ∧ c ≤ maxLen := by
  rcases h.2 with ⟨rfl, rfl⟩ | ⟨g, cap, cur, rfl, _, _, hc, hm, _⟩
  · exact ⟨_, 0, rfl, Nat.le_refl _, Nat.zero_le _⟩
  · exact ⟨_, cap, rfl, hc, hm⟩
/-- What append is called on: a slice without room, or a row of the call's own. -/
structure Head (w : World) (base : Nat) (v : Value) (xs : List Sp) : Prop where
  val : (∃ A, v = .slice A xs.length xs.length ∧ PairsAt w A xs) ∨ w.ownsRow base 24 2 v xs.length (cellsL xs)
theorem Head.nil (w : World) (base : Nat) : Head w base (.slice none 0 0) [] := ⟨.inl ⟨none, rfl, .inl rfl⟩⟩
theorem Head.own {w : World} {base : Nat} {v : Value} {xs : List Sp} (h : w.ownsRow base 24 2 v xs.length (cellsL xs)) : Head w base v xs := ⟨.inr h⟩
theorem Head.slice {w : World} {base : Nat} {v : Value} {xs : List Sp} (h : Head w base v xs) (hs : xs.length ≤ 4194304) : ∃ A c, v = .slice A xs.length c ∧ xs.length ≤ c ∧ c ≤ maxLen ∧ PairsAt w A xs := by
  rcases h.val with ⟨A, e, hp⟩ | ho
  · exact ⟨A, _, e, Nat.le_refl _, by unfold maxLen; omega, hp⟩
  · obtain ⟨A, c, rfl, h1, h2⟩ := own_slice ho
    exact ⟨A, c, rfl, h1, h2, own_pairs ho⟩
theorem Head.spans {w : World} {base : Nat} {v : Value} {xs : List Sp} (h : Head w base v xs) (hs : xs.length ≤ 4194304) (hi : ∀ p ∈ xs, InInt p.1 ∧ InInt p.2) : SpansIn w v xs := ⟨h.slice hs, hi⟩
theorem Head.below {w w' : World} {base : Nat} {v : Value} {xs : List Sp} (h : Head w base v xs) (hb : Below w.heap.size w w') : Head w' base v xs := by
  rcases h.val with ⟨A, e, hp⟩ | ho
  · exact ⟨.inl ⟨A, e, hp.below hb⟩⟩
  · refine ⟨.inr (ho.kept (grown_of_below hb none) ?_)⟩
    cases v.ownBlock with
    | none => exact .inl rfl
    | some _ => exact .inr (by simp)
section
variable (w : World)
theorem run_head {base : Nat} {v : Value} {xs : List Sp} (ty : TypeId) (h : Head w base v xs) (hbase : base ≤ w.heap.size) (A : Option Addr) (m c : Nat) {zs : List Sp} (hz : PairsAt w A zs) (hm : m = zs.length) (hsm : xs.length + zs.length ≤ 4194304) :
    ∃ v' w', (Builtin.append_ #[22, 22] ty #[v, .slice A m c]).run Try.prog w = .ok v' w' ∧ Head w' base v' (xs ++ zs) ∧ Below base w w' ∧ w.grownBy w' v.ownBlock := by
  obtain ⟨i, hi, hz0, hz1, hz2⟩ := info_parts span_info
  subst hm
  have hst : ∀ (B : Option Addr) (n cap : Nat), n ≤ cap → ∀ (A : Option Addr) (c : Nat), (Builtin.append_ #[22, 22] ty #[.slice B n cap, .slice A 0 c]).run Try.prog w = .ok (.slice B n cap) w := by
    intro B n cap hle A c
    rcases B with _ | B <;> rcases A with _ | A <;> simp [Builtin.append_, run_underlying Try.underlying22, sizeOf, typeInfo, hi, Builtin.lenOf, Builtin.firstCells, hle, storeCells, loadCells, loadCellsFrom]
  have fin : ∀ (n : Nat) (v' : Value) (w' : World), n = xs.length → w'.ownsRow base 24 2 v' (n + zs.length) (cellsL xs ++ cellsL zs) → Head w' base v' (xs ++ zs) := by
    rintro n v' w' rfl ho
    rw [← cellsL_append] at ho
    exact ⟨.inr (by rw [List.length_append]; exact ho)⟩
  rcases Nat.eq_zero_or_pos zs.length with h0 | h0
  · have e := List.eq_nil_of_length_eq_zero h0
    subst e
    rw [List.append_nil]
    rcases h.val with ⟨B, rfl, hp⟩ | ho
    · exact ⟨_, w, hst B _ _ (Nat.le_refl _) A c, h, Below.refl _ _, World.grownBy.refl w _⟩
    · obtain ⟨B, cap, rfl, h1, _⟩ := own_slice ho
      exact ⟨_, w, hst B _ _ h1 A c, h, Below.refl _ _, World.grownBy.refl w _⟩
  · rcases A with _ | ad
    · rw [hz.none] at h0; simp at h0
    · rcases h.val with ⟨B, rfl, hp⟩ | ho
      · rcases B with _ | B
        · have e := hp.none
          subst e
          obtain ⟨v', w', hrun, h2, h3, _⟩ := run_append_own_at (P := Try.prog) w base 22 ty 24 i _ 2 16 Try.underlying22 hi hz0 hz1 hz2 rfl (by decide) (.slice none 0 0) 0 [] (World.ownsRow_nil w base _ 2) ad zs.length c (cellsL zs) (cellsL_length zs) hz.news (cellsL_one zs) (by unfold maxLen; omega) (by omega) hbase
          refine ⟨v', w', hrun, fin 0 v' w' rfl h2, ⟨h3.os, h3.tape, h3.output, h3.size, fun k hk => h3.block k (by omega) (by simp [Value.ownBlock])⟩, h3⟩
        · obtain ⟨v', w', hrun, h2, h3⟩ := run_append_arg_grows (P := Try.prog) w 22 ty 24 i _ 2 16 Try.underlying22 hi hz0 hz1 hz2 rfl (by decide) B xs.length xs.length (cellsL xs) (cellsL_length xs) hp.news ad zs.length c (cellsL zs) (cellsL_length zs) hz.news (by omega) (by unfold maxLen; omega) (by omega)
          exact ⟨v', w', hrun, fin _ v' w' rfl (h2.mono hbase), ⟨h3.os, h3.tape, h3.output, h3.size, fun k hk => h3.block k (by omega) (by simp)⟩, ⟨h3.os, h3.tape, h3.output, h3.size, fun k hk _ => h3.block k hk (by simp)⟩⟩
      · obtain ⟨v', w', hrun, h2, h3, _⟩ := run_append_own_at (P := Try.prog) w base 22 ty 24 i _ 2 16 Try.underlying22 hi hz0 hz1 hz2 rfl (by decide) v xs.length (cellsL xs) ho ad zs.length c (cellsL zs) (cellsL_length zs) hz.news (cellsL_one zs) (by unfold maxLen; omega) (by omega) hbase
        refine ⟨v', w', hrun, fin _ v' w' rfl h2, ⟨h3.os, h3.tape, h3.output, h3.size, fun k hk => h3.block k (by omega) fun e => ?_⟩, h3⟩
        have := (ho.lt k e.symm).1
        omega
end
theorem step_head {w : World} {ops : Array Oper} {o : Oper} {a : Act} {K : Act → World → Prop} {Q : Exit → Act → World → Prop} {E : Prop} (hgd : o.guard = none) (s x : Operand)
    (ho : o.op = .call { callee := .builtin .append, args := #[s, x], argTypes := #[22, 22] })
    {base : Nat} {v : Value} {xs : List Sp} (hs : a.eval s = v) (h : Head w base v xs) (hbase : base ≤ w.heap.size) (A : Option Addr) (m c : Nat) {zs : List Sp} (hx : a.eval x = .slice A m c) (hz : PairsAt w A zs) (hm : m = zs.length) (hsm : xs.length + zs.length ≤ 4194304)
    (hk : ∀ v' w', Head w' base v' (xs ++ zs) → Below base w w' → w.grownBy w' v.ownBlock → K (a.put o.dst v') w') :
    if Region.wanted o (yielded ops a.tmps) = true then Oper.wp Try.prog o a w K Q else E := by
  have hw : Region.wanted o (yielded ops a.tmps) = true := by simp [Region.wanted, hgd]
  rw [if_pos hw]
  obtain ⟨v', w', hrun, h2, h3, h4⟩ := run_head w o.type h hbase A m c hz hm hsm
  unfold Oper.wp execOp
  simp only [ho, resolve, invoke, builtin, Sem.run_bind, Sem.run_pure, Result.andThen_ok, List.map_toArray, List.map_cons, List.map_nil, hs, hx, hrun]
  exact hk v' w' h2 h3 h4
theorem wpList_head {w : World} {ops : Array Oper} {rest : List Oper} {o : Oper} {a : Act} {Q : Exit → Act → World → Prop} (hgd : o.guard = none) (s x : Operand)
    (ho : o.op = .call { callee := .builtin .append, args := #[s, x], argTypes := #[22, 22] })
    {base : Nat} {v : Value} {xs : List Sp} (hs : a.eval s = v) (h : Head w base v xs) (hbase : base ≤ w.heap.size) (A : Option Addr) (m c : Nat) {zs : List Sp} (hx : a.eval x = .slice A m c) (hz : PairsAt w A zs) (hm : m = zs.length) (hsm : xs.length + zs.length ≤ 4194304)
    (hk : ∀ v' w', Head w' base v' (xs ++ zs) → Below base w w' → w.grownBy w' v.ownBlock → wpList Try.prog ops Q rest (a.put o.dst v') w') : wpList Try.prog ops Q (o :: rest) a w := by
  refine wpList_plain hgd fun K hK' => ?_
  obtain ⟨v', w', hrun, h2, h3, h4⟩ := run_head w o.type h hbase A m c hz hm hsm
  unfold Oper.wp execOp
  simp only [ho, resolve, invoke, builtin, Sem.run_bind, Sem.run_pure, Result.andThen_ok, List.map_toArray, List.map_cons, List.map_nil, hs, hx, hrun]
  exact hK' _ _ (hk v' w' h2 h3 h4)
/-- The one that append(l, s) lays first. -/
theorem one_pairs (w : World) (x y : Int) : PairsAt (w.alloc (.cells #[.int .i64 x, .int .i64 y] 24)) (some ⟨w.heap.size, 0, none⟩) [(x, y)] := by
  have n0 := two_lit w (.int .i64 x) (.int .i64 y) 24
  refine .inr ⟨_, 0, rfl, by simp, fun k p hk => ?_⟩
  have hk0 : k = 0 := by
    have := (List.getElem?_eq_some_iff.1 hk).1
    simp at this
    exact this
  subst hk0
  simp at hk
  subst hk
  exact two_any n0 (Below.refl _ _)

/-- A row of the call's own. -/
def Own (w : World) (base : Nat) (v : Value) (xs : List Sp) : Prop := w.ownsRow base 24 2 v xs.length (cellsL xs)
theorem Own.nil (w : World) (base : Nat) : Own w base (.slice none 0 0) [] := World.ownsRow_nil w base _ 2
theorem Own.head {w : World} {base : Nat} {v : Value} {xs : List Sp} (h : Own w base v xs) : Head w base v xs := ⟨.inr h⟩
theorem Own.lt {w : World} {base : Nat} {v : Value} {xs : List Sp} (h : Own w base v xs) : ∀ k, v.ownBlock = some k → base ≤ k ∧ k < w.heap.size := World.ownsRow.lt h
theorem own_ne {w : World} {base g : Nat} {v : Value} {xs : List Sp} (h : Own w base v xs) (hg : w.heap.size ≤ g) : some g ≠ v.ownBlock := fun e => by have := (h.lt g e.symm).2; omega
theorem Own.below {w w' : World} {base : Nat} {v : Value} {xs : List Sp} (h : Own w base v xs) (hb : Below w.heap.size w w') : Own w' base v xs := by
  refine World.ownsRow.kept h (grown_of_below hb none) ?_
  cases v.ownBlock with
  | none => exact .inl rfl
  | some _ => exact .inr (by simp)
theorem Own.spans {w : World} {base : Nat} {v : Value} {xs : List Sp} (h : Own w base v xs) (hs : xs.length ≤ 4194304) (hi : ∀ p ∈ xs, InInt p.1 ∧ InInt p.2) : SpansIn w v xs := h.head.spans hs hi
/-- append of one. -/
theorem wpList_one {w : World} {ops : Array Oper} {rest : List Oper} {o : Oper} {a : Act} {Q : Exit → Act → World → Prop} (hgd : o.guard = none) (s x : Operand)
    (ho : o.op = .call { callee := .builtin .append, args := #[s, x], argTypes := #[22, 22] })
    {base : Nat} {v : Value} {xs : List Sp} (hs : a.eval s = v) (h : Own w base v xs) (hbase : base ≤ w.heap.size) (ad : Addr) (c : Nat) {z : Sp} (hx : a.eval x = .slice (some ad) 1 c) (hz : PairsAt w (some ad) [z]) (hsm : xs.length + 1 ≤ 4194304)
    (hk : ∀ v' w', Own w' base v' (xs ++ [z]) → Below base w w' → w.grownBy w' v.ownBlock → wpList Try.prog ops Q rest (a.put o.dst v') w') : wpList Try.prog ops Q (o :: rest) a w := by
  obtain ⟨i, hi, hz0, hz1, hz2⟩ := info_parts span_info
  refine wpList_append_own_at w hgd s x 22 ho base 24 i _ 2 16 Try.underlying22 hi hz0 hz1 hz2 rfl (by decide) v xs.length (cellsL xs) hs h ad 1 c (cellsL [z]) hx rfl hz.news (cellsL_one [z]) (by unfold maxLen; omega) (by omega) hbase ?_
  intro v' w' h2 h3 _ _
  refine hk v' w' ?_ ⟨h3.os, h3.tape, h3.output, h3.size, fun k hk => h3.block k (by omega) fun e => ?_⟩ h3
  · unfold Own
    rw [cellsL_append, List.length_append]
    exact h2
  · have := (Own.lt h k e.symm).1
    omega

theorem pairs_grown {w w' : World} {A : Option Addr} {l : List Sp} {row : Option Nat} (h : PairsAt w A l) (hg : w.grownBy w' row) (hne : ∀ b off, A = some ⟨b, off, none⟩ → some b ≠ row) : PairsAt w' A l := by
  rcases h with h | ⟨b, off, e, hlt, hc⟩
  · exact .inl h
  · exact .inr ⟨b, off, e, Nat.lt_of_lt_of_le hlt hg.size, fun k p hk => ⟨hg.cell (hc k p hk).1 (hne b off e), hg.cell (hc k p hk).2 (hne b off e)⟩⟩
theorem one_pairs' (w : World) (x y : Int) {g : Nat} (hg : g = w.heap.size) : PairsAt (w.alloc (.cells #[.int .i64 x, .int .i64 y] 24)) (some ⟨g, 0, none⟩) [(x, y)] := by
  subst hg; exact one_pairs w x y

/-! ### parts of a slice -/
theorem spans_to (W : World) (A : Option Addr) (n c : Nat) (x : Int) (k : Nat) (hx : x = (k : Int)) (hk : k ≤ c) : (Instr.slice 22 (.slice A n c) none (some (.int .i64 x)) none).run Try.prog W = .ok (.slice A k c) W := by
  subst hx
  rw [run_slice_h (P := Try.prog) W 22 A n c (by kernel_rfl) .i64 k (by omega) (by omega)]
  rw [show (sizeOf (Try.prog.elem 22)).run Try.prog W = .ok 2 W by kernel_rfl]
  cases A with
  | none => simp [Result.andThen, sliced]
  | some a => simp [Result.andThen, sliced, Addr.add]
theorem spans_full (W : World) (A : Option Addr) (n c : Nat) (x : Int) (k : Nat) (hx : x = (k : Int)) (hk : k ≤ c) : (Instr.slice 22 (.slice A n c) none (some (.int .i64 x)) (some (.int .i64 x))).run Try.prog W = .ok (.slice A k k) W := by
  subst hx
  rw [run_slice_hm (P := Try.prog) W 22 A n c (by kernel_rfl) .i64 .i64 k k (by omega) (by omega) (by omega)]
  rw [show (sizeOf (Try.prog.elem 22)).run Try.prog W = .ok 2 W by kernel_rfl]
  cases A with
  | none => simp [Result.andThen, sliced]
  | some a => simp [Result.andThen, sliced, Addr.add]
/-- Where l[k:] begins. -/
def fromA (A : Option Addr) (c k : Nat) : Option Addr := if c = k then A else A.map (·.add (k * 2))
theorem spans_from (W : World) (A : Option Addr) (n c : Nat) (x : Int) (k : Nat) (hx : x = (k : Int)) (hk : k ≤ n) : (Instr.slice 22 (.slice A n c) (some (.int .i64 x)) none none).run Try.prog W = .ok (.slice (fromA A c k) (n - k) (c - k)) W := by
  subst hx
  rw [run_slice_l (P := Try.prog) W 22 A n c (by kernel_rfl) .i64 k (by omega) (by omega)]
  rw [show (sizeOf (Try.prog.elem 22)).run Try.prog W = .ok 2 W by kernel_rfl]
  simp [Result.andThen, sliced, fromA]
theorem PairsAt.to {w : World} {A : Option Addr} {l : List Sp} (h : PairsAt w A l) (k : Nat) : PairsAt w A (l.take k) := by
  rcases h with h | ⟨b, off, e, hlt, hc⟩
  · exact .inl (by rw [h]; simp)
  · refine .inr ⟨b, off, e, hlt, fun j p hj => hc j p ?_⟩
    rw [List.getElem?_take] at hj
    split at hj
    · exact hj
    · cases hj
theorem PairsAt.from_ {w : World} {A : Option Addr} {l : List Sp} {c k : Nat} (h : PairsAt w A l) (hc : l.length ≤ c) : PairsAt w (fromA A c k) (l.drop k) := by
  rcases h with h | ⟨b, off, e, hlt, hcl⟩
  · exact .inl (by rw [h]; simp)
  · unfold fromA
    by_cases hck : c = k
    · exact .inl (List.drop_eq_nil_of_le (by omega))
    · rw [if_neg hck, e]
      refine .inr ⟨b, off + k * 2, by simp [Addr.add_lit], hlt, fun j p hj => ?_⟩
      rw [List.getElem?_drop] at hj
      have := hcl (k + j) p hj
      rw [show off + k * 2 + j * 2 = off + (k + j) * 2 by omega]
      exact this
end Go.Proofs.Ytppiibdeigjcjaa
