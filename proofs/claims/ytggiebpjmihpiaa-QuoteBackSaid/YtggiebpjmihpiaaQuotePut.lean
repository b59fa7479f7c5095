/- Layer 12 (quote): put tells what stands for a byte, behind what was told: a contract. -/
import Derived.Test.YtggiebpjmihpiaaQuoteMath
import Derived.Laws.AppendOwn
import Derived.Deep.RegionHeld3
import Derived.Deep.RegionLaw
namespace Go.Proofs.Ytggiebpjmihpiaa
open Go.RowKit

/-- Bytes as cells. -/
def bts (l : List UInt8) : List Value := l.map fun b => .int .u8 (b.toNat : Int)
theorem bts_length (l : List UInt8) : (bts l).length = l.length := List.length_map ..
theorem bts_append (l m : List UInt8) : bts (l ++ m) = bts l ++ bts m := List.map_append ..
theorem byte_info : (Try.prog.info? 5).map (fun i => (i.zero, i.size, i.bytes)) = some (some (.int .u8 0), 1, 1) := by kernel_rfl
theorem info_parts {P : Program} {T : TypeId} {z : Option Value} {s b : Nat} (h : (P.info? T).map (fun i => (i.zero, i.size, i.bytes)) = some (z, s, b)) : ∃ i, P.info? T = some i ∧ i.zero = z ∧ i.size = s ∧ i.bytes = b := by
  cases hi : P.info? T with
  | none => rw [hi] at h; cases h
  | some i =>
    rw [hi] at h
    injection h with h
    injection h with h1 h
    injection h with h2 h3
    exact ⟨i, rfl, h1, h2, h3⟩
theorem own_some {w : World} {base n : Nat} {t : TypeId} {v : Value} {xs : List Value} (h : w.ownsRow base t 1 v n xs) (hn : n ≠ 0) : ∃ g cap, v = .slice (some ⟨g, 0, none⟩) n cap := by
  rcases h.2 with ⟨_, h0⟩ | ⟨g, cap, cur, hv, _⟩
  · exact absurd h0 hn
  · exact ⟨g, cap, hv⟩
theorem own_more {w : World} {base : Nat} {v : Value} {l m : List UInt8} {n : Nat} (hn : n = m.length) (h : w.ownsRow base 5 1 v (l.length + n) (bts l ++ bts m)) : w.ownsRow base 5 1 v (l ++ m).length (bts (l ++ m)) := by
  rw [List.length_append, bts_append, ← hn]
  exact h

set_option maxHeartbeats 1000000 in
theorem put_quote (w : World) {base : Nat} {v : Value} {l : List UInt8} (c : UInt8) (hown : w.ownsRow base 5 1 v l.length (bts l)) (hl : l.length ≤ 4096) (hbase : base ≤ w.heap.size) (h : c.toNat = 34 ∨ c.toNat = 92) : Calls Try.prog 15 #[v, .int .u8 (c.toNat : Int)] w fun e w' => ∃ v', e = .returned v' ∧ w'.ownsRow base 5 1 v' (l ++ [92, c]).length (bts (l ++ [92, c])) ∧ Below base w w' := by
  obtain ⟨i0, hi, hz0, hz1, hz2⟩ := info_parts byte_info
  obtain ⟨n, hn⟩ : ∃ n, c.toNat = n := ⟨_, rfl⟩
  have HN := Lib.hid hn
  rw [hn] at h ⊢
  clear hn
  rcases h with rfl | rfl
  · go_enter Try.func15, Try.ntmps15
    go_wp2_with (at_builtin; refine wpList_append_own _ rfl _ _ 30 rfl base 5 i0 (.int .u8 0) 1 1 Try.underlying30 hi hz0 hz1 hz2 rfl (by decide) _ _ _ rfl (hown.alloc _) ⟨w.heap.size, 0, none⟩ 1 1 [.int .u8 92] rfl rfl ?c1 ?c2 ?c3 ?c4 ?c5 ?_)
    case c1 =>
      intro j u hj
      match j, hj with
      | 0, hj => simp at hj; subst hj; simp [Addr.add]
    case c2 => intro u hu; simp at hu; subst hu; rfl
    case c3 => unfold maxLen; omega
    case c4 => omega
    case c5 => simp; omega
    intro v1 w1 hown1 hgrow1 _
    have hb1 : Below base w w1 := Below.grown ((Below.refl base w).alloc hbase _) hgrow1 (by simp; omega) (fun j hj => (hown.lt _ hj).1)
    have hs1 := hb1.size
    clear hown hgrow1
    go_wp2_with (at_builtin; refine wpList_append_own _ rfl _ _ 30 rfl base 5 i0 (.int .u8 0) 1 1 Try.underlying30 hi hz0 hz1 hz2 rfl (by decide) _ _ _ rfl (hown1.alloc _) ⟨w1.heap.size, 0, none⟩ 1 1 [.int .u8 34] rfl rfl ?d1 ?d2 ?d3 ?d4 ?d5 ?_)
    case d1 =>
      intro j u hj
      match j, hj with
      | 0, hj => simp at hj; subst hj; simp [Addr.add]
    case d2 => intro u hu; simp at hu; subst hu; rfl
    case d3 => unfold maxLen; omega
    case d4 => omega
    case d5 => simp; omega
    intro v2 w2 hown2 hgrow2 _
    have hb2 : Below base w w2 := Below.grown (hb1.alloc (by omega) _) hgrow2 (by simp; omega) (fun j hj => (hown1.lt _ hj).1)
    clear hown1 hgrow2 hb1
    obtain ⟨g, cap, rfl⟩ := own_some hown2 (by omega)
    go_wp2
    go_ret
    refine ⟨.slice (some ⟨g, 0, none⟩) (l.length + 1 + 1) cap, rfl, own_more (m := [92, c]) (n := 2) rfl ?_, hb2⟩
    have e : bts [92, c] = [.int .u8 92] ++ [.int .u8 (c.toNat : Int)] := rfl
    rw [e, HN.out]
    exact hown2
  · go_enter Try.func15, Try.ntmps15
    go_wp2_with (at_builtin; refine wpList_append_own _ rfl _ _ 30 rfl base 5 i0 (.int .u8 0) 1 1 Try.underlying30 hi hz0 hz1 hz2 rfl (by decide) _ _ _ rfl (hown.alloc _) ⟨w.heap.size, 0, none⟩ 1 1 [.int .u8 92] rfl rfl ?c1 ?c2 ?c3 ?c4 ?c5 ?_)
    case c1 =>
      intro j u hj
      match j, hj with
      | 0, hj => simp at hj; subst hj; simp [Addr.add]
    case c2 => intro u hu; simp at hu; subst hu; rfl
    case c3 => unfold maxLen; omega
    case c4 => omega
    case c5 => simp; omega
    intro v1 w1 hown1 hgrow1 _
    have hb1 : Below base w w1 := Below.grown ((Below.refl base w).alloc hbase _) hgrow1 (by simp; omega) (fun j hj => (hown.lt _ hj).1)
    have hs1 := hb1.size
    clear hown hgrow1
    go_wp2_with (at_builtin; refine wpList_append_own _ rfl _ _ 30 rfl base 5 i0 (.int .u8 0) 1 1 Try.underlying30 hi hz0 hz1 hz2 rfl (by decide) _ _ _ rfl (hown1.alloc _) ⟨w1.heap.size, 0, none⟩ 1 1 [.int .u8 92] rfl rfl ?d1 ?d2 ?d3 ?d4 ?d5 ?_)
    case d1 =>
      intro j u hj
      match j, hj with
      | 0, hj => simp at hj; subst hj; simp [Addr.add]
    case d2 => intro u hu; simp at hu; subst hu; rfl
    case d3 => unfold maxLen; omega
    case d4 => omega
    case d5 => simp; omega
    intro v2 w2 hown2 hgrow2 _
    have hb2 : Below base w w2 := Below.grown (hb1.alloc (by omega) _) hgrow2 (by simp; omega) (fun j hj => (hown1.lt _ hj).1)
    clear hown1 hgrow2 hb1
    obtain ⟨g, cap, rfl⟩ := own_some hown2 (by omega)
    go_wp2
    go_ret
    refine ⟨.slice (some ⟨g, 0, none⟩) (l.length + 1 + 1) cap, rfl, own_more (m := [92, c]) (n := 2) rfl ?_, hb2⟩
    have e : bts [92, c] = [.int .u8 92] ++ [.int .u8 (c.toNat : Int)] := rfl
    rw [e, HN.out]
    exact hown2

set_option maxHeartbeats 1000000 in
theorem put_itself (w : World) {base : Nat} {v : Value} {l : List UInt8} (c : UInt8) (hown : w.ownsRow base 5 1 v l.length (bts l)) (hl : l.length ≤ 4096) (hbase : base ≤ w.heap.size) (h : 32 ≤ c.toNat ∧ c.toNat ≤ 126) (h' : ¬ (c.toNat = 34 ∨ c.toNat = 92)) : Calls Try.prog 15 #[v, .int .u8 (c.toNat : Int)] w fun e w' => ∃ v', e = .returned v' ∧ w'.ownsRow base 5 1 v' (l ++ [c]).length (bts (l ++ [c])) ∧ Below base w w' := by
  obtain ⟨i0, hi, hz0, hz1, hz2⟩ := info_parts byte_info
  obtain ⟨n, hn⟩ : ∃ n, c.toNat = n := ⟨_, rfl⟩
  have HN := Lib.hid hn
  rw [hn] at h h' ⊢
  clear hn
  have g1 : ¬ (n : Int) = 34 := by omega
  have g2 : ¬ (n : Int) = 92 := by omega
  have g3 : (32 : Int) ≤ (n : Int) := by omega
  have g4 : (n : Int) ≤ 126 := by omega
  clear h h'
  go_enter Try.func15, Try.ntmps15
  go_wp2_with (at_builtin; refine wpList_append_own _ rfl _ _ 30 rfl base 5 i0 (.int .u8 0) 1 1 Try.underlying30 hi hz0 hz1 hz2 rfl (by decide) _ _ _ rfl (hown.alloc _) ⟨w.heap.size, 0, none⟩ 1 1 [.int .u8 n] rfl rfl ?c1 ?c2 ?c3 ?c4 ?c5 ?_)
  case c1 =>
    intro j u hj
    match j, hj with
    | 0, hj => simp at hj; subst hj; simp [Addr.add]
  case c2 => intro u hu; simp at hu; subst hu; rfl
  case c3 => unfold maxLen; omega
  case c4 => omega
  case c5 => simp; omega
  intro v1 w1 hown1 hgrow1 _
  have hb1 : Below base w w1 := Below.grown ((Below.refl base w).alloc hbase _) hgrow1 (by simp; omega) (fun j hj => (hown.lt _ hj).1)
  clear hown hgrow1
  obtain ⟨g, cap, rfl⟩ := own_some hown1 (by omega)
  go_wp2
  go_ret
  refine ⟨.slice (some ⟨g, 0, none⟩) (l.length + 1) cap, rfl, own_more (m := [c]) (n := 1) rfl ?_, hb1⟩
  have e : bts [c] = [.int .u8 (c.toNat : Int)] := rfl
  rw [e, HN.out]
  exact hown1

theorem new_four {w : World} {x0 x1 x2 x3 u : Value} {T : TypeId} {j : Nat} (h : [x0, x1, x2, x3][j]? = some u) : (w.alloc (.cells #[x0, x1, x2, x3] T)).cell? ((⟨w.heap.size, 0, none⟩ : Addr).add j) = some u := by
  match j, h with
  | 0, h => simp at h; subst h; simp [Addr.add]
  | 1, h => simp at h; subst h; simp [Addr.add]
  | 2, h => simp at h; subst h; simp [Addr.add]
  | 3, h => simp at h; subst h; simp [Addr.add]
theorem four_bytes {a b c d : Int} : ∀ u ∈ [Value.int .u8 a, .int .u8 b, .int .u8 c, .int .u8 d], u.oneCell' = true := by
  intro u h
  simp at h
  rcases h with rfl | rfl | rfl | rfl <;> rfl
theorem step_append_own {P : Program} {w : World} {ops : Array Oper} {o : Oper} {a : Act} {K : Act → World → Prop} {Q : Exit → Act → World → Prop} {E : Prop} (hgd : o.guard = none) (s x : Operand) (t : TypeId)
    (ho : o.op = .call { callee := .builtin .append, args := #[s, x], argTypes := #[t, t] })
    (base : Nat) (e : TypeId) (i : TypeInfo) (ht : P.underlying t = some (.slice e)) (hi : P.info? e = some i) (hz : i.zero = some (.int .u8 0)) (hsize : i.size = 1) (hby : i.bytes = 1)
    (v : Value) (n : Nat) (xs : List Value) (hs : a.eval s = v) (hown : w.ownsRow base e 1 v n xs) (ad : Addr) (m c : Nat) (news : List Value) (hx : a.eval x = .slice (some ad) m c) (hl : news.length = m) (hnews : ∀ j u, news[j]? = some u → w.cell? (ad.add j) = some u) (h1 : ∀ u ∈ news, u.oneCell' = true)
    (h63 : n + m ≤ maxLen) (hbytes : n + m ≤ 140737488355328) (hbase : base ≤ w.heap.size)
    (h : ∀ v' w', w'.ownsRow base e 1 v' (n + m) (xs ++ news) → w.grownBy w' v.ownBlock → K (a.put o.dst v') w') :
    if Region.wanted o (yielded ops a.tmps) = true then Oper.wp P o a w K Q else E := by
  have hw : Region.wanted o (yielded ops a.tmps) = true := by simp [Region.wanted, hgd]
  rw [if_pos hw]
  obtain ⟨v', w', hrun, h2, h3, _⟩ := run_append_own (P := P) w base t o.type e i (.int .u8 0) 1 1 ht hi hz hsize hby rfl (by decide) v n xs hown ad m c news (by rw [hl, Nat.mul_one]) hnews h1 h63 (by omega) hbase
  unfold Oper.wp execOp
  simp only [ho, resolve, invoke, builtin, Sem.run_bind, Sem.run_pure, Result.andThen_ok, List.map_toArray, List.map_cons, List.map_nil, hs, hx, hrun]
  exact h v' w' h2 h3
set_option maxRecDepth 10000 in
theorem and15 : ∀ n, n < 256 → bits .and .u8 ((n : Nat) : Int) 15 = ((n % 16 : Nat) : Int) := by decide
theorem hx_index_run (W : World) {d : Nat} (h : d < 16) : (Instr.index 9 (.string hexT) (.int .u8 (d : Int))).run Try.prog W = .ok (.int .u8 ((hx d).toNat : Int)) W := by
  have e1 : (0 : Int) ≤ (d : Int) := by omega
  have h' : d < hexT.size := h
  simp only [Instr.index, asIntOf, Sem.run_bind, Sem.run_pure, Result.andThen_ok, run_underlying Try.underlying9]
  rw [if_pos e1, Int.toNat_natCast, byteAt_lt h']
  rfl
set_option maxHeartbeats 1000000 in
theorem put_digits (w : World) {base : Nat} {v : Value} {l : List UInt8} (c : UInt8) (hown : w.ownsRow base 5 1 v l.length (bts l)) (hl : l.length ≤ 4096) (hbase : base ≤ w.heap.size) (h : ¬ (32 ≤ c.toNat ∧ c.toNat ≤ 126)) : Calls Try.prog 15 #[v, .int .u8 (c.toNat : Int)] w fun e w' => ∃ v', e = .returned v' ∧ w'.ownsRow base 5 1 v' (l ++ [92, 120, hx (c.toNat / 16), hx (c.toNat % 16)]).length (bts (l ++ [92, 120, hx (c.toNat / 16), hx (c.toNat % 16)])) ∧ Below base w w' := by
  obtain ⟨i0, hi, hz0, hz1, hz2⟩ := info_parts byte_info
  have hc : c.toNat < 256 := c.toNat_lt
  obtain ⟨n, hn⟩ : ∃ n, c.toNat = n := ⟨_, rfl⟩
  rw [hn] at h hc ⊢
  clear hn
  have g1 : ¬ (n : Int) = 34 := by omega
  have g2 : ¬ (n : Int) = 92 := by omega
  obtain ⟨q, hq⟩ : ∃ q, n / 16 = q := ⟨_, rfl⟩
  obtain ⟨t, ht⟩ : ∃ t, n % 16 = t := ⟨_, rfl⟩
  have m2 := and15 n hc
  rw [hq, ht]
  rw [ht] at m2
  have m3 : (n : Int) / 16 = (q : Int) := by omega
  have m4 : (n : Int).fdiv 16 = (q : Int) := by rw [Int.fdiv_eq_ediv_of_nonneg _ (by omega)]; exact m3
  have hq' : q < 16 := by omega
  have ht' : t < 16 := by omega
  have x1 : ∀ W, (Instr.index 9 (.string hexT) (.int .u8 (q : Int))).run Try.prog W = .ok (.int .u8 ((hx q).toNat : Int)) W := fun W => hx_index_run W hq'
  have x2 : ∀ W, (Instr.index 9 (.string hexT) (.int .u8 (t : Int))).run Try.prog W = .ok (.int .u8 ((hx t).toNat : Int)) W := fun W => hx_index_run W ht'
  obtain ⟨y, hy⟩ : ∃ y, (hx q).toNat = y := ⟨_, rfl⟩
  obtain ⟨z, hz⟩ : ∃ z, (hx t).toNat = z := ⟨_, rfl⟩
  have HY := Lib.hid hy
  have HZ := Lib.hid hz
  rw [hy] at x1
  rw [hz] at x2
  have hn255 : n ≤ 255 := by omega
  have m1 : IntKind.u8.wrap (n : Int) = (n : Int) := by rw [IntKind.wrap_u8']; omega
  have gg : (¬ (32 : Int) ≤ (n : Int)) ∨ ((32 : Int) ≤ (n : Int) ∧ ¬ (n : Int) ≤ 126) := by omega
  have OWN := Lib.hid (show w.drew.ownsRow base 5 1 v l.length (bts l) from hown)
  clear h hc hown hq ht hq' ht' hy hz
  rcases gg with g4 | ⟨g4, g5⟩
  all_goals
    go_enter Try.func15, Try.ntmps15
    go_wp2_with fail
    go_region_held3 (fun _ => True)
      (exact trivial)
      (first
        | (refine step_append_own (by rfl) (.tmp 24) (.tmp 31) 30 (by rfl) base 5 i0 Try.underlying30 hi hz0 hz1 hz2 _ _ _ (by rfl) (OWN.out.alloc _) ⟨w.heap.size, 0, none⟩ 4 4 [.int .u8 92, .int .u8 120, .int .u8 y, .int .u8 z] (by rfl) rfl (fun j u hj => new_four hj) four_bytes (by unfold maxLen; omega) (by omega) (by simp; omega) ?_
           intro v2 w2 hown2 hgrow2
           obtain ⟨g, cap, rfl⟩ := own_some hown2 (by omega)
           have hb2 : Below base w w2 := Below.grown ((below_drewN (Below.refl base w) 1).alloc hbase _) hgrow2 (by simp; omega) (fun j hj => (OWN.out.lt _ hj).1)
           have HO := Lib.hid hown2
           clear hown2 hgrow2))
    go_wp2
    all_goals
      go_ret
      refine ⟨.slice (some ⟨g, 0, none⟩) (l.length + 4) cap, rfl, own_more (m := [92, 120, hx q, hx t]) (n := 4) rfl ?_, hb2⟩
      have e : bts [92, 120, hx q, hx t] = [.int .u8 92, .int .u8 120, .int .u8 ((hx q).toNat : Int), .int .u8 ((hx t).toNat : Int)] := rfl
      rw [e, HY.out, HZ.out]
      exact HO.out

/-- put tells what stands for a byte, behind what was told. -/
theorem put_is (w : World) {base : Nat} {v : Value} {l : List UInt8} (c : UInt8) (hown : w.ownsRow base 5 1 v l.length (bts l)) (hl : l.length ≤ 4096) (hbase : base ≤ w.heap.size) {r : List UInt8} (hr : part c = r) : Calls Try.prog 15 #[v, .int .u8 (c.toNat : Int)] w fun e w' => ∃ v', e = .returned v' ∧ w'.ownsRow base 5 1 v' (l ++ r).length (bts (l ++ r)) ∧ Below base w w' := by
  subst hr
  unfold part
  split
  · rename_i h
    exact put_quote w c hown hl hbase h
  · rename_i h'
    split
    · rename_i h
      exact put_itself w c hown hl hbase h h'
    · rename_i h
      exact put_digits w c hown hl hbase h
end Go.Proofs.Ytggiebpjmihpiaa
