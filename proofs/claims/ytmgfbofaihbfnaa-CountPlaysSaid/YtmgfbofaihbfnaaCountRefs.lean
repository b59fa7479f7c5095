/- Layer 14 (count): what the document's own answers (copyholdref14, and copyholdref01.Add) return: contracts. -/
import Derived.Test.YtmgfbofaihbfnaaCountTell
import Derived.BigQuiet
namespace Go.Proofs.Ytmgfbofaihbfnaa
open Go.RowKit

theorem info_parts {P : Program} {T : TypeId} {z : Option Value} {s b : Nat} (h : (P.info? T).map (fun i => (i.zero, i.size, i.bytes)) = some (z, s, b)) : ∃ i, P.info? T = some i ∧ i.zero = z ∧ i.size = s ∧ i.bytes = b := by
  obtain ⟨i, hi, e⟩ := Option.map_eq_some_iff.1 h
  simp only [Prod.mk.injEq] at e
  exact ⟨i, hi, e.1, e.2.1, e.2.2⟩

/-! ### the sum of two -/
theorem r1_fits (w : World) {a b s : Nat} (h : a + b = s) (hs : s ≤ 9223372036854775807) : Calls Try.prog 21 #[.int .i64 a, .int .i64 b] w fun e w' => e = .returned (.tuple #[.int .i64 s, .bool true]) ∧ w = w' := by
  have w1 : IntKind.i64.wrap ((a : Int) + (b : Int)) = (s : Int) := by rw [IntKind.wrap_i64]; omega
  have d1 : ¬ (b : Int) < 0 := by omega
  by_cases h0 : 0 < b
  · have d2 : (0 : Int) < (b : Int) := by omega
    obtain ⟨r, hr⟩ : ∃ r : Nat, 9223372036854775807 - b = r := ⟨_, rfl⟩
    have w2 : IntKind.i64.wrap (9223372036854775807 - (b : Int)) = (r : Int) := by rw [IntKind.wrap_i64]; omega
    have d3 : ¬ (r : Int) < (a : Int) := by omega
    clear h hs hr h0
    go_enter Try.func21, Try.ntmps21
    go_wp2
    go_ret2
    exact ⟨rfl, rfl⟩
  · have d2 : ¬ (0 : Int) < (b : Int) := by omega
    clear h hs h0
    go_enter Try.func21, Try.ntmps21
    go_wp2
    go_ret2
    exact ⟨rfl, rfl⟩
theorem r1_over (w : World) {a b : Nat} (hb : b ≤ 9223372036854775807) (ha : a ≤ 9223372036854775807) (h : 9223372036854775807 < a + b) : Calls Try.prog 21 #[.int .i64 a, .int .i64 b] w fun e w' => e = .returned (.tuple #[.int .i64 0, .bool false]) ∧ w = w' := by
  have d2 : (0 : Int) < (b : Int) := by omega
  obtain ⟨r, hr⟩ : ∃ r : Nat, 9223372036854775807 - b = r := ⟨_, rfl⟩
  have w2 : IntKind.i64.wrap (9223372036854775807 - (b : Int)) = (r : Int) := by rw [IntKind.wrap_i64]; omega
  have d3 : (r : Int) < (a : Int) := by omega
  clear h hb ha hr
  go_enter Try.func21, Try.ntmps21
  go_wp2
  go_ret2
  exact ⟨rfl, rfl⟩

/-! ### Sum -/
set_option maxHeartbeats 800000 in
theorem rsum_is (w : World) {A : Option Addr} {L : List Nat} {n c : Nat} (hI : IntsAt w A (ints L)) (hn : L.length = n) (h2 : n ≤ 64) (hlow : Low L) {s : Nat} {r : Bool} (hs : sumV L = s) (hr : sumB L = r) :
    Calls Try.prog 12 #[.slice A n c] w fun e w' => e = .returned (.tuple #[.int .i64 s, .bool r]) ∧ w = w' := by
  have hnot := not_any
  have HI := Lib.hid hI
  have HN := Lib.hid hn
  have HLow := Lib.hid hlow
  have HS := Lib.hid hs
  have HB := Lib.hid hr
  clear hI hn hlow hs hr
  go_enter Try.func12, Try.ntmps12
  go_wp2
  go_loopw [4, 5] (fun v i wr => ∃ k t : Nat, k ≤ n ∧ t ≤ 9223372036854775807 ∧ i = .int .i64 k ∧ v = .int .i64 t ∧ Hid ((L.take k).sum = t) ∧ w = wr) (fun _ i _ => n - (RowKit.intOf i).toNat)
  case atStart => exact ⟨0, 0, by omega, by omega, rfl, rfl, rfl, rfl⟩
  case round =>
    obtain ⟨k, t, hk, ht, rfl, rfl, HT, rfl⟩ := hrel
    by_cases hlt : k < n
    · have hkl : k < L.length := by rw [HN.out]; exact hlt
      obtain ⟨b, off, rfl, hc⟩ := ints_cell HI.out hkl
      obtain ⟨x, hx⟩ : ∃ x, L.getD k 0 = x := ⟨_, rfl⟩
      have hxl := HLow.out k
      rw [hx] at hc hxl
      have hi : 0 ≤ (k : Int) ∧ (k : Int) < (n : Int) := by omega
      by_cases hf : t + x ≤ 9223372036854775807
      · obtain ⟨u, hu⟩ : ∃ u, t + x = u := ⟨_, rfl⟩
        have hu2 : u ≤ 9223372036854775807 := by omega
        have HU : Hid ((L.take (k + 1)).sum = u) := by
          show _ = _
          rw [sum_take hkl, HT.out, hx, hu]
        have HA := Lib.hid (r1_fits w hu hu2)
        clear hx hkl hu HT
        go_wp2_with fail
        refine HA.out.mono ?_
        rintro e w2 ⟨rfl, rfl⟩
        go_wp2
        go_roundw
        case rel => exact ⟨k + 1, u, by omega, hu2, by go_num, rfl, HU, trivial⟩
        case measure => simp [RowKit.intOf]; omega
      · have hov := sum_not (sum_over hkl (m := 9223372036854775807) (by rw [HT.out, hx]; omega))
        have e1 := hov.1.symm.trans HS.out
        have e2 := hov.2.symm.trans HB.out
        subst e1 e2
        have HA := Lib.hid (r1_over w (a := t) (b := x) (by omega) (by omega) (by omega))
        clear hx hkl hov
        go_wp2_with fail
        refine HA.out.mono ?_
        rintro e w2 ⟨rfl, rfl⟩
        go_wp2
        go_ret2
        exact ⟨rfl, rfl⟩
    · obtain rfl : k = n := by omega
      have hall := HT.out
      rw [sum_all (by rw [HN.out]; exact Nat.le_refl _)] at hall
      have hft := sum_fits hall ht
      have e1 := hft.1.symm.trans HS.out
      have e2 := hft.2.symm.trans HB.out
      subst e1 e2
      clear hall hft
      go_wp2
      go_ret2
      exact ⟨rfl, rfl⟩

/-! ### Top -/
set_option maxHeartbeats 1600000 in
theorem rtop_is (w : World) {A : Option Addr} {L : List Nat} {n c : Nat} (hI : IntsAt w A (ints L)) (hn : L.length = n) (h1 : 1 ≤ n) (h2 : n ≤ 64) {u : Nat} (hu : IsTop L u) :
    Calls Try.prog 16 #[.slice A n c] w fun e w' => e = .returned (.int .i64 u) ∧ ∃ m, w' = w.drewN m := by
  have HI := Lib.hid hI
  have HN := Lib.hid hn
  have HU := Lib.hid hu
  clear hI hn hu
  have hw1 : IntKind.i64.wrap ((n : Int) - 1) = (n : Int) - 1 := by rw [IntKind.wrap_i64]; omega
  go_enter Try.func16, Try.ntmps16
  go_wp2
  clear hw1
  go_loopw [3, 4] (fun v i wr => ∃ k q : Nat, k ≤ n ∧ i = .int .i64 ((k : Int) - 1) ∧ wr = w.drewN q ∧ ((k = n ∧ v = .int .i64 (-1)) ∨ ∃ t : Nat, v = .int .i64 t ∧ t < n ∧ Hid (TopFrom L k t))) (fun _ i _ => (RowKit.intOf i + 1).toNat)
  case atStart => exact ⟨n, 0, by omega, rfl, rfl, .inl ⟨rfl, rfl⟩⟩
  case round =>
    obtain ⟨k, q, hk, hi, rfl, hv⟩ := hrel
    have hk3 : k = 0 ∨ ∃ j, k = j + 1 := by
      rcases Nat.eq_zero_or_pos k with e | e
      · exact .inl e
      · exact .inr ⟨k - 1, by omega⟩
    rcases hk3 with rfl | ⟨j, rfl⟩
    · rw [show (((0 : Nat) : Int) - 1) = -1 by omega] at hi
      subst hi
      rcases hv with ⟨e, _⟩ | ⟨t, rfl, ht, HT⟩
      · omega
      · have e := HT.out.top.one HU.out
        subst e
        go_wp2
        go_ret
        exact ⟨rfl, q, rfl⟩
    · rw [show (((j + 1 : Nat) : Int) - 1) = (j : Int) by omega] at hi
      subst hi
      have hjn : j < n := by omega
      have hjl : j < L.length := by rw [HN.out]; exact hjn
      have hji : 0 ≤ (j : Int) ∧ (j : Int) < (n : Int) := by omega
      have hwj : IntKind.i64.wrap ((j : Int) - 1) = (j : Int) - 1 := by rw [IntKind.wrap_i64]; omega
      have hj0 : (0 : Int) ≤ (j : Int) := by omega
      rcases hv with ⟨e, rfl⟩ | ⟨t, rfl, ht, HT⟩
      · have HT1 : Hid (TopFrom L j j) := TopFrom.last (by rw [HN.out]; omega)
        clear hjl
        go_wp2
        go_quiet (fail)
        go_wp2
        go_roundw
        case rel => exact ⟨j, q + nq, by omega, rfl, rfl, .inr ⟨j, rfl, hjn, HT1⟩⟩
        case measure => simp [RowKit.intOf]
      · obtain ⟨b, off, rfl, hc⟩ := ints_cell HI.out hjl
        obtain ⟨b', off', e, hc2⟩ := ints_cell HI.out (k := t) (by rw [HN.out]; exact ht)
        injection e with e
        injection e with e1 e2
        subst e1 e2
        obtain ⟨x, hx⟩ : ∃ x, L.getD j 0 = x := ⟨_, rfl⟩
        obtain ⟨y, hy⟩ : ∃ y, L.getD t 0 = y := ⟨_, rfl⟩
        rw [hx] at hc
        rw [hy] at hc2
        have hti : 0 ≤ (t : Int) ∧ (t : Int) < (n : Int) := by omega
        have ht0 : ¬ (t : Int) < 0 := by omega
        by_cases hg : y ≤ x
        · have d1 : decide ((y : Int) ≤ (x : Int)) = true := decide_eq_true (by omega)
          have d1' : decide (y ≤ x) = true := decide_eq_true hg
          have HT1 : Hid (TopFrom L j j) := HT.out.new (by rw [hx, hy]; exact hg)
          clear hjl hx hy HT hg
          go_wp2
          go_quiet (fail)
          go_wp2
          go_roundw
          case rel => exact ⟨j, q + nq, by omega, rfl, rfl, .inr ⟨j, rfl, hjn, HT1⟩⟩
          case measure => simp [RowKit.intOf]
        · have d1 : decide ((y : Int) ≤ (x : Int)) = false := decide_eq_false (by omega)
          have d1' : decide (y ≤ x) = false := decide_eq_false hg
          have HT1 : Hid (TopFrom L j t) := HT.out.old (by rw [hx, hy]; omega)
          clear hjl hx hy HT hg
          go_wp2
          go_quiet (fail)
          go_wp2
          go_roundw
          case rel => exact ⟨j, q + nq, by omega, rfl, rfl, .inr ⟨t, rfl, ht, HT1⟩⟩
          case measure => simp [RowKit.intOf]

/-! ### Add -/
theorem vals_ints (l : List Nat) : (ints l).map (Value.int .i64) = vals l := by unfold ints vals; rw [List.map_map]; rfl
theorem vals_one (l : List Nat) : ∀ u ∈ vals l, u.oneCell' = true := fun u hu => by
  obtain ⟨j, _, rfl⟩ := List.mem_map.1 hu
  rfl
theorem vals_set (l : List Nat) (k x : Nat) : (vals l).set k (.int .i64 x) = vals (l.set k x) := by unfold vals; rw [List.map_set]
theorem vals_at {l : List Nat} {k : Nat} (h : k < l.length) : (vals l)[k]? = some (.int .i64 (l.getD k 0 : Nat)) := by unfold vals; rw [List.getElem?_map, getD_at h]; rfl
/-- What the document's Add gives: the same list or a new one, and the error. -/
def RAdd (w : World) (T : Nat → Prop) (n r : Nat) (M : List Nat) (e : Ending) (w' : World) : Prop :=
  ∃ (T' : Nat → Prop) (A : Option Addr) (c : Nat), e = .returned (.tuple #[.slice A n c, .int .i64 r]) ∧ IntsF w' T' A (ints M) ∧ InHeap T' w' ∧ (∀ k, T' k → T k ∨ w.heap.size ≤ k) ∧ Below w.heap.size w w'
set_option maxHeartbeats 1600000 in
theorem radd_is (w : World) {T : Nat → Prop} {A : Option Addr} {L : List Nat} {n c : Nat} (hI : IntsF w T A (ints L)) (hT : InHeap T w) (hn : L.length = n) (h2 : n ≤ 64) (hlow : Low L) {i y : Int} {r : Nat} {M : List Nat} (hr : addE L i y = r) (hM : addV L i y = M) :
    Calls Try.prog 8 #[.slice A n c, .int .i64 i, .int .i64 y] w (RAdd w T n r M) := by
  have hsame : RAdd w T n r L (.returned (.tuple #[.slice A n c, .int .i64 r])) w := ⟨T, A, c, rfl, hI, hT, fun k hk => .inl hk, Below.refl _ _⟩
  rcases add_ways L i y with hb | ⟨k, m, rfl, rfl, hk, ho⟩
  · have e1 := (add_bad hb).1.symm.trans hr
    have e2 := (add_bad hb).2.symm.trans hM
    subst e1 e2
    rw [hn] at hb
    have HQ := Lib.hid hsame
    clear hr hM hsame hI hT hn hlow
    by_cases h0 : i < 0
    · clear hb
      go_enter Try.func8, Try.ntmps8
      go_wp2
      go_ret2
      exact HQ.out
    · by_cases h1 : (n : Int) ≤ i
      · clear hb
        go_enter Try.func8, Try.ntmps8
        go_wp2
        go_ret2
        exact HQ.out
      · have hy : y < 0 := by omega
        clear hb
        go_enter Try.func8, Try.ntmps8
        go_wp2
        go_ret2
        exact HQ.out
  · have hkn : k < n := by omega
    have hi : 0 ≤ (k : Int) ∧ (k : Int) < (n : Int) := by omega
    have g0 : ¬ (k : Int) < 0 := by omega
    have g1 : ¬ (n : Int) ≤ (k : Int) := by omega
    have g2 : ¬ (m : Int) < 0 := by omega
    obtain ⟨b, off, rfl, hc⟩ := ints_cell hI.ints hk
    obtain ⟨x, hx⟩ : ∃ x, L.getD k 0 = x := ⟨_, rfl⟩
    have hxl := hlow k
    rw [hx] at hc hxl
    rcases ho with ho | ho
    · have e1 := (add_over hk ho).1.symm.trans hr
      have e2 := (add_over hk ho).2.symm.trans hM
      subst e1 e2
      have HQ := Lib.hid hsame
      rw [hx] at ho
      clear hr hM hsame hI hT hn hlow hx hk
      by_cases hm : 4611686018427387904 < m
      · have g3 : (4611686018427387904 : Int) < (m : Int) := by omega
        clear hm ho
        go_enter Try.func8, Try.ntmps8
        go_wp2
        go_ret2
        exact HQ.out
      · have g3 : ¬ (4611686018427387904 : Int) < (m : Int) := by omega
        obtain ⟨d, hd⟩ : ∃ d : Nat, 4611686018427387904 - m = d := ⟨_, rfl⟩
        have w1 : IntKind.i64.wrap (4611686018427387904 - (m : Int)) = (d : Int) := by rw [IntKind.wrap_i64]; omega
        have g4 : (d : Int) < (x : Int) := by omega
        clear hm ho hd
        go_enter Try.func8, Try.ntmps8
        go_wp2
        go_ret2
        exact HQ.out
    · have e1 := (add_good hk ho).1.symm.trans hr
      have e2 := (add_good hk ho).2.symm.trans hM
      subst e1
      rw [hx] at ho e2
      obtain ⟨s, hs⟩ : ∃ s, x + m = s := ⟨_, rfl⟩
      rw [hs] at e2
      have HE := Lib.hid e2
      clear e2
      have g3 : ¬ (4611686018427387904 : Int) < (m : Int) := by omega
      obtain ⟨d, hd⟩ : ∃ d : Nat, 4611686018427387904 - m = d := ⟨_, rfl⟩
      have w1 : IntKind.i64.wrap (4611686018427387904 - (m : Int)) = (d : Int) := by rw [IntKind.wrap_i64]; omega
      have g4 : ¬ (d : Int) < (x : Int) := by omega
      have w2 : IntKind.i64.wrap ((x : Int) + (m : Int)) = (s : Int) := by rw [IntKind.wrap_i64]; omega
      obtain ⟨i0, hi0, hz0, hz1, hz2⟩ := info_parts int_info
      have HI := Lib.hid hI
      have HCL : Hid (CellsF w T (some ⟨b, off, none⟩) (vals L)) := by rw [← vals_ints]; exact hI.cells
      have HN := Lib.hid hn
      have HK := Lib.hid hk
      have HX := Lib.hid hx
      have HS := Lib.hid hs
      clear hr hM hsame hI hT hn hlow ho hd hx hk hs
      go_enter Try.func8, Try.ntmps8
      go_wp2_with (at_builtin
                   refine wpList_append_copy _ rfl (.tmp 34) (.tmp 35) 26 rfl 3 i0 (.int .i64 0) 8 Try.underlying26 hi0 hz0 hz1 hz2 rfl rfl T (some ⟨b, off, none⟩) n c (vals L) rfl HCL.out (by rw [vals_length]; exact HN.out.symm) (vals_one L) (by omega) (by omega) ?_
                   intro v1 w1 hown b1 hsz
                   obtain ⟨go, cc, rfl, _, hgo⟩ := own_some hown (by omega)
                   have OWN := Lib.hid hown
                   have B1 := Lib.hid b1
                   obtain ⟨b', off', e, hc1⟩ := ints_cell (HI.out.keep (.of_below T b1)).ints HK.out
                   injection e with e
                   injection e with e1 e2
                   subst e1 e2
                   rw [HX.out] at hc1
                   have hc2 : w1.cell? ⟨go, k, none⟩ = some (.int .i64 x) := by rw [World.ownsRow.cellAt hown k (by omega), vals_at HK.out, HX.out]
                   have hf2 := World.ownsRow.frozenAt hown k
                   clear hown b1 hsz hc)
      go_ret2
      have hgo2 := (OWN.out.lt go rfl).1
      have hown2 := own_set OWN.out k (.int .i64 s)
      rw [vals_set] at hown2
      obtain ⟨A', c', e, _, hI2⟩ := own_intsF (T := fun j => j = go) hown2 (by rw [List.length_set]; exact HN.out.symm) (fun j hj => by injection hj with hj; exact hj.symm)
      injection e with e1 e2 e3
      subst e1 e3
      refine ⟨fun j => j = go, some ⟨go, 0, none⟩, cc, rfl, ?_, ?_, ?_, ?_⟩
      · rw [← HE.out]; exact hI2
      · rintro j rfl; simpa [World.setCell] using hgo
      · rintro j rfl; exact .inr hgo2
      · exact B1.out.setCell (p := ⟨go, k, none⟩) hgo2 _
end Go.Proofs.Ytmgfbofaihbfnaa
