/- What the document's own answers for layer 6 (copyholdref06) return: Close, OpenOne, Places: contracts. -/
import Derived.Test.YtoocdngaimneoaaSlotsWith
import Derived.Test.YtoocdngaimneoaaBaseList
namespace Go.Proofs.Ytoocdngaimneoaa
open Go.RowKit Go.Maps

theorem results_cell_two {P : Program} {fn : Func} {p q : Tmp} {ty : TypeId} (h : fn.results = #[.cell p ty, .tmp q]) (tmps : Array Value) (w : World) (g : Nat) (t : TypeId) (cs : Array Value) (fr : Nat × Nat) (d : TypeDesc)
    (hp : tmps.getD p undef = .pointer (some ⟨g, 0, none⟩)) (hg : w.heap[g]? = some (.cells cs t fr))
    (hu : P.underlying ty = some d) (hd : (match d with | .struct _ | .array _ _ => true | _ => false) = true) (hi : (P.info? ty).map (·.size) = some cs.size) {v : Value} (hv : tmps.getD q undef = v) :
    (results fn tmps).run P w = .ok (.tuple #[.agg cs, v]) w := by
  have hp' : tmps[p]?.getD undef = .pointer (some ⟨g, 0, none⟩) := by simpa using hp
  have hv' : tmps[q]?.getD undef = v := by simpa using hv
  simp [results, h, hp', hv', asAddr, run_loadVar_row w g t ty cs fr d hg hu hd hi]
theorem results_cell_four {P : Program} {fn : Func} {p q1 q2 q3 : Tmp} {ty : TypeId} (h : fn.results = #[.cell p ty, .tmp q1, .tmp q2, .tmp q3]) (tmps : Array Value) (w : World) (g : Nat) (t : TypeId) (cs : Array Value) (fr : Nat × Nat) (d : TypeDesc)
    (hp : tmps.getD p undef = .pointer (some ⟨g, 0, none⟩)) (hg : w.heap[g]? = some (.cells cs t fr))
    (hu : P.underlying ty = some d) (hd : (match d with | .struct _ | .array _ _ => true | _ => false) = true) (hi : (P.info? ty).map (·.size) = some cs.size) {v1 v2 v3 : Value} (hv1 : tmps.getD q1 undef = v1) (hv2 : tmps.getD q2 undef = v2) (hv3 : tmps.getD q3 undef = v3) :
    (results fn tmps).run P w = .ok (.tuple #[.agg cs, v1, v2, v3]) w := by
  have hp' : tmps[p]?.getD undef = .pointer (some ⟨g, 0, none⟩) := by simpa using hp
  have hv1' : tmps[q1]?.getD undef = v1 := by simpa using hv1
  have hv2' : tmps[q2]?.getD undef = v2 := by simpa using hv2
  have hv3' : tmps[q3]?.getD undef = v3 := by simpa using hv3
  simp [results, h, hp', hv1', hv2', hv3', asAddr, run_loadVar_row w g t ty cs fr d hg hu hd hi]
/-- What Close and OpenOne give: slots, and what else is told. -/
def RStep (w : World) (T : Nat → Prop) (n : Nat) (s : St) (rest : List Value) (e : Ending) (w' : World) : Prop := ∃ v T', e = .returned (.tuple (v :: rest).toArray) ∧ RAt w' T' v n s ∧ InHeap T' w' ∧ (∀ k, T' k → T k ∨ w.heap.size ≤ k) ∧ Below w.heap.size w w'
section
variable {w : World} {T : Nat → Prop} {v : Value} {n : Nat} {s : St}
set_option maxHeartbeats 800000 in
theorem rclose_no (h : RAt w T v n s) (hT : InHeap T w) (hok : Ok n s) {x y : Int} (hr : rightI s x y = false) : Calls Try.prog 11 #[v, .int .i64 x, .int .i64 y] w (RStep w T n s [.bool false]) := by
  have h0 := h
  obtain ⟨Ao, co, Ag, cg, Ac, cc, rfl, hcc, h1, h2, h3⟩ := h
  have hnot := not_any
  obtain ⟨m, em⟩ : ∃ m, s.closed.length = m := ⟨_, rfl⟩
  obtain ⟨f, ef⟩ : ∃ f, s.fresh = f := ⟨_, rfl⟩
  rw [em, ef] at h0 ⊢
  have r0 := (row_lit4 w (.slice Ao n co) (.slice Ag n cg) (.slice Ac m cc) (.int .i64 f) 29).alloc (.cells #[.slice none 0 0, .slice none 0 0, .slice none 0 0, .int .i64 0] 29)
  have s0 := row_lit4 (w.alloc (.cells #[.slice Ao n co, .slice Ag n cg, .slice Ac m cc, .int .i64 f] 29)) (.slice none 0 0) (.slice none 0 0) (.slice none 0 0) (.int .i64 0) 29
  have b0 : Below w.heap.size w ((w.alloc (.cells #[.slice Ao n co, .slice Ag n cg, .slice Ac m cc, .int .i64 f] 29)).alloc (.cells #[.slice none 0 0, .slice none 0 0, .slice none 0 0, .int .i64 0] 29)) := ((Below.refl _ _).alloc (Nat.le_refl _) _).alloc (by simp) _
  have hsz : (w.alloc (.cells #[.slice Ao n co, .slice Ag n cg, .slice Ac m cc, .int .i64 f] 29)).heap.size = w.heap.size + 1 := by simp
  rw [hsz] at s0
  have H0 := Lib.hid (h0.below b0)
  have HT := Lib.hid hT
  have HOK := Lib.hid hok
  have HR := Lib.hid hr
  have HEM := Lib.hid em
  have HEF := Lib.hid ef
  have HH0 := Lib.hid h0
  clear h0 h1 h2 h3 hT hok hr em ef hsz hcc
  go_enter Try.func11, Try.ntmps11
  go_upto_region 1 with fail
  generalize (w.alloc (.cells #[.slice Ao n co, .slice Ag n cg, .slice Ac m cc, .int .i64 f] 29)).alloc (.cells #[.slice none 0 0, .slice none 0 0, .slice none 0 0, .int .i64 0] 29) = W at *
  have e0 := r0.cell (i := 0) (by omega)
  have e1 := r0.cell (i := 1) (by omega)
  have e2 := r0.cell (i := 2) (by omega)
  have e3 := r0.cell (i := 3) (by omega)
  simp only [sF] at e0 e1 e2 e3
  go_wp2_with fail
  refine (rright_at H0.out HOK.out HR.out).mono ?_
  rintro e w1 ⟨rfl, b1⟩
  clear e0 e1 e2 e3
  have r1 := row_same r0 (.of_below (fun _ => True) b1) trivial
  have s1 := row_same s0 (.of_below (fun _ => True) b1) trivial
  have b2 := b0.trans (b1.mono b0.size)
  have e0 := r1.cell (i := 0) (by omega)
  have e1 := r1.cell (i := 1) (by omega)
  have e2 := r1.cell (i := 2) (by omega)
  have e3 := r1.cell (i := 3) (by omega)
  have g0 := s1.cell (i := 0) (by omega)
  have g1 := s1.cell (i := 1) (by omega)
  have g2 := s1.cell (i := 2) (by omega)
  have g3 := s1.cell (i := 3) (by omega)
  have t0 := s1.frozen 0
  have t1 := s1.frozen 1
  have t2 := s1.frozen 2
  have t3 := s1.frozen 3
  simp only [sF] at e0 e1 e2 e3 g0 g1 g2 g3
  have S1 := Lib.hid s1
  have B2 := Lib.hid b2
  clear r0 s0 b0 b1 r1 s1 b2
  go_wp2
  refine bodyPost_ret_by (results_cell_two rfl _ _ (w.heap.size + 1) 29 _ (0, 0) _ rfl (row4 (row_all S1.out _ _ _ _)) Try.underlying29 rfl (by kernel_rfl) rfl) rfl ?_
  have bl := below_all B2.out (g := w.heap.size + 1) (by omega) (.slice Ao n co) (.slice Ag n cg) (.slice Ac m cc) (.int .i64 f)
  exact ⟨_, T, rfl, by have := HH0.out.below bl; exact this, HT.out.more bl.size, fun k hk => .inl hk, bl⟩
theorem own_type {w : World} {b1 b2 n1 n2 z1 z2 : Nat} {t1 t2 : TypeId} {u1 u2 : Value} {x1 x2 : List Value} (h1 : w.ownsRow b1 t1 z1 u1 n1 x1) (h2 : w.ownsRow b2 t2 z2 u2 n2 x2) (ht : t1 ≠ t2) {k : Nat} (e1 : u1.ownBlock = some k) : u2.ownBlock ≠ some k := by
  intro e2
  rcases h1.2 with ⟨rfl, _⟩ | ⟨g, cap, cur, rfl, _, hg, _⟩
  · cases e1
  · rcases h2.2 with ⟨rfl, _⟩ | ⟨g', cap', cur', rfl, _, hg', _⟩
    · cases e2
    · have e1' : some g = some k := e1
      have e2' : some g' = some k := e2
      injection e1' with e1'
      injection e2' with e2'
      rw [e1'] at hg
      rw [e2', hg] at hg'
      injection hg' with hg'
      injection hg' with _ e
      exact ht e
/-- What is made of fresh rows. -/
theorem rat_of {w' : World} {lo : Nat} {go co gg cg : Nat} {vc : Value} {os : List Bool} {gs : List Nat} {s' : St} (ho : w'.ownsRow lo 4 1 (.slice (some ⟨go, 0, none⟩) n co) n (bools os)) (hg : w'.ownsRow lo 3 1 (.slice (some ⟨gg, 0, none⟩) n cg) n (vals gs)) (eo : os = opensL n s') (eg : gs = gensL n s')
    {T' : Nat → Prop} (hT' : ∀ k, lo ≤ k ∧ k < w'.heap.size → T' k) {Ac : Option Addr} {cc : Nat} (hv : vc = .slice Ac s'.closed.length cc) (hcc : s'.closed.length ≤ cc) (hc : IntsF w' T' Ac (ints s'.closed)) {f : Nat} (ef : f = s'.fresh) :
    RAt w' T' (.agg #[.slice (some ⟨go, 0, none⟩) n co, .slice (some ⟨gg, 0, none⟩) n cg, vc, .int .i64 f]) n s' := by
  subst eo eg hv ef
  obtain ⟨A1, c1, e1, _, f1⟩ := own_boolsF (T := T') ho (opensL_length n s').symm fun k hk => hT' k (ho.lt k hk)
  obtain ⟨A2, c2, e2, _, f2⟩ := own_intsF (T := T') hg (gensL_length n s').symm fun k hk => hT' k (hg.lt k hk)
  rw [opensL_length] at e1
  rw [gensL_length] at e2
  rw [e1, e2]
  exact ⟨A1, c1, A2, c2, Ac, cc, rfl, hcc, f1, f2, hc⟩
theorem opensL_upd (n p : Nat) (b : Bool) (s s' : St) (e : s'.opn = upd s.opn p b) : (opensL n s).set p b = opensL n s' := by
  refine List.ext_getElem? fun q => ?_
  rw [List.getElem?_set, opensL_length]
  by_cases hq : q < n
  · rw [opensL_at hq, opensL_at hq, e]
    by_cases h : p = q
    · subst h; rw [if_pos rfl, if_pos hq, upd_same]
    · rw [if_neg h, upd_other (fun h2 => h h2.symm)]
  · rw [List.getElem?_eq_none (by rw [opensL_length]; omega), List.getElem?_eq_none (by rw [opensL_length]; omega)]
    by_cases h : p = q
    · rw [if_pos h, if_neg (by omega)]
    · rw [if_neg h]
theorem gensL_upd (n p y : Nat) (s s' : St) (e : s'.gen = upd s.gen p y) : (gensL n s).set p y = gensL n s' := by
  refine List.ext_getElem? fun q => ?_
  rw [List.getElem?_set, gensL_length]
  by_cases hq : q < n
  · rw [gensL_at hq, gensL_at hq, e]
    by_cases h : p = q
    · subst h; rw [if_pos rfl, if_pos hq, upd_same]
    · rw [if_neg h, upd_other (fun h2 => h h2.symm)]
  · rw [List.getElem?_eq_none (by rw [gensL_length]; omega), List.getElem?_eq_none (by rw [gensL_length]; omega)]
    by_cases h : p = q
    · rw [if_pos h, if_neg (by omega)]
    · rw [if_neg h]
set_option maxHeartbeats 1600000 in
theorem rclose_yes {p : Nat} (h : RAt w T v n s) (hok : Ok n s) (hsm : n ≤ 1048576) (hp : s.opn p = true) (hlow : s.gen p < 4611686018427387904) : Calls Try.prog 11 #[v, .int .i64 p, .int .i64 (s.gen p : Nat)] w (RStep w T n (s.shutP p) [.bool true]) := by
  have h0 := h
  obtain ⟨Ao, co, Ag, cg, Ac, cc, rfl, hcc, h1, h2, h3⟩ := h
  have hnot := not_any
  have hpn : p < n := Nat.lt_of_lt_of_le (hok.below p hp) hok.le
  have hml : s.closed.length ≤ n := by have := hok.count; have := hok.le; omega
  obtain ⟨i0, hi0, hz0, hz1, hz2⟩ := info_parts int_info
  have HI := Lib.hid hi0
  have HZ0 := Lib.hid hz0
  have HZ1 := Lib.hid hz1
  have HZ2 := Lib.hid hz2
  have hr : rightI s (p : Int) (s.gen p : Nat) = true := by unfold rightI openI; simp [hp]
  have HOS := Lib.hid (opensL_upd n p false s (s.shutP p) rfl)
  have HGS := Lib.hid (gensL_upd n p (s.gen p + 1) s (s.shutP p) rfl)
  have HGP : Hid ((gensL n s)[p]? = some (s.gen p)) := gensL_at hpn
  have HCL : Hid ((s.shutP p).closed = s.closed ++ [p]) := rfl
  have HFR : Hid ((s.shutP p).fresh = s.fresh) := rfl
  obtain ⟨m, em⟩ : ∃ m, s.closed.length = m := ⟨_, rfl⟩
  obtain ⟨f, ef⟩ : ∃ f, s.fresh = f := ⟨_, rfl⟩
  obtain ⟨q, eq⟩ : ∃ q, s.gen p = q := ⟨_, rfl⟩
  rw [eq] at hr HGS HGP hlow ⊢
  rw [em, ef] at h0 ⊢
  rw [em] at hml
  have r0 := (row_lit4 w (.slice Ao n co) (.slice Ag n cg) (.slice Ac m cc) (.int .i64 f) 29).alloc (.cells #[.slice none 0 0, .slice none 0 0, .slice none 0 0, .int .i64 0] 29)
  have s0 := row_lit4 (w.alloc (.cells #[.slice Ao n co, .slice Ag n cg, .slice Ac m cc, .int .i64 f] 29)) (.slice none 0 0) (.slice none 0 0) (.slice none 0 0) (.int .i64 0) 29
  have b0 : Below w.heap.size w ((w.alloc (.cells #[.slice Ao n co, .slice Ag n cg, .slice Ac m cc, .int .i64 f] 29)).alloc (.cells #[.slice none 0 0, .slice none 0 0, .slice none 0 0, .int .i64 0] 29)) := ((Below.refl _ _).alloc (Nat.le_refl _) _).alloc (by simp) _
  have hsz : (w.alloc (.cells #[.slice Ao n co, .slice Ag n cg, .slice Ac m cc, .int .i64 f] 29)).heap.size = w.heap.size + 1 := by simp
  rw [hsz] at s0
  have hs2 : w.heap.size + 2 ≤ ((w.alloc (.cells #[.slice Ao n co, .slice Ag n cg, .slice Ac m cc, .int .i64 f] 29)).alloc (.cells #[.slice none 0 0, .slice none 0 0, .slice none 0 0, .int .i64 0] 29)).heap.size := by simp
  have H0 := Lib.hid (h0.below b0)
  have HOK := Lib.hid hok
  have HR := Lib.hid hr
  have HEM := Lib.hid em
  have HEF := Lib.hid ef
  have H1 := Lib.hid h1
  have H2 := Lib.hid h2
  have H3 := Lib.hid h3
  clear h0 h1 h2 h3 hok hr em ef eq hsz hcc hp hi0 hz0 hz1 hz2
  go_enter Try.func11, Try.ntmps11
  go_upto_region 1 with fail
  generalize (w.alloc (.cells #[.slice Ao n co, .slice Ag n cg, .slice Ac m cc, .int .i64 f] 29)).alloc (.cells #[.slice none 0 0, .slice none 0 0, .slice none 0 0, .int .i64 0] 29) = W at *
  have e0 := r0.cell (i := 0) (by omega)
  have e1 := r0.cell (i := 1) (by omega)
  have e2 := r0.cell (i := 2) (by omega)
  have e3 := r0.cell (i := 3) (by omega)
  simp only [sF] at e0 e1 e2 e3
  go_wp2_with fail
  refine (rright_at H0.out HOK.out HR.out).mono ?_
  rintro e w1 ⟨rfl, b1⟩
  clear e0 e1 e2 e3
  have r1 := row_same r0 (.of_below (fun _ => True) b1) trivial
  have s1 := row_same s0 (.of_below (fun _ => True) b1) trivial
  have b2 := b0.trans (b1.mono b0.size)
  have hs3 : w.heap.size + 2 ≤ w1.heap.size := Nat.le_trans hs2 b1.size
  have e0 := r1.cell (i := 0) (by omega)
  have e1 := r1.cell (i := 1) (by omega)
  have e2 := r1.cell (i := 2) (by omega)
  have e3 := r1.cell (i := 3) (by omega)
  simp only [sF] at e0 e1 e2 e3
  have F1 := Lib.hid (H1.out.keep (.of_below T b2))
  have F2 := Lib.hid (H2.out.keep (.of_below T b2))
  clear r0 s0 b0 b1 hs2 H0
  go_wp2_with fail
  refine (rwith_any F1.out F2.out (opensL_length n s) (by rw [gensL_length]) hpn hsm false).mono ?_
  rintro e w2 ⟨go, co2, gg, cg2, rfl, o2, q2, b3⟩
  have r2 := row_same r1 (.of_below (fun _ => True) b3) trivial
  have s2 := row_same s1 (.of_below (fun _ => True) b3) trivial
  have b4 := b2.trans (b3.mono b2.size)
  have hs4 : w.heap.size + 2 ≤ w2.heap.size := Nat.le_trans hs3 b3.size
  clear e0 e1 e2 e3 r1 s1 b2 F1 F2
  go_upto_region 4 with fail
  have z3 := row_lit4 w2 (.slice (some ⟨go, 0, none⟩) n co2) (.slice (some ⟨gg, 0, none⟩) n cg2) (.slice Ac m cc) (.int .i64 f) 29
  have r3 := r2.alloc (.cells #[.slice (some ⟨go, 0, none⟩) n co2, .slice (some ⟨gg, 0, none⟩) n cg2, .slice Ac m cc, .int .i64 f] 29)
  have s3 := s2.alloc (.cells #[.slice (some ⟨go, 0, none⟩) n co2, .slice (some ⟨gg, 0, none⟩) n cg2, .slice Ac m cc, .int .i64 f] 29)
  have o3 := o2.alloc (.cells #[.slice (some ⟨go, 0, none⟩) n co2, .slice (some ⟨gg, 0, none⟩) n cg2, .slice Ac m cc, .int .i64 f] 29)
  have q3 := q2.alloc (.cells #[.slice (some ⟨go, 0, none⟩) n co2, .slice (some ⟨gg, 0, none⟩) n cg2, .slice Ac m cc, .int .i64 f] 29)
  have b5 := b4.alloc b4.size (.cells #[.slice (some ⟨go, 0, none⟩) n co2, .slice (some ⟨gg, 0, none⟩) n cg2, .slice Ac m cc, .int .i64 f] 29)
  have hgo := o2.lt go rfl
  have hgg := q2.lt gg rfl
  have hgog : gg ≠ go := by
    intro e
    subst e
    exact own_type o2 q2 (by decide) (k := gg) rfl rfl
  obtain ⟨B8, hB8⟩ : ∃ B8, B8 = w2.heap.size := ⟨_, rfl⟩
  rw [← hB8] at z3 hgo hgg ⊢
  have hB9 : w.heap.size + 2 ≤ B8 := by omega
  clear r2 s2 o2 q2 b4 b3 hs4 hB8
  generalize w2.alloc (.cells #[.slice (some ⟨go, 0, none⟩) n co2, .slice (some ⟨gg, 0, none⟩) n cg2, .slice Ac m cc, .int .i64 f] 29) = W3 at *
  -- the generation
  have k1 := z3.cell (i := 1) (by omega)
  simp only [sF] at k1
  have k2 : W3.cell? ⟨gg, p, none⟩ = some (.int .i64 q) := by rw [World.ownsRow.cellAt q3 p (by omega), vals_at HGP.out]
  have k3 := World.ownsRow.frozenAt q3 p
  have hpr : 0 ≤ (p : Int) ∧ (p : Int) < (n : Int) := by omega
  have hqr : 0 ≤ (q : Int) ∧ (q : Int) < 4611686018427387904 := by omega
  have z4 := z3.setOther (a := ⟨gg, p, none⟩) (show B8 ≠ gg by omega) (.int .i64 ((q : Int) + 1))
  have r4 := r3.setOther (a := ⟨gg, p, none⟩) (show w.heap.size ≠ gg by omega) (.int .i64 ((q : Int) + 1))
  have s4 := s3.setOther (a := ⟨gg, p, none⟩) (show w.heap.size + 1 ≠ gg by omega) (.int .i64 ((q : Int) + 1))
  have o4 := own_other o3 (b := gg) (fun e => hgog (blk_eq e).symm) p (.int .i64 ((q : Int) + 1))
  have q4 := own_set q3 p (.int .i64 ((q : Int) + 1))
  have hv4 : (vals (gensL n s)).set p (.int .i64 ((q : Int) + 1)) = vals ((gensL n s).set p (q + 1)) := by unfold vals; rw [List.map_set]; rfl
  rw [hv4] at q4
  have b6 := b5.setCell (p := ⟨gg, p, none⟩) (show w.heap.size ≤ gg by omega) (.int .i64 ((q : Int) + 1))
  have Z4 := Lib.hid z4
  have R4 := Lib.hid r4
  have S4 := Lib.hid s4
  have O4 := Lib.hid o4
  have Q4 := Lib.hid q4
  have B6 := Lib.hid b6
  clear z3 r3 s3 o3 q3 b5 z4 r4 s4 o4 q4 b6 hv4
  go_upto_region 5 with fail
  clear k1 k2 k3 hqr hpr
  generalize W3.setCell ⟨gg, p, none⟩ (.int .i64 ((q : Int) + 1)) = W4 at *
  -- those that were closed
  have k1 := (R4.out.alloc (.cells #[] 3)).cell (i := 2) (by omega)
  simp only [sF] at k1
  have hz4 := Z4.out.lt
  have C4 := Lib.hid (intsF_vals (H3.out.keep (.of_below T B6.out)))
  go_upto_region 6 with (first
    | (at_builtin
       refine wpList_append_copy _ rfl (.tmp 24) (.tmp 26) 27 rfl 3 i0 (.int .i64 0) 8 Try.underlying27 HI.out HZ0.out HZ1.out HZ2.out rfl rfl T Ac m cc (vals s.closed) rfl C4.out (by rw [vals_length]; exact HEM.out.symm) (vals_one s.closed) (by omega) (by omega) ?_
       intro v5 w5 hown5 b7 hsz5
       obtain ⟨A5, c5, rfl, _⟩ := own_len hown5
       have HOWN5 := Lib.hid hown5
       have B7 := Lib.hid b7
       clear hown5 b7)
    | (at_builtin
       refine wpList_append_own_at _ rfl (.tmp 27) (.tmp 29) 27 rfl W4.heap.size 3 i0 (.int .i64 0) 1 8 Try.underlying27 HI.out HZ0.out HZ1.out HZ2.out rfl (by decide) (.slice A5 m c5) m _ rfl (HOWN5.out.alloc _) ⟨w5.heap.size, 0, none⟩ 1 1 [.int .i64 p] rfl rfl (new_one _ _ _) (one_int _ _) (by unfold maxLen; omega) (by omega) (by have := B7.out.size; simp; omega) ?_
       intro v6 w6 hown6 hgr6 _ hat6
       obtain ⟨A6, c6, rfl, hc6⟩ := own_len hown6
       have b8 : Below W4.heap.size W4 w6 := (B7.out.alloc B7.out.size (.cells #[.int .i64 p] 3)).grown hgr6 (by have := B7.out.size; simp; omega) (fun k e => (HOWN5.out.lt k e).1)
       have k2 := (row_same Z4.out (.of_below (fun _ => True) b8) trivial).cell (i := 2) (by omega)
       have k3 := (row_same Z4.out (.of_below (fun _ => True) b8) trivial).frozen 2
       have OWN6 := Lib.hid hown6
       have B8' := Lib.hid b8
       clear hown6 hgr6 hat6 b8))
  have any8 := Same.of_below (fun _ => True) B8'.out
  have bz8 := B8'.out.size
  have z6 := row_set2 (row_same Z4.out any8 trivial) (.slice A6 (m + 1) c6)
  have s6 := (row_same S4.out any8 trivial).setOther (a := ⟨B8, 2, none⟩) (show w.heap.size + 1 ≠ B8 by omega) (.slice A6 (m + 1) c6)
  have o6 := own_other (own_same O4.out any8 fun _ _ => trivial) (b := B8) (fun e => by have := blk_eq e; omega) 2 (.slice A6 (m + 1) c6)
  have q6 := own_other (own_same Q4.out any8 fun _ _ => trivial) (b := B8) (fun e => by have := blk_eq e; omega) 2 (.slice A6 (m + 1) c6)
  have y6 := own_other OWN6.out (b := B8) (fun e => by have := (OWN6.out.lt B8 e).1; omega) 2 (.slice A6 (m + 1) c6)
  have b6 := (B6.out.trans (B8'.out.mono (by have := B6.out.size; omega))).setCell (p := ⟨B8, 2, none⟩) (show w.heap.size ≤ B8 by omega) (.slice A6 (m + 1) c6)
  have hyv : vals s.closed ++ [.int .i64 (p : Int)] = vals (s.closed ++ [p]) := by rw [vals_append]; rfl
  have hym : m + 1 = (s.closed ++ [p]).length := by rw [List.length_append, HEM.out]; rfl
  rw [hyv] at y6
  have hlo4 : w.heap.size ≤ W4.heap.size := B6.out.size
  clear Z4 R4 S4 O4 Q4 B6 C4 HOWN5 B7 OWN6 B8' any8 k1 k2 k3 hyv bz8
  generalize w6.setCell ⟨B8, 2, none⟩ (.slice A6 (m + 1) c6) = W6 at *
  have e0 := z6.cell (i := 0) (by omega)
  have e1 := z6.cell (i := 1) (by omega)
  have e2 := z6.cell (i := 2) (by omega)
  have e3 := z6.cell (i := 3) (by omega)
  have g0 := s6.cell (i := 0) (by omega)
  have g1 := s6.cell (i := 1) (by omega)
  have g2 := s6.cell (i := 2) (by omega)
  have g3 := s6.cell (i := 3) (by omega)
  have t0 := s6.frozen 0
  have t1 := s6.frozen 1
  have t2 := s6.frozen 2
  have t3 := s6.frozen 3
  simp only [sF] at e0 e1 e2 e3 g0 g1 g2 g3
  have S6 := Lib.hid s6
  have O6 := Lib.hid o6
  have Q6 := Lib.hid q6
  have Y6 := Lib.hid y6
  have B6 := Lib.hid b6
  have HYM := Lib.hid hym
  clear z6 s6 o6 q6 y6 b6 hym
  go_wp2
  refine bodyPost_ret_by (results_cell_two rfl _ _ (w.heap.size + 1) 29 _ (0, 0) _ rfl (row4 (row_all S6.out _ _ _ _)) Try.underlying29 rfl (by kernel_rfl) rfl) rfl ?_
  have bl := below_all B6.out (g := w.heap.size + 1) (by omega) (.slice (some ⟨go, 0, none⟩) n co2) (.slice (some ⟨gg, 0, none⟩) n cg2) (.slice A6 (m + 1) c6) (.int .i64 f)
  have ol := (own_all O6.out (g := w.heap.size + 1) (fun e => by have := blk_eq e; omega) (.slice (some ⟨go, 0, none⟩) n co2) (.slice (some ⟨gg, 0, none⟩) n cg2) (.slice A6 (m + 1) c6) (.int .i64 f)).mono (base' := w.heap.size) (by omega)
  have ql := (own_all Q6.out (g := w.heap.size + 1) (fun e => by have := blk_eq e; omega) (.slice (some ⟨go, 0, none⟩) n co2) (.slice (some ⟨gg, 0, none⟩) n cg2) (.slice A6 (m + 1) c6) (.int .i64 f)).mono (base' := w.heap.size) (by omega)
  have yl := (own_all Y6.out (g := w.heap.size + 1) (fun e => by have := (Y6.out.lt _ e).1; omega) (.slice (some ⟨go, 0, none⟩) n co2) (.slice (some ⟨gg, 0, none⟩) n cg2) (.slice A6 (m + 1) c6) (.int .i64 f)).mono (base' := w.heap.size) hlo4
  refine ⟨_, fun k => w.heap.size ≤ k ∧ k < _, rfl, ?_, fun k hk => hk.2, fun k hk => .inr hk.1, bl⟩
  obtain ⟨Ay, cy, ey, hcy, fy⟩ := own_intsF yl HYM.out fun k hk => yl.lt k hk
  have hx := rat_of ol ql HOS.out HGS.out (T' := fun k => w.heap.size ≤ k ∧ k < _) (fun k hk => hk) (Ac := Ay) (cc := cy) (vc := .slice A6 (m + 1) c6) (by rw [HCL.out, ← ey]) (by rw [HCL.out]; exact hcy) (by rw [HCL.out]; exact fy) (f := f) (by rw [HFR.out]; exact HEF.out.symm)
  exact hx
end
end Go.Proofs.Ytoocdngaimneoaa
