/- Layer 6 (slots): what Open, Close, Places return, and how slots lie in memory behind them: contracts. -/
import Derived.Test.YtoocdngaimneoaaSlotsPut
import Derived.Test.YtoocdngaimneoaaShelf
namespace Go.Proofs.Ytoocdngaimneoaa
open Go.RowKit Go.Maps

theorem SetIs.put {D : DataW Unit} {n p : Nat} {s s' : St} (h : SetIs D n s) (ht : Maps.Tidy D) (hp : s.opn p = false) (hn : p < n) (e : s'.opn = upd s.opn p true) : SetIs (D.put (.int .i64 (p : Int)) (.agg [])) n s' := by
  refine ⟨fun x => ?_, ?_⟩
  · by_cases hx : x = (p : Int)
    · rw [hx, has_put_same ht.isMap (show WideAt.IsKeyLit (.int .i64 (p : Int)) from trivial), openI_nat, e, upd_same]
    · rw [has_put_other (fun e2 => hx (by injection e2)), h.has x]
      unfold openI
      by_cases h0 : 0 ≤ x
      · rw [e, upd_other (by omega)]
      · rw [decide_eq_false h0]; rfl
  · rw [size_put ht, h.has, openI_nat, hp, e, placesOf_put hp hn, h.size]
    simp
theorem SetIs.del {D : DataW Unit} {n p : Nat} {s s' : St} (h : SetIs D n s) (ht : Maps.Tidy D) (hp : s.opn p = true) (hn : p < n) (e : s'.opn = upd s.opn p false) : SetIs (D.del (.int .i64 (p : Int))) n s' := by
  refine ⟨fun x => ?_, ?_⟩
  · by_cases hx : x = (p : Int)
    · rw [hx, has_del_same, openI_nat, e, upd_same]
    · rw [has_del_other (fun e2 => hx (by injection e2)), h.has x]
      unfold openI
      by_cases h0 : 0 ≤ x
      · rw [e, upd_other (by omega)]
      · rw [decide_eq_false h0]; rfl
  · have h1 := size_del (k := .int .i64 (p : Int)) ht
    rw [h.has, openI_nat, hp] at h1
    have h2 := placesOf_del hp hn
    rw [e]
    have := h.size
    simp at h1
    omega
section
variable {w w' : World} {S : Nat → Prop} {v : Value} {n : Nat} {s : St}
def StepIn (w : World) (S : Nat → Prop) (v : Value) (n : Nat) (s : St) (r : Value) (e : Ending) (w' : World) : Prop := ∃ S', e = .returned r ∧ SlotsAt w' S' v n s ∧ Moved S w S' w'
theorem more_ne {r : Nat} (h : Ok n s) (hr : (placesOf n s.opn).length = r) (hm : s.more n = true) : r ≠ n := by
  intro e
  have := h.full.1 (hr.trans e)
  rw [this] at hm
  cases hm
/-- Open, by what take gives. -/
theorem open_by {g b : Nat} {vg vc : Value} {D : DataW Unit} {s1 : St} {p : Nat} (hm : MemAt w S g n vg vc b (gensOf s) s.closed D) (hd : SetIs D n s) (hok : Ok n s) (hsm : n ≤ 1048576) (hmore : s.more n = true) (hok1 : Ok n s1)
    (hp : s.opn p = false) (hpf : p < s1.fresh) (e1 : s1.opn = upd s.opn p true) (hg : s1.gen = s.gen) {q : Nat} (hq : s.gen p = q)
    (htake : Calls Try.prog 23 #[.pointer (some ⟨g, 0, none⟩)] w (TakeIn w S g n b D p (gensOf s1) s1.closed)) :
    Calls Try.prog 14 #[.pointer (some ⟨g, 0, none⟩)] w (StepIn w S (.pointer (some ⟨g, 0, none⟩)) n s1 (.tuple #[.int .i64 p, .int .i64 q, .bool true])) := by
  have hpn : p < n := by have := hok1.le; omega
  have hs : SlotsAt w S (.pointer (some ⟨g, 0, none⟩)) n s := ⟨⟨g, vg, vc, b, D, rfl, hm, hd⟩, hok, hsm⟩
  obtain ⟨r, er⟩ : ∃ r, (placesOf n s.opn).length = r := ⟨_, rfl⟩
  have hrn := more_ne hok er hmore
  have hle := placesOf_le n s.opn
  have hne : ((r : Int) == (n : Int)) = false := by simp; omega
  have HD := Lib.hid hd
  have HR := Lib.hid er
  have HK : Hid (keyOf Try.prog 3 (.int .i64 (p : Int)) = some (.int .i64 (p : Int))) := key_int ⟨by omega, by omega⟩
  have HT : Hid (Maps.Tidy D) := hm.mapp.tidy intKey
  have HL : Hid (Maps.size D < maxLen) := by show _ < _; rw [hd.size]; unfold maxLen; omega
  have HG1 : Hid ((gensOf s1)[p]? = some q) := by show _ = _; rw [gensOf_at hpf, hg, hq]
  have HP := Lib.hid hp
  have HE := Lib.hid e1
  clear hrn er hmore hd hm hp e1 hq hg
  go_enter Try.func14, Try.ntmps14
  go_wp2_with fail
  refine (len_at hs HR.out).mono ?_
  rintro e w1 ⟨rfl, rfl⟩
  go_wp2_with fail
  refine (count_at hs).mono ?_
  rintro e w1 ⟨rfl, rfl⟩
  clear hs
  go_wp2_with fail
  refine htake.mono ?_
  rintro e w1 ⟨vg1, vc1, S1, rfl, h1, t1⟩
  clear htake
  have c1 := h1.c1
  have c3 := h1.c3
  obtain ⟨k, cap, rfl, _, hc, _⟩ := h1.gcell HG1.out
  obtain ⟨lg, elg⟩ : ∃ lg, (gensOf s1).length = lg := ⟨_, rfl⟩
  have hpl : p < lg := by rw [← elg, gensOf_length]; exact hpf
  rw [elg] at c1
  have hir : 0 ≤ (p : Int) ∧ (p : Int) < (lg : Int) := by omega
  have H1 := Lib.hid h1
  clear h1 elg
  go_wp2_with (at_mapUpdate; refine wpList_mapUpdate_in _ rfl _ _ _ 46 rfl 3 53 intKey Try.underlying46 unitElem b _ D rfl H1.out.mapp HL.out _ _ _ rfl rfl HK.out (.agg []) [] unitElem_mk ?_; intro w3 hown3 hturn3)
  obtain ⟨h3, t3⟩ := H1.out.turned hown3 hturn3
  go_ret3
  exact ⟨S1, rfl, ⟨⟨g, _, _, b, _, rfl, h3, HD.out.put HT.out HP.out hpn HE.out⟩, hok1, hsm⟩, t1.trans (.of_turn t3)⟩
theorem open_full (h : SlotsAt w S v n s) (hm : s.more n = false) : Calls Try.prog 14 #[v] w fun e w' => e = .returned (.tuple #[.int .i64 0, .int .i64 0, .bool false]) ∧ w = w' := by
  have HR : Hid ((placesOf n s.opn).length = n) := h.ok.full.2 hm
  have hbb : ((n : Int) == (n : Int)) = true := by simp
  clear hm
  go_enter Try.func14, Try.ntmps14
  go_wp2_with fail
  refine (len_at h HR.out).mono ?_
  rintro e w1 ⟨rfl, rfl⟩
  go_wp2_with fail
  refine (count_at h).mono ?_
  rintro e w1 ⟨rfl, rfl⟩
  go_wp2
  go_ret3
  exact ⟨rfl, rfl⟩
theorem open_at (h : SlotsAt w S v n s) : Calls Try.prog 14 #[v] w (StepIn w S v n (s.openO n) (.tuple #[.int .i64 (s.placeO n : Nat), .int .i64 (s.genO n : Nat), .bool (s.more n)])) := by
  cases hm : s.more n with
  | false =>
    have e1 : s.openO n = s := by unfold St.openO; rw [hm]; rfl
    have e2 : s.placeO n = 0 := by unfold St.placeO; rw [hm]; rfl
    have e3 : s.genO n = 0 := by unfold St.genO; rw [hm]; rfl
    rw [e1, e2, e3]
    exact (open_full h hm).mono fun e w' ⟨h1, h2⟩ => by subst h2; exact ⟨S, h1, h, .refl S w⟩
  | true =>
    have hok := h.ok
    obtain ⟨⟨g, vg, vc, b, D, rfl, hmem, hd⟩, _, hsm⟩ := h
    have e3 : s.genO n = s.gen (s.placeO n) := by unfold St.genO; rw [hm]; rfl
    rw [e3]
    by_cases hc : 0 < s.closed.length
    · have e1 : s.openO n = s.again := by unfold St.openO; rw [hm, if_pos rfl, if_pos hc]
      have e2 : s.placeO n = lastOf s.closed := by unfold St.placeO; rw [hm, if_pos rfl, if_pos hc]
      rw [e1, e2]
      have hcl : s.closed.length ≤ 1048576 := by have := hok.count; have := hok.le; omega
      exact open_by (p := lastOf s.closed) hmem hd hok hsm hm (hok.again hc) (St.again_not hok hc) (hok.shut _ (lastOf_mem hc)).1 rfl rfl rfl (take_again hmem hc hcl)
    · have hc0 : s.closed = [] := List.eq_nil_of_length_eq_zero (by omega)
      have e1 : s.openO n = s.next := by unfold St.openO; rw [hm, if_pos rfl, if_neg hc]
      have e2 : s.placeO n = s.fresh := by unfold St.placeO; rw [hm, if_pos rfl, if_neg hc]
      have hf : s.fresh < n := by
        unfold St.more at hm
        simpa [hc] using hm
      rw [e1, e2]
      have ht := take_next (w := w) (S := S) (g := g) (n := n) (vg := vg) (vc := vc) (b := b) (G := gensOf s) (D := D) (by rw [← hc0]; exact hmem) (by rw [gensOf_length]; omega)
      rw [gensOf_length, ← gensOf_next hok, ← hc0] at ht
      exact open_by (p := s.fresh) hmem hd hok hsm hm (hok.next hf) (St.next_not hok) (Nat.lt_succ_self _) rfl rfl rfl ht

/-! ### Close -/
theorem close_no (h : SlotsAt w S v n s) {x y : Int} (hx : InInt x) (hr : rightI s x y = false) : Calls Try.prog 12 #[v, .int .i64 x, .int .i64 y] w fun e w' => e = .returned (.bool false) ∧ Below w.heap.size w w' := by
  have hnot := not_any
  have HR := Lib.hid hr
  clear hr
  go_enter Try.func12, Try.ntmps12
  go_wp2_with fail
  refine (right_at h hx HR.out).mono ?_
  rintro e w1 ⟨rfl, b1⟩
  go_wp2
  go_ret
  exact ⟨rfl, b1⟩
set_option maxHeartbeats 800000 in
theorem close_yes {p : Nat} (h : SlotsAt w S v n s) (hp : s.opn p = true) (hlow : s.gen p < 4611686018427387904) : Calls Try.prog 12 #[v, .int .i64 p, .int .i64 (s.gen p : Nat)] w (StepIn w S v n (s.shutP p) (.bool true)) := by
  have hnot := not_any
  have hpf := h.ok.below p hp
  have hfn := h.ok.le
  have hsm := h.small
  have hcn := h.ok.count
  have hok1 := h.ok.shutP hp
  have hx : InInt (p : Int) := ⟨by omega, by omega⟩
  have HR : Hid (rightI s (p : Int) (s.gen p : Nat) = true) := by show _ = _; unfold rightI openI; simp [hp]
  have HK : Hid (keyOf Try.prog 3 (.int .i64 (p : Int)) = some (.int .i64 (p : Int))) := key_int hx
  have HG : Hid ((gensOf s)[p]? = some (s.gen p)) := gensOf_at hpf
  have HG1 : Hid (gensOf (s.shutP p) = (gensOf s).set p (s.gen p + 1)) := gensOf_shutP hpf
  have HP := Lib.hid hp
  obtain ⟨i0, hi0, hz0, hz1, hz2⟩ := info_parts int_info
  have HI := Lib.hid hi0
  have HZ0 := Lib.hid hz0
  have HZ1 := Lib.hid hz1
  have HZ2 := Lib.hid hz2
  have hcl : s.closed.length ≤ 1048576 := by omega
  clear hp hi0 hz0 hz1 hz2 hcn
  generalize s.gen p = q at *
  go_enter Try.func12, Try.ntmps12
  go_wp2_with fail
  refine (right_at h hx HR.out).mono ?_
  rintro e w1 ⟨rfl, b1⟩
  have h1 := h.below b1
  obtain ⟨⟨g, vg, vc, b, D, rfl, hm, hd⟩, _, _⟩ := h1
  have HT : Hid (Maps.Tidy D) := hm.mapp.tidy intKey
  have c3 := hm.c3
  have HM := Lib.hid hm
  have HD := Lib.hid hd
  obtain ⟨lg, elg⟩ : ∃ lg, (gensOf s).length = lg := ⟨_, rfl⟩
  have hpl : p < lg := by rw [← elg, gensOf_length]; exact hpf
  have hir : 0 ≤ (p : Int) ∧ (p : Int) < (lg : Int) := by omega
  have HLG := Lib.hid elg
  have hq0 : 0 ≤ (q : Int) ∧ (q : Int) < 4611686018427387904 := by omega
  clear hm hd h elg
  go_wp2_with (first
    | (at_delete; refine wpList_delete_own _ rfl _ _ 46 3 rfl 53 intKey Try.underlying46 unitElem b _ D rfl HM.out.mapp _ _ rfl HK.out ?_
       intro w2 hown2 hturn2
       have ht2 := HM.out.turned hown2 hturn2
       obtain ⟨kg, capg, rfl, _, hcq, hfq⟩ := ht2.1.gcell HG.out
       have d1 := ht2.1.c1
       rw [HLG.out] at d1
       have H2 := Lib.hid ht2
       have e3 : ((q + 1 : Nat) : Int) = (q : Int) + 1 := by omega
       have hm3 := ht2.1.setG (p := p) (y := q + 1)
       rw [e3] at hm3
       have d2 := hm3.c2
       have H3 := Lib.hid hm3
       have S3 : Hid (Turn S w2 (w2.setCell ⟨kg, p, none⟩ (.int .i64 ((q : Int) + 1)))) := Turn.set _ _ _ (ht2.1.svg kg rfl)
       clear ht2 hown2 hturn2 hm3 e3 c3)
    | (at_builtin; refine wpList_append_own_at _ rfl _ _ 27 rfl 0 3 i0 (.int .i64 0) 1 8 Try.underlying27 HI.out HZ0.out HZ1.out HZ2.out rfl (by decide) vc s.closed.length _ rfl (H3.out.clos.alloc _) ⟨w2.heap.size, 0, none⟩ 1 1 [.int .i64 p] rfl rfl (by have := new_one (w2.setCell ⟨kg, p, none⟩ (.int .i64 ((q : Int) + 1))) (.int .i64 p) 3; simpa using this) (one_int _ _) (by unfold maxLen; omega) (by omega) (by omega) ?_
       intro v1 w4 hown4 hgr4 _ hat4
       have hE := H3.out.pushC ((Below.refl _ _).alloc (Nat.le_refl _) _) hown4 hgr4 hat4
       have hq := row_grown (H3.out.head.alloc (.cells #[.int .i64 p] 3)) hgr4 H3.out.cv.symm
       have k1 := hq.cell (i := 2) (by omega)
       have q1 := hq.frozen 2
       obtain ⟨A4, cc4, rfl, _⟩ := own_len hown4
       have H4 := Lib.hid hE
       clear hq hE hgr4 hown4 hat4))
  go_ret
  have h5 := H4.out.1
  rw [← HG1.out] at h5
  exact ⟨_, rfl, ⟨⟨g, _, _, b, _, rfl, h5, HD.out.del HT.out HP.out (by omega) rfl⟩, hok1, hsm⟩, ((Moved.of_below S b1).trans (.of_turn (H2.out.2.trans S3.out))).trans H4.out.2⟩
theorem close_at (h : SlotsAt w S v n s) {x y : Int} (hx : InInt x) {m : Nat} (hl : Low m s) (hm : m < 4611686018427387904) : Calls Try.prog 12 #[v, .int .i64 x, .int .i64 y] w (StepIn w S v n (closeI s x y) (.bool (rightI s x y))) := by
  cases hr : rightI s x y with
  | false =>
    have e : closeI s x y = s := by unfold closeI; rw [hr]; rfl
    rw [e]
    exact (close_no h hx hr).mono fun e w' ⟨h1, h2⟩ => ⟨S, h1, h.below h2, .of_below S h2⟩
  | true =>
    have e : closeI s x y = s.shutP x.toNat := by unfold closeI; rw [hr]; rfl
    rw [e]
    obtain ⟨p, rfl, hp, rfl⟩ := rightI_true hr
    rw [Int.toNat_natCast]
    exact close_yes h hp (Nat.lt_of_le_of_lt (hl p) hm)
end
end Go.Proofs.Ytoocdngaimneoaa
