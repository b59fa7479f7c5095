/- Layer 8 (spans): what the document's own Merge returns: a contract. -/
import Derived.Test.YtppiibdeigjcjaaSpansMerge
import Derived.Deep.RegionHeld3
namespace Go.Proofs.Ytppiibdeigjcjaa
open Go.RowKit

theorem merge_two {d r : List Sp} {x y u t : Int} : (d ++ (x, y) :: (u, t) :: r)[d.length]? = some (x, y) ∧ (d ++ (x, y) :: (u, t) :: r)[d.length + 1]? = some (u, t) := by
  constructor
  · simp
  · rw [List.getElem?_append_right (by omega)]; simp
def lenOf : Value → Nat
  | .slice _ n _ => n
  | _ => 0
theorem head_mono {w : World} {base base' : Nat} {v : Value} {xs : List Sp} (h : Head w base v xs) (hb : base' ≤ base) : Head w base' v xs := ⟨h.val.imp id fun ho => ho.mono hb⟩
theorem merge_parts {d r : List Sp} {a b : Sp} : (d ++ a :: b :: r).take d.length = d ∧ (d ++ a :: b :: r).drop (d.length + 2) = r := by
  constructor
  · simp
  · rw [← List.drop_drop]; simp
/-- What the loop has: d is done, (x, y) is the one at hand, r what is behind it. -/
structure MSt (l : List Sp) (d : List Sp) (x y : Int) (r : List Sp) : Prop where
  eq : d ++ mergeFrom (x, y) r = mergeL l
  ok : 0 ≤ x ∧ 1 ≤ y ∧ x + y ≤ 9223372036854775807 ∧ ordB (x + y) r = true
  ints : ∀ p ∈ d, InInt p.1 ∧ InInt p.2
set_option maxHeartbeats 3200000 in
theorem rmerge_is {w : World} {v : Value} {l : List Sp} {b : Bool} (h : SpansIn w v l) (hs : l.length ≤ 1048576) (hb : ordB 0 l = b) : Calls Try.prog 25 #[v] w (MadeB w (mergeV l b) b) := by
  have h0 := h
  obtain ⟨⟨A, c, rfl, h1, h2, h3⟩, hi⟩ := h
  have hnot := not_any
  obtain ⟨n, en⟩ : ∃ n, l.length = n := ⟨_, rfl⟩
  have RS : Hid (Calls Try.prog 14 #[.slice A l.length c] w fun e w' => e = .returned (.bool b) ∧ Below w.heap.size w w') := rright_spans h0 hb
  rw [en] at RS hs ⊢
  have H3 := Lib.hid h3
  have HN := Lib.hid en
  have HO := Lib.hid hb
  have HLR : Hid ((mergeL l).length ≤ 1048576) := by have := mergeL_length l; show _ ≤ _; omega
  clear h0 h1 h2 h3 hi en hb
  go_enter Try.func25, Try.ntmps25
  go_wp2_with fail
  refine RS.out.mono ?_
  rintro e w1 ⟨rfl, b1⟩
  cases b with
  | false =>
    go_wp2
    go_ret2
    exact ⟨_, rfl, SpansIn.nil _, b1⟩
  | true =>
    have HIR : Hid (∀ p ∈ mergeL l, InInt p.1 ∧ InInt p.2) := merge_ints (Int.le_refl 0) (mergeL_ok HO.out).1
    have b2 := b1.alloc b1.size (.cells #[] 24)
    go_wp2_with (at_builtin; refine wpList_head (by rfl) (.tmp 10) (.tmp 11) (by rfl) (base := w.heap.size) (v := _) (xs := []) (by rfl) ⟨.inl ⟨_, rfl, .inl rfl⟩⟩ b2.size A n c (zs := l) (by rfl) (H3.out.below b2) HN.out.symm (by have := HN.out; simp; omega) ?_; intro v2 w2 hd2 hb2 _)
    rw [List.nil_append] at hd2
    have b3 := b2.trans hb2
    clear b1 b2 hb2
    go_loopw [4, 5] (fun u i wr => ∃ (k : Nat) (out : List Sp), i = .int .i64 k ∧ Head wr w.heap.size u out ∧ Below w.heap.size w wr ∧ out.length ≤ n ∧ Hid ((∃ x y r d, out = d ++ (x, y) :: r ∧ d.length = k ∧ MSt l d x y r) ∨ (out = [] ∧ k = 0 ∧ l = []))) (fun u i _ => lenOf u - (intOf i).toNat)
    case atStart =>
      refine ⟨0, l, rfl, hd2, b3, by rw [HN.out]; exact Nat.le_refl _, ?_⟩
      show _ ∨ _
      cases hl : l with
      | nil => exact .inr ⟨rfl, rfl, rfl⟩
      | cons p r =>
        have ho := HO.out
        rw [hl] at ho
        obtain ⟨a1, a2⟩ := ordB_cons.1 ho
        have a3 := okB_iff.1 a1
        exact .inl ⟨p.1, p.2, r, [], rfl, rfl, ⟨by rw [hl] at *; rfl, ⟨a3.1, a3.2.1, a3.2.2, a2⟩, fun _ h => by cases h⟩⟩
    case round =>
      clear b3 hd2
      obtain ⟨k, out, rfl, hd, hb, hol, hst⟩ := hrel
      obtain ⟨m, em⟩ : ∃ m, out.length = m := ⟨_, rfl⟩
      obtain ⟨B, cb, rfl, hcb, hcm, hpr⟩ := hd.slice (by omega)
      have HD : Hid (Head wr w.heap.size (.slice B m cb) out) := by rw [← em]; exact hd
      rw [em] at hcb hol ⊢
      have HEM := Lib.hid em
      clear hd em
      by_cases hk : k + 1 < m
      · obtain ⟨x, y, u, t, r, d, eo, ek, HM⟩ : ∃ x y u t r d, out = d ++ (x, y) :: (u, t) :: r ∧ d.length = k ∧ Hid (MSt l d x y ((u, t) :: r)) := by
          rcases hst.out with ⟨x, y, r, d, e1, e2, e3⟩ | ⟨e1, _⟩
          · cases r with
            | nil =>
              have := HEM.out
              rw [e1, List.length_append] at this
              simp at this
              omega
            | cons q r => exact ⟨x, y, q.1, q.2, r, d, e1, e2, e3⟩
          · have := HEM.out
            rw [e1] at this
            simp at this
            omega
        subst eo
        have HEK := Lib.hid ek
        obtain ⟨pb, off, rfl, hc⟩ := hpr.all (by have := HEM.out; omega)
        have HPR := Lib.hid hpr
        have hk1 := (merge_two (d := d) (r := r) (x := x) (y := y) (u := u) (t := t)).1
        have hk2 := (merge_two (d := d) (r := r) (x := x) (y := y) (u := u) (t := t)).2
        rw [ek] at hk1 hk2
        have HSC : Hid (∀ W, Below wr.heap.size wr W → W.cell? ⟨pb, off + k * 2, none⟩ = some (.int .i64 x) ∧ W.cell? ⟨pb, off + k * 2 + 1, none⟩ = some (.int .i64 y) ∧ W.cell? ⟨pb, off + (k + 1) * 2, none⟩ = some (.int .i64 u) ∧ W.cell? ⟨pb, off + (k + 1) * 2 + 1, none⟩ = some (.int .i64 t)) := fun W hW => ⟨(hc W hW k _ hk1).1, (hc W hW k _ hk1).2, (hc W hW (k + 1) _ hk2).1, (hc W hW (k + 1) _ hk2).2⟩
        have K0 : Hid (0 ≤ x ∧ 1 ≤ y ∧ x + y ≤ u ∧ 1 ≤ t ∧ u + t ≤ 9223372036854775807) := by
          obtain ⟨a1, a2, a3, a4⟩ := HM.out.ok
          have a5 := okB_iff.1 (ordB_cons.1 a4).1
          exact ⟨a1, a2, a5.1, a5.2.1, a5.2.2⟩
        have HMM : Hid (d ++ (if x + y = u then mergeFrom (x, y + t) r else (x, y) :: mergeFrom (u, t) r) = mergeL l) := HM.out.eq
        have c0 : ∀ q : From wr, q.W.cell? ⟨pb, off + k * 2, none⟩ = some (.int .i64 x) := fun q => (HSC.out q.W q.bel).1
        have c1 : ∀ q : From wr, q.W.cell? ⟨pb, off + k * 2 + 1, none⟩ = some (.int .i64 y) := fun q => (HSC.out q.W q.bel).2.1
        have c2 : ∀ q : From wr, q.W.cell? ⟨pb, off + (k + 1) * 2, none⟩ = some (.int .i64 u) := fun q => (HSC.out q.W q.bel).2.2.1
        have hw1 : IntKind.i64.wrap ((k : Int) + 1) = (k : Int) + 1 := i64_is (by omega)
        have hw2 : IntKind.i64.wrap (u - x) = u - x := i64_is (by have := K0.out; omega)
        have hik : 0 ≤ (k : Int) ∧ (k : Int) < (m : Int) := by omega
        have hik1 : 0 ≤ (k : Int) + 1 ∧ (k : Int) + 1 < (m : Int) := by omega
        have hik2 : ((k : Int) + 1).toNat = k + 1 := by omega
        have hn1 : decide ((k : Int) + 1 < (m : Int)) = true := decide_eq_true (by omega)
        have hn2 : decide (k + 1 < m) = true := decide_eq_true hk
        have hb1 := Below.refl wr.heap.size wr
        clear hc hk1 hk2 ek hpr hst
        by_cases hxu : x + y = u
        · have hd : (u - x == y) = true := by simp; omega
          go_wp2
          refine wp_region_from (w0 := wr) (by kernel_rfl) (by kernel_rfl) hb1 ?_
          repeat (go_big_quiet_step (fail))
          refine wpQuiet_nil ?_
          intro wq hw'
          obtain ⟨⟨wy, hq⟩, hw''⟩ := hw'
          subst hw''
          go_upto_region 7 with fail
          have hbq := step_below hb hq
          have HD2 := Lib.hid (HD.out.below hq)
          have hw3 : IntKind.i64.wrap (y + t) = y + t := i64_is (by have := K0.out; omega)
          have S7 : Hid (∀ W, Below wq.heap.size wq W → W.cell? ⟨pb, off + k * 2, none⟩ = some (.int .i64 x) ∧ W.cell? ⟨pb, off + k * 2 + 1, none⟩ = some (.int .i64 y) ∧ W.cell? ⟨pb, off + (k + 1) * 2 + 1, none⟩ = some (.int .i64 t)) := fun W hW => by
            obtain ⟨a1, a2, _, a4⟩ := HSC.out W (step_below hq hW)
            exact ⟨a1, a2, a4⟩
          clear c0 c1 c2
          obtain ⟨c0, c1, c2⟩ := S7.out _ (Below.refl _ _)
          go_region_held3 (fun X => X.cell? ⟨pb, off + k * 2, none⟩ = some (.int .i64 x) ∧ X.cell? ⟨pb, off + k * 2 + 1, none⟩ = some (.int .i64 y) ∧ X.cell? ⟨pb, off + (k + 1) * 2 + 1, none⟩ = some (.int .i64 t))
            (first
              | exact S7.out _ (drew_below wq)
              | exact S7.out _ (step_below (drew_below wq) (new_below _ _))
              | exact S7.out _ ((step_below (drew_below wq) (new_below _ _)).setCell (Nat.le_refl _) _)
              | exact S7.out _ (((step_below (drew_below wq) (new_below _ _)).setCell (Nat.le_refl _) _).setCell (Nat.le_refl _) _))
            (first | fail)
          have n7 := two_lit wq (.int .i64 x) (.int .i64 (y + t)) 24
          have b7 : Below wq.heap.size wq (wq.alloc (.cells #[.int .i64 x, .int .i64 (y + t)] 24)).drew := step_below (new_below wq _) (drew_below _)
          have n8 : (wq.alloc (.cells #[.int .i64 x, .int .i64 (y + t)] 24)).drew.rowIs wq.heap.size 24 2 (twoF (.int .i64 x) (.int .i64 (y + t))) := n7
          have hgs : wq.heap.size < (wq.alloc (.cells #[.int .i64 x, .int .i64 (y + t)] 24)).drew.heap.size := n8.lt
          clear c0 c1 c2 n7
          generalize (wq.alloc (.cells #[.int .i64 x, .int .i64 (y + t)] 24)).drew = W7 at *
          obtain ⟨e0, e1⟩ := two_any n8 (Below.refl _ _)
          simp only [twoF] at e0 e1
          have b8 := step_below hq b7
          have hbw := step_below hbq b7
          clear b7
          generalize wq.heap.size = gs at *
          go_upto_region 8 with fail
          have HP7 := Lib.hid (HPR.out.below b8)
          have HPd : Hid (PairsAt W7 (some ⟨pb, off, none⟩) d) := by
            have := HP7.out.to k
            rwa [← HEK.out, merge_parts.1] at this
          have hml : m = k + (r.length + 2) := by have := HEM.out; rw [List.length_append, HEK.out] at this; simp at this; omega
          have HPr : Hid (PairsAt W7 (fromA (some ⟨pb, off, none⟩) cb (k + 2)) r) := by
            have := HP7.out.from_ (c := cb) (k := k + 2) (by have := HEM.out; omega)
            rwa [← HEK.out, merge_parts.2, HEK.out] at this
          have hct1 := fun W => spans_to W (some ⟨pb, off, none⟩) m cb (k : Int) k rfl (by omega)
          have hct2 := fun W => spans_from W (some ⟨pb, off, none⟩) m cb ((k : Int) + 2) (k + 2) (by omega) (by omega)
          have hw4 : IntKind.i64.wrap ((k : Int) + 2) = (k : Int) + 2 := i64_is (by omega)
          have HRL : Hid (r.length = m - (k + 2)) := by show _ = _; omega
          have HLN : Hid (([] : List Sp).length + d.length ≤ 4194304 ∧ ([] ++ d).length + [(x, y + t)].length ≤ 4194304 ∧ ([] ++ d ++ [(x, y + t)]).length + r.length ≤ 4194304) := by
            have a1 := HEK.out
            refine ⟨by simp; omega, by simp; omega, by simp; omega⟩
          have HM3 : Hid (MSt l d x (y + t) r) := by
            obtain ⟨a1, a2, a3, a4⟩ := HM.out.ok
            have a5 := ordB_cons.1 a4
            have k0 := K0.out
            have := HMM.out
            rw [if_pos hxu] at this
            exact ⟨this, ⟨a1, by omega, by omega, by rw [show x + (y + t) = u + t by omega]; exact a5.2⟩, HM.out.ints⟩
          have HBW := Lib.hid hbw
          have HML := Lib.hid hml
          have K7 : Hid (∀ W W', (Below W7.heap.size W7 W ∧ W.cell? ⟨gs, 0, none⟩ = some (.int .i64 x) ∧ W.cell? ⟨gs, 1, none⟩ = some (.int .i64 (y + t))) → Below W7.heap.size W W' → (Below W7.heap.size W7 W' ∧ W'.cell? ⟨gs, 0, none⟩ = some (.int .i64 x) ∧ W'.cell? ⟨gs, 1, none⟩ = some (.int .i64 (y + t)))) := fun W W' h hb => by
            have h1 := h.1.trans hb
            exact ⟨h1, (two_any n8 h1).1, (two_any n8 h1).2⟩
          have S0 : Below W7.heap.size W7 W7.drew ∧ W7.drew.cell? ⟨gs, 0, none⟩ = some (.int .i64 x) ∧ W7.drew.cell? ⟨gs, 1, none⟩ = some (.int .i64 (y + t)) := ⟨drew_below W7, e0, e1⟩
          clear HPR HP7 HSC S7 K0 HMM hb1 hq hb hbq b8 hbw hd hml hxu HD HD2 hw1 hw2 hw3 hn1 hn2 hik hik1 hik2 HM hk
          go_region_held3 (fun X => Below W7.heap.size W7 X ∧ X.cell? ⟨gs, 0, none⟩ = some (.int .i64 x) ∧ X.cell? ⟨gs, 1, none⟩ = some (.int .i64 (y + t)))
            (first
              | with_reducible assumption
              | (rename Below W7.heap.size W7 _ ∧ _ => hS
                 exact K7.out _ _ hS ((Below.refl _ _).alloc hS.1.size _)))
            (first
              | (refine step_head (by rfl) (.tmp 54) (.tmp 57) (by rfl) (base := W7.heap.size) (v := _) (xs := []) (by rfl) ⟨.inl ⟨_, rfl, .inl rfl⟩⟩ (by rename Below W7.heap.size W7 _ ∧ _ => hS; exact hS.1.size) (some ⟨pb, off, none⟩) k cb (zs := d) (by rfl) (by rename Below W7.heap.size W7 _ ∧ _ => hS; exact HPd.out.below hS.1) HEK.out.symm HLN.out.1 ?_
                 intro v1 w1 hh1 hb1 hg1
                 rename Below W7.heap.size W7 _ ∧ _ => hS
                 have hS1 := K7.out _ _ hS hb1)
              | (refine step_head (by rfl) (.tmp 58) (.tmp 60) (by rfl) (base := W7.heap.size) (v := v1) (xs := [] ++ d) (by rfl) (by first | exact hh1 | exact hh1.below (new_below _ _)) (by rename Below W7.heap.size W7 _ ∧ _ => hS; exact hS.1.size) _ 1 1 (zs := [(x, y + t)]) (by rfl)
                  (by first
                    | exact one_pairs' _ x (y + t) (by first | rfl | simp)
                    | exact pairs_grown (one_pairs' (W7.drew.alloc (.cells #[] 24)) x (y + t) (by simp)) hg1 (fun b off e => by injection e with e; injection e with e1; subst e1; simp [Value.ownBlock])
                    | exact pairs_grown ((one_pairs' W7.drew x (y + t) (by rfl)).below (new_below _ _)) hg1 (fun b off e => by injection e with e; injection e with e1; subst e1; simp [Value.ownBlock]))
                  rfl HLN.out.2.1 ?_
                 intro v2 w2 hh2 hb2 hg2
                 rename Below W7.heap.size W7 _ ∧ _ => hS
                 have hS2 := K7.out _ _ hS hb2)
              | (refine step_head (by rfl) (.tmp 61) (.tmp 65) (by rfl) (base := W7.heap.size) (v := v2) (xs := [] ++ d ++ [(x, y + t)]) (by rfl) hh2 (by rename Below W7.heap.size W7 _ ∧ _ => hS; exact hS.1.size) (fromA (some ⟨pb, off, none⟩) cb (k + 2)) (m - (k + 2)) (cb - (k + 2)) (zs := r) (by rfl) (by rename Below W7.heap.size W7 _ ∧ _ => hS; exact HPr.out.below hS.1) HRL.out.symm HLN.out.2.2 ?_
                 intro v3 w3 hh3 hb3 hg3
                 rename Below W7.heap.size W7 _ ∧ _ => hS
                 have hS3 := K7.out _ _ hS hb3))
          all_goals
            have HH : Hid (Head w3 w.heap.size v3 (d ++ (x, y + t) :: r)) := by
              have := head_mono hh3 HBW.out.size
              rwa [List.nil_append, List.append_assoc] at this
            have B3 : Hid (Below w.heap.size w w3) := HBW.out.trans (hS3.1.mono HBW.out.size)
            have hl3 : (d ++ (x, y + t) :: r).length = k + 1 + r.length := by have := HEK.out; simp; omega
            obtain ⟨A3, c3, rfl, _⟩ := HH.out.slice (by have := HML.out; omega)
            have HL3 := Lib.hid hl3
            clear hh3 hS3 hb3 hg3 hl3
            go_wp2
            go_roundw
            case rel => exact ⟨k, _, rfl, HH.out, B3.out, by have := HL3.out; have := HML.out; omega, .inl ⟨x, y + t, r, d, rfl, HEK.out, HM3.out⟩⟩
            case measure => (have a1 := HEK.out; have a2 := HML.out; simp [intOf, lenOf]; omega)
        · have hd : (u - x == y) = false := by simp; omega
          have HM3 : Hid (MSt l (d ++ [(x, y)]) u t r) := by
            obtain ⟨a1, a2, a3, a4⟩ := HM.out.ok
            have a5 := ordB_cons.1 a4
            have k0 := K0.out
            have := HMM.out
            rw [if_neg hxu] at this
            refine ⟨by rw [List.append_assoc]; exact this, ⟨by omega, k0.2.2.2.1, k0.2.2.2.2, a5.2⟩, fun p hp => ?_⟩
            rcases List.mem_append.1 hp with hp | hp
            · exact HM.out.ints p hp
            · rw [List.mem_singleton.1 hp]
              exact ⟨⟨by simp only; omega, by simp only; omega⟩, ⟨by simp only; omega, by simp only; omega⟩⟩
          go_wp2
          refine wp_region_from (w0 := wr) (by kernel_rfl) (by kernel_rfl) hb1 ?_
          repeat (go_big_quiet_step (fail))
          refine wpQuiet_nil ?_
          intro wq hw'
          obtain ⟨⟨wy, hq⟩, hw''⟩ := hw'
          subst hw''
          go_wp2
          go_roundw
          case rel => exact ⟨k + 1, _, by go_num, HD.out.below hq, step_below hb hq, by rw [HEM.out]; exact hol, .inl ⟨u, t, r, d ++ [(x, y)], by simp, by rw [List.length_append, HEK.out]; rfl, HM3.out⟩⟩
          case measure => (simp [intOf, lenOf]; try omega)
      · have hn1 : decide ((k : Int) + 1 < (m : Int)) = false := decide_eq_false (by omega)
        have hn2 : decide (k + 1 < m) = false := decide_eq_false hk
        have HL3 : Hid (out = mergeL l) := by
          rcases hst.out with ⟨x, y, r, d, e1, e2, e3⟩ | ⟨e1, _, e3⟩
          · have hr : r = [] := by
              have := HEM.out
              rw [e1, List.length_append, List.length_cons] at this
              exact List.eq_nil_of_length_eq_zero (by omega)
            have := e3.eq
            rw [hr] at this e1
            rw [e1]; exact this
          · rw [e1, e3]; rfl
        have hd3 := HD.out
        rw [HL3.out] at hd3
        have hw1 : IntKind.i64.wrap ((k : Int) + 1) = (k : Int) + 1 := i64_is (by
          have hkn : k ≤ m := by
            rcases hst.out with ⟨x, y, r, d, e1, e2, e3⟩ | ⟨e1, e2, e3⟩
            · have := HEM.out
              rw [e1, List.length_append] at this
              omega
            · omega
          omega)
        go_wp2
        go_ret2
        exact ⟨_, rfl, hd3.spans (by have := HLR.out; omega) HIR.out, hb⟩
end Go.Proofs.Ytppiibdeigjcjaa
