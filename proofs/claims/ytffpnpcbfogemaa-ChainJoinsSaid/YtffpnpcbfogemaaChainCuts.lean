/- What the document's own answers for layer 5 (copyholdref05) make of lists, with parts of rows: contracts of Drop, Move, Join. -/
import Derived.Test.YtffpnpcbfogemaaChainDocs
import Derived.Test.YtffpnpcbfogemaaBaseStep
import Derived.Deep.Cut
namespace Go.Proofs.Ytffpnpcbfogemaa
open Go.RowKit
variable {w w' : World} {L N : Nat} {lo hi : Nat} {v : Value} {m : Nat → List Nat}

/-! ### Drop -/
set_option maxHeartbeats 1600000 in
theorem rdrop_yes (h : LsAt w lo v L m) (hlo : lo ≤ w.heap.size) (hI : Inv L N m) (hL : L ≤ 1048576) (hN : N ≤ 1048576) {i x : Nat} {p q : List Nat} (e : m i = p ++ x :: q) :
    Calls Try.prog 9 #[v, .int .i64 x] w (RLsB w lo L (upd m i (p ++ q)) true) := by
  obtain ⟨i0, hi0, hz0, hz1, hz2⟩ := info_parts int_info
  have HI0 := Lib.hid hi0
  have HZ0 := Lib.hid hz0
  have HZ1 := Lib.hid hz1
  have HZ2 := Lib.hid hz2
  have hil : i < L := hI.il (x := x) (by rw [e]; simp)
  have hir : 0 ≤ (i : Int) ∧ (i : Int) < (L : Int) := by omega
  have hml := hI.len i
  have hn := hI.nodup i
  rw [e] at hn
  have H := Lib.hid h
  have HS : Hid (Spot m (x : Int) (i : Int) (lst p (-1)) (hd q (-1))) := .at_ i p x q rfl e
  have HP : Hid (PlaceIs (m i) (x : Int) (p.length : Int)) := by show PlaceIs _ _ _; rw [e]; exact place_cut (nodup_cut hn).2.1
  have HI := Lib.hid hI
  obtain ⟨b, c, A, d, rfl, hc, hd, hl⟩ := h.at_ hil
  obtain ⟨b2, off, rfl, hlt2, hcells⟩ : ∃ b2 off, A = some ⟨b2, off, none⟩ ∧ b2 < w.heap.size ∧ ∀ (k : Nat) (z : Int), (ints (m i))[k]? = some z → w.cell? ⟨b2, off + k, none⟩ = some (.int .i64 z) := by
    obtain ⟨_, _, e', _, hia, _⟩ := hl
    injection e' with e1 e2 e3
    subst e1
    rcases hia with h0 | ⟨b2, off, h1, h2, h3⟩
    · rw [e] at h0; simp [ints] at h0
    · exact ⟨b2, off, h1, h2, h3⟩
  have IP : IntsAt w (some ⟨b2, off, none⟩) (ints p) := .inr ⟨b2, off, rfl, hlt2, fun k z hz => hcells k z (by
    rw [e]
    unfold ints at hz ⊢
    rw [List.map_append, List.getElem?_append_left (List.getElem?_eq_some_iff.1 hz).1]
    exact hz)⟩
  have IQ : IntsAt w (some ⟨b2, if d = p.length + 1 then off else off + (p.length + 1), none⟩) (ints q) := by
    by_cases hq : q = []
    · subst hq; exact .inl rfl
    · have hql : 0 < q.length := List.length_pos_iff.2 hq
      have : (m i).length = p.length + q.length + 1 := by rw [e]; simp; omega
      rw [if_neg (by omega)]
      refine .inr ⟨b2, off + (p.length + 1), rfl, hlt2, fun k z hz => ?_⟩
      rw [show off + (p.length + 1) + k = off + (p.length + 1 + k) by omega]
      refine hcells (p.length + 1 + k) z ?_
      rw [e]
      unfold ints at hz ⊢
      rw [List.map_append, List.getElem?_append_right (by rw [List.length_map]; omega), List.length_map, show p.length + 1 + k - p.length = k + 1 by omega, List.map_cons, List.getElem?_cons_succ]
      exact hz
  have HL := Lib.hid hl
  have hlen : (m i).length = p.length + q.length + 1 := by rw [e]; simp; omega
  have hne : m i ≠ [] := by rw [e]; simp
  have HLe : Hid ((m i).length ≤ 1048576) := by show _ ≤ _; omega
  obtain ⟨n, en⟩ : ∃ n, (m i).length = n := ⟨_, rfl⟩
  obtain ⟨k, ek⟩ : ∃ k, p.length = k := ⟨_, rfl⟩
  rw [en] at hc HL hd hlen hml
  rw [ek] at HP hlen IQ
  have hkn : k < n := by omega
  have HN := Lib.hid en
  have HK := Lib.hid ek
  have HE := Lib.hid e
  have hwr : IntKind.i64.wrap ((k : Int) + 1) = (k : Int) + 1 := IntWalk.i64_in _ (by omega)
  have HLN := Lib.hid hlen
  obtain ⟨off2, eo⟩ : ∃ off2, (if d = k + 1 then off else off + (k + 1)) = off2 := ⟨_, rfl⟩
  rw [eo] at IQ
  have hct1 := fun W => ints_to W b2 off n d k (by omega)
  have hct2 := fun W => ints_from W b2 off n d ((k : Int) + 1) (k + 1) (by omega) (by omega)
  rw [eo] at hct2
  have OWN0 : Hid ((w.drew.alloc (.cells #[] 3)).ownsRow w.heap.size 3 1 (.slice (some ⟨w.heap.size, 0, none⟩) 0 0) 0 []) := World.ownsRow_lit w.drew #[] 0 (Nat.le_refl _) (by unfold maxLen; omega) (by simp)
  have B1 : Hid (Below w.heap.size w (w.drew.alloc (.cells #[] 3))) := (below_drewN (Below.refl _ _) 1 : Below w.heap.size w w.drew).alloc (Nat.le_refl _) _
  have I1 : Hid (IntsAt (w.drew.alloc (.cells #[] 3)) (some ⟨b2, off, none⟩) (ints p)) := IP.below B1.out
  have I2 := Lib.hid IQ
  have hbl := World.block_lt_of_cell? _ _ hc
  have S0 : w.drew.cell? ⟨b, i, none⟩ = some (.slice (some ⟨b2, off, none⟩) n d) := hc
  have S1 : (w.drew.alloc (.cells #[] 3)).cell? ⟨b, i, none⟩ = some (.slice (some ⟨b2, off, none⟩) n d) := (B1.out.cell (p := ⟨b, i, none⟩) hbl).trans hc
  clear eo h hI hi0 hz0 hz1 hz2 en ek e hn hlen hne hl hcells IP IQ
  go_enter Try.func9, Try.ntmps9
  go_wp2_with fail
  refine (rof H.out HI.out hL hN HS.out).mono ?_
  rintro e w' ⟨rfl, rfl⟩
  go_wp2_with fail
  refine (rplace HL.out HLe.out HP.out).mono ?_
  rintro e w' ⟨rfl, rfl⟩
  go_upto_region 5 with fail
  go_region_held3 (fun W => W.cell? ⟨b, i, none⟩ = some (.slice (some ⟨b2, off, none⟩) n d))
    (first | assumption)
    (first
      | (refine step_append_ints (by rfl) (.tmp 22) (.tmp 28) 38 (by rfl) w.heap.size 3 i0 Try.underlying38 HI0.out HZ0.out HZ1.out HZ2.out (.slice (some ⟨w.heap.size, 0, none⟩) 0 0) 0 [] (by rfl) OWN0.out (some ⟨b2, off, none⟩) k d (ints p) (by rfl) I1.out (by rw [ints_length]; exact HK.out.symm) (by omega) (by omega) (by simp) ?_
         intro v1 w1 hown1 hgr1
         have B2 := B1.out.grown hgr1 B1.out.size fun x hx => (OWN0.out.lt x hx).1
         have S2 := (B2.cell (p := ⟨b, i, none⟩) hbl).trans hc)
      | (refine step_append_ints (by rfl) (.tmp 29) (.tmp 36) 38 (by rfl) w.heap.size 3 i0 Try.underlying38 HI0.out HZ0.out HZ1.out HZ2.out v1 (0 + k) _ (by rfl) hown1 (some ⟨b2, off2, none⟩) (n - (k + 1)) (d - (k + 1)) (ints q) (by rfl) (I2.out.below B2) (by rw [ints_length]; have := HLN.out; omega) (by omega) (by omega) B2.size ?_
         intro v2 w2 hown2 hgr2
         have B3 := B2.grown hgr2 B2.size fun x hx => (hown1.lt x hx).1
         have S3 := (B3.cell (p := ⟨b, i, none⟩) hbl).trans hc
         have ev : [] ++ (ints p).map (Value.int .i64) ++ (ints q).map (Value.int .i64) = vals (p ++ q) := by rw [List.nil_append, vals_ints, vals_ints, vals_append]
         rw [ev] at hown2
         have l2 := (own_list hown2 (by have := HLN.out; have := HK.out; simp; omega)).more hlo
         obtain ⟨A2, c2, rfl, l3⟩ := l2
         have L2 : Hid (ListAt w2 lo (.slice A2 (p ++ q).length c2) (p ++ q)) := ⟨A2, c2, rfl, l3⟩
         have BH3 := Lib.hid B3
         obtain ⟨lq, elq⟩ : ∃ lq, (p ++ q).length = lq := ⟨_, rfl⟩
         rw [elq] at L2
         rw [elq]
         clear elq l3 ev hown1 hown2 hgr1 hgr2 B2 B3 S2)
      | (go_at_call 32
         refine (rput (H.out.below BH3.out) (Nat.le_trans hlo BH3.out.size) hL hil L2.out).mono ?_
         rintro e w3 ⟨v3, rfl, h3, b5⟩
         have B6 := BH3.out.trans (b5.mono BH3.out.size)
         have S4 := (B6.cell (p := ⟨b, i, none⟩) hbl).trans hc))
  go_wp2
  go_ret2
  exact ⟨v3, rfl, h3, B6⟩
theorem rdrop_no (h : LsAt w lo v L m) (hI : Inv L N m) (hL : L ≤ 1048576) (hN : N ≤ 1048576) {x : Int} (ho : Out m x) :
    Calls Try.prog 9 #[v, .int .i64 x] w (RLsB w lo L m false) := by
  go_enter Try.func9, Try.ntmps9
  go_wp2_with fail
  refine (rof h hI hL hN (.out ho)).mono ?_
  rintro e w' ⟨rfl, rfl⟩
  go_wp2
  go_ret2
  exact ⟨_, rfl, h, Below.refl _ _⟩
theorem rdrop (h : LsAt w lo v L m) (hlo : lo ≤ w.heap.size) (hI : Inv L N m) (hL : L ≤ 1048576) (hN : N ≤ 1048576) (x : Int) :
    Calls Try.prog 9 #[v, .int .i64 x] w (RLsB w lo L (dropM m x) (dropB m x)) := by
  by_cases ho : Out m x
  · have hb : dropB m x = false := by
      cases hb : dropB m x with
      | false => rfl
      | true => exact absurd ho (dropB_true.1 hb)
    rw [hb, dropM_out ho]
    exact rdrop_no h hI hL hN ho
  · obtain ⟨i, a, k, b, rfl, e⟩ := not_out ho
    rw [dropB_true.2 ho, ← dropM_at hI e]
    exact rdrop_yes h hlo hI hL hN e

/-! ### Move -/
theorem rmove_yes (h : LsAt w lo v L m) (hlo : lo ≤ w.heap.size) (hI : Inv L N m) (hL : L ≤ 1048576) (hN : N ≤ 1048576) {i j x : Nat} {a b : List Nat} (hil : i < L) (e : m j = a ++ x :: b) :
    Calls Try.prog 21 #[v, .int .i64 N, .int .i64 i, .int .i64 x] w (RLsB w lo L (upd (upd m j (a ++ b)) i (upd m j (a ++ b) i ++ [x])) true) := by
  have hx : x < N := hI.lt j x (by rw [e]; simp)
  have ho := out_drop hI e
  have HI2 := Lib.hid (inv_drop hI e)
  have HS : Hid (Spot m (x : Int) (j : Int) (lst a (-1)) (hd b (-1))) := .at_ j a x b rfl e
  have HE := Lib.hid e
  have H := Lib.hid h
  have hir : 0 ≤ (i : Int) ∧ (i : Int) < (L : Int) := by omega
  obtain ⟨A, c, rfl⟩ := h.form
  clear e h
  go_enter Try.func21, Try.ntmps21
  go_wp2_with fail
  refine (rof H.out hI hL hN HS.out).mono ?_
  rintro e w' ⟨rfl, rfl⟩
  go_wp2_with fail
  refine (rdrop_yes H.out hlo hI hL hN HE.out).mono ?_
  rintro e w2 ⟨v2, rfl, h2, b2⟩
  go_wp2_with fail
  refine (radd_yes h2 (Nat.le_trans hlo b2.size) HI2.out hL hN hil hx ho).mono ?_
  rintro e w3 ⟨v3, rfl, h3, b3⟩
  have b4 := b2.trans (b3.mono b2.size)
  go_wp2
  go_ret2
  exact ⟨v3, rfl, h3, b4⟩
theorem rmove_no (h : LsAt w lo v L m) (hI : Inv L N m) (hL : L ≤ 1048576) (hN : N ≤ 1048576) {i x : Int} (hc : hasB L i = false ∨ Out m x) :
    Calls Try.prog 21 #[v, .int .i64 N, .int .i64 i, .int .i64 x] w (RLsB w lo L m false) := by
  have h00 := h
  obtain ⟨A, c, rfl⟩ := h.form
  by_cases h1 : i < 0
  · clear hc h
    go_enter Try.func21, Try.ntmps21
    go_wp2
    go_ret2
    exact ⟨_, rfl, h00, Below.refl _ _⟩
  · by_cases h2 : (L : Int) ≤ i
    · clear hc h
      go_enter Try.func21, Try.ntmps21
      go_wp2
      go_ret2
      exact ⟨_, rfl, h00, Below.refl _ _⟩
    · have ho : Out m x := hc.resolve_left fun hb => of_decide_eq_false hb (by omega)
      clear hc h
      go_enter Try.func21, Try.ntmps21
      go_wp2_with fail
      refine (rof h00 hI hL hN (.out ho)).mono ?_
      rintro e w' ⟨rfl, rfl⟩
      go_wp2
      go_ret2
      exact ⟨_, rfl, h00, Below.refl _ _⟩
theorem rmove (h : LsAt w lo v L m) (hlo : lo ≤ w.heap.size) (hI : Inv L N m) (hL : L ≤ 1048576) (hN : N ≤ 1048576) (i x : Int) :
    Calls Try.prog 21 #[v, .int .i64 N, .int .i64 i, .int .i64 x] w (RLsB w lo L (moveM L m i x) (moveB L m i x)) := by
  unfold moveM
  cases hb : moveB L m i x with
  | true =>
    rw [if_pos rfl]
    have hb2 := hb
    unfold moveB at hb2
    rw [Bool.and_eq_true] at hb2
    obtain ⟨k, rfl, hk⟩ := hasB_nat hb2.1
    obtain ⟨j, a, q, b, rfl, e⟩ := not_out (dropB_true.1 hb2.2)
    rw [Int.toNat_natCast, Int.toNat_natCast, ← dropM_at hI e]
    exact rmove_yes h hlo hI hL hN hk e
  | false =>
    rw [if_neg (by simp)]
    refine rmove_no h hI hL hN ?_
    unfold moveB at hb
    rw [Bool.and_eq_false_iff] at hb
    rcases hb with hb | hb
    · exact .inl hb
    · refine .inr (Classical.byContradiction fun ho => ?_)
      rw [dropB_true.2 ho] at hb
      cases hb

/-! ### Join -/
theorem rjoin_no (h : LsAt w lo v L m) {i j : Int} (hc : hasB L i = false ∨ hasB L j = false ∨ i = j) :
    Calls Try.prog 23 #[v, .int .i64 i, .int .i64 j] w (RLsB w lo L m false) := by
  have h00 := h
  obtain ⟨A, c, rfl⟩ := h.form
  by_cases h1 : i < 0
  · clear hc h
    go_enter Try.func23, Try.ntmps23
    go_wp2
    go_ret2
    exact ⟨_, rfl, h00, Below.refl _ _⟩
  · by_cases h2 : (L : Int) ≤ i
    · clear hc h
      go_enter Try.func23, Try.ntmps23
      go_wp2
      go_ret2
      exact ⟨_, rfl, h00, Below.refl _ _⟩
    · by_cases h3 : j < 0
      · clear hc h
        go_enter Try.func23, Try.ntmps23
        go_wp2
        go_ret2
        exact ⟨_, rfl, h00, Below.refl _ _⟩
      · by_cases h4 : (L : Int) ≤ j
        · clear hc h
          go_enter Try.func23, Try.ntmps23
          go_wp2
          go_ret2
          exact ⟨_, rfl, h00, Below.refl _ _⟩
        · have e : i = j := by
            rcases hc with hc | hc | hc
            · exact absurd (by omega) (of_decide_eq_false hc)
            · exact absurd (by omega) (of_decide_eq_false hc)
            · exact hc
          subst e
          have hb : (i == i) = true := by simp
          clear hc h
          go_enter Try.func23, Try.ntmps23
          go_wp2
          go_ret2
          exact ⟨_, rfl, h00, Below.refl _ _⟩
set_option maxHeartbeats 1600000 in
theorem rjoin_yes (h : LsAt w lo v L m) (hlo : lo ≤ w.heap.size) (hI : Inv L N m) (hL : L ≤ 1048576) (hN : N ≤ 1048576) {i j : Nat} (hil : i < L) (hjl : j < L) (hij : i ≠ j) :
    Calls Try.prog 23 #[v, .int .i64 i, .int .i64 j] w (RLsB w lo L (upd (upd m i (m i ++ m j)) j []) true) := by
  obtain ⟨i0, hi0, hz0, hz1, hz2⟩ := info_parts int_info
  have HI0 := Lib.hid hi0
  have HZ0 := Lib.hid hz0
  have HZ1 := Lib.hid hz1
  have HZ2 := Lib.hid hz2
  have hir : 0 ≤ (i : Int) ∧ (i : Int) < (L : Int) := by omega
  have hjr : 0 ≤ (j : Int) ∧ (j : Int) < (L : Int) := by omega
  have hijb : ((i : Int) == (j : Int)) = false := by simp; omega
  have hmi := hI.len i
  have hmj := hI.len j
  have H := Lib.hid h
  obtain ⟨b, c, A, d, rfl, hc, _, hl⟩ := h.at_ hil
  obtain ⟨b', c', A', d', e, hc', _, hl'⟩ := h.at_ hjl
  injection e with e1 e2 e3
  injection e1 with e1
  injection e1 with e1 _
  subst e1 e3
  have IP : IntsAt w A (ints (m i)) := by
    obtain ⟨_, _, e, _, h, _⟩ := hl
    injection e with e
    subst e
    exact h
  have IQ : IntsAt w A' (ints (m j)) := by
    obtain ⟨_, _, e, _, h, _⟩ := hl'
    injection e with e
    subst e
    exact h
  obtain ⟨n, en⟩ : ∃ n, (m i).length = n := ⟨_, rfl⟩
  obtain ⟨n', en'⟩ : ∃ n', (m j).length = n' := ⟨_, rfl⟩
  rw [en] at hc hmi
  rw [en'] at hc' hmj
  have HN1 := Lib.hid en
  have HN2 := Lib.hid en'
  have OWN0 : Hid ((w.drew.alloc (.cells #[] 3)).ownsRow w.heap.size 3 1 (.slice (some ⟨w.heap.size, 0, none⟩) 0 0) 0 []) := World.ownsRow_lit w.drew #[] 0 (Nat.le_refl _) (by unfold maxLen; omega) (by simp)
  have B1 : Hid (Below w.heap.size w (w.drew.alloc (.cells #[] 3))) := (below_drewN (Below.refl _ _) 1 : Below w.heap.size w w.drew).alloc (Nat.le_refl _) _
  have I1 : Hid (IntsAt (w.drew.alloc (.cells #[] 3)) A (ints (m i))) := IP.below B1.out
  have I2 := Lib.hid IQ
  have hbl := World.block_lt_of_cell? _ _ hc
  have S0 : w.drew.cell? ⟨b, i, none⟩ = some (.slice A n d) ∧ w.drew.cell? ⟨b, j, none⟩ = some (.slice A' n' d') := ⟨hc, hc'⟩
  have HSB : Hid (∀ W : World, Below w.heap.size w W → W.cell? ⟨b, i, none⟩ = some (.slice A n d) ∧ W.cell? ⟨b, j, none⟩ = some (.slice A' n' d')) :=
    fun W hW => ⟨(hW.cell (p := ⟨b, i, none⟩) hbl).trans hc, (hW.cell (p := ⟨b, j, none⟩) hbl).trans hc'⟩
  have S1 := HSB.out _ B1.out
  clear h hI hi0 hz0 hz1 hz2 hl hl' IP IQ en en' hc hc' e2
  go_enter Try.func23, Try.ntmps23
  go_upto_region 3 with fail
  go_region_held3 (fun W => W.cell? ⟨b, i, none⟩ = some (.slice A n d) ∧ W.cell? ⟨b, j, none⟩ = some (.slice A' n' d'))
    (first | assumption)
    (first
      | (refine step_append_ints (by rfl) (.tmp 34) (.tmp 38) 38 (by rfl) w.heap.size 3 i0 Try.underlying38 HI0.out HZ0.out HZ1.out HZ2.out (.slice (some ⟨w.heap.size, 0, none⟩) 0 0) 0 [] (by rfl) OWN0.out A n d (ints (m i)) (by rfl) I1.out (by rw [ints_length]; exact HN1.out.symm) (by omega) (by omega) (by simp) ?_
         intro v1 w1 hown1 hgr1
         have B2 := B1.out.grown hgr1 B1.out.size fun x hx => (OWN0.out.lt x hx).1
         have OWN1 := Lib.hid hown1
         have BH2 := Lib.hid B2
         have S2 := HSB.out _ B2
         clear hown1 hgr1 B2)
      | (refine step_append_ints (by rfl) (.tmp 39) (.tmp 43) 38 (by rfl) w.heap.size 3 i0 Try.underlying38 HI0.out HZ0.out HZ1.out HZ2.out v1 (0 + n) _ (by rfl) OWN1.out A' n' d' (ints (m j)) (by rfl) (I2.out.below BH2.out) (by rw [ints_length]; exact HN2.out.symm) (by omega) (by omega) BH2.out.size ?_
         intro v2 w2 hown2 hgr2
         have B3 := BH2.out.grown hgr2 BH2.out.size fun x hx => (OWN1.out.lt x hx).1
         have S3 := HSB.out _ B3
         have ev : [] ++ (ints (m i)).map (Value.int .i64) ++ (ints (m j)).map (Value.int .i64) = vals (m i ++ m j) := by rw [List.nil_append, vals_ints, vals_ints, vals_append]
         rw [ev] at hown2
         have l2 := (own_list hown2 (by have := HN1.out; have := HN2.out; simp; omega)).more hlo
         obtain ⟨A2, c2, rfl, l3⟩ := l2
         have L2 : Hid (ListAt w2 lo (.slice A2 (m i ++ m j).length c2) (m i ++ m j)) := ⟨A2, c2, rfl, l3⟩
         have BH3 := Lib.hid B3
         obtain ⟨lq, elq⟩ : ∃ lq, (m i ++ m j).length = lq := ⟨_, rfl⟩
         rw [elq] at L2
         rw [elq]
         clear elq l3 ev hown2 hgr2 B3)
      | (go_at_call 32
         first
           | ((with_reducible refine (rput (H.out.below BH3.out) (Nat.le_trans hlo BH3.out.size) hL hil L2.out).mono ?_)
              rintro e w3 ⟨v3, rfl, h3, b5⟩
              have BH6 := Lib.hid (BH3.out.trans (b5.mono BH3.out.size))
              have HH3 := Lib.hid h3
              have S4 := HSB.out _ BH6.out
              clear h3 b5)
           | (refine (rput HH3.out (Nat.le_trans hlo BH6.out.size) hL hjl (ListAt.nil _ _)).mono ?_
              rintro e w4 ⟨v4, rfl, h4, b7⟩
              have BH8 := Lib.hid (BH6.out.trans (b7.mono BH6.out.size))
              have HH4 := Lib.hid h4
              have S5 := HSB.out _ BH8.out
              clear h4 b7)))
  go_wp2
  go_ret2
  exact ⟨v4, rfl, HH4.out, BH8.out⟩
theorem rjoin (h : LsAt w lo v L m) (hlo : lo ≤ w.heap.size) (hI : Inv L N m) (hL : L ≤ 1048576) (hN : N ≤ 1048576) (i j : Int) :
    Calls Try.prog 23 #[v, .int .i64 i, .int .i64 j] w (RLsB w lo L (joinM L m i j) (joinB L i j)) := by
  unfold joinM
  cases hb : joinB L i j with
  | true =>
    rw [if_pos rfl]
    unfold joinB at hb
    rw [Bool.and_eq_true, Bool.and_eq_true] at hb
    obtain ⟨k, rfl, hk⟩ := hasB_nat hb.1.1
    obtain ⟨q, rfl, hq⟩ := hasB_nat hb.1.2
    have hne : k ≠ q := fun e => by
      have := hb.2
      rw [e] at this
      simp at this
    rw [Int.toNat_natCast, Int.toNat_natCast]
    exact rjoin_yes h hlo hI hL hN hk hq hne
  | false =>
    rw [if_neg (by simp)]
    refine rjoin_no h ?_
    unfold joinB at hb
    rw [Bool.and_eq_false_iff, Bool.and_eq_false_iff] at hb
    rcases hb with (hb | hb) | hb
    · exact .inl hb
    · exact .inr (.inl hb)
    · exact .inr (.inr (by simpa using hb))
end Go.Proofs.Ytffpnpcbfogemaa
