/- Layer 16 (tags): what Own, take, Leave, Raise return, and how tags lie behind them: contracts. -/
import Derived.Test.YtiidkfcblnkghaaTagsMem
namespace Go.Proofs.Ytiidkfcblnkghaa
open Go.RowKit Go.Maps

theorem getD_at {l : List Nat} {k : Nat} (hk : k < l.length) : l[k]?.getD 0 = l[k]'hk := by rw [List.getElem?_eq_getElem hk]; rfl
/-- What a call answers, and how tags lie behind it. -/
def StepIn (w : World) (q n : Nat) (O G : List Nat) (r : Value) (e : Ending) (w' : World) : Prop := e = .returned r ∧ TagsAt w' q n O G ∧ Turn (Blk q) w w'
section
variable {w w' : World} {q n : Nat} {O G : List Nat} {D : DataW Unit}

/-! ### Own -/
theorem own_no1 (h : MemAt w q n O G D) {i x : Int} (hi : isIn n i = false) : Calls Try.prog 10 #[ptrAt q, .int .i64 i, .int .i64 x] w fun e w' => e = .returned (.int .i64 2) ∧ w = w' := by
  have H := Lib.hid (chunk_out h hi)
  clear h hi
  go_enter Try.func10, Try.ntmps10
  go_wp2_with fail
  refine H.out.mono ?_
  rintro e w1 ⟨rfl, rfl⟩
  go_wp2
  go_ret
  exact ⟨rfl, rfl⟩
theorem own_no2 (h : MemAt w q n O G D) {k : Nat} {x : Int} (hk : k < n) (hx : x < 1) : Calls Try.prog 10 #[ptrAt q, .int .i64 k, .int .i64 x] w fun e w' => e = .returned (.int .i64 2) ∧ w = w' := by
  have H := Lib.hid (chunk_in h hk)
  clear h hk
  go_enter Try.func10, Try.ntmps10
  go_wp2_with fail
  refine H.out.mono ?_
  rintro e w1 ⟨rfl, rfl⟩
  go_wp2
  go_ret
  exact ⟨rfl, rfl⟩
theorem own_no3 (h : MemAt w q n O G D) {k y : Nat} {x : Int} (hk : k < n) (hx : ¬ x < 1) (hy : O[k]?.getD 0 = y) (h0 : 0 < y) : Calls Try.prog 10 #[ptrAt q, .int .i64 k, .int .i64 x] w fun e w' => e = .returned (.int .i64 19) ∧ w = w' := by
  have H := Lib.hid (chunk_in h hk)
  obtain ⟨c0, _⟩ := h.own hk hy
  have hb : ((y : Int) != 0) = true := by simp; omega
  clear h hk hy h0
  go_enter Try.func10, Try.ntmps10
  go_wp2_with fail
  refine H.out.mono ?_
  rintro e w1 ⟨rfl, rfl⟩
  go_wp2
  go_ret
  exact ⟨rfl, rfl⟩
theorem own_yes (h : MemAt w q n O G D) (hf : CntF D (cntV O)) {k x : Nat} (hk : k < n) (hx : 1 ≤ x) (hx2 : x ≤ 9223372036854775807) (hy : O[k]?.getD 0 = 0) : Calls Try.prog 10 #[ptrAt q, .int .i64 k, .int .i64 x] w (StepIn w q n (O.set k x) G (.int .i64 0)) := by
  have hsm := h.small
  have hsz := size_owners h.mapp hf
  have hlo := h.lo
  have H := Lib.hid (chunk_in h hk)
  obtain ⟨c0, f0⟩ := h.own hk hy
  have hm1 := h.setO hk x hx2
  have HT : Hid (Turn (Blk q) w (w.setCell ⟨q, k * 2, none⟩ (.int .i64 x))) := Turn.set _ _ _ ⟨by omega, by omega⟩
  have k1 := hm1.c1
  have hl := look_cnt hm1.mapp hf (x := (x : Int)) ⟨by omega, by omega⟩
  obtain ⟨c, hc⟩ : ∃ c, cntV O (x : Int) = c := ⟨_, rfl⟩
  have hcl := cntV_le O (x : Int)
  rw [hc] at hl hcl
  have hcn : c ≤ 1048576 := by omega
  obtain ⟨d, hd⟩ : ∃ d, c + 1 = d := ⟨_, rfl⟩
  have hwr : IntKind.i64.wrap ((c : Int) + 1) = (d : Int) := by
    rw [IntWalk.i64_in _ (by omega)]; omega
  have HL : Hid (Maps.size D < maxLen) := by show _ < _; unfold maxLen; omega
  have HK : Hid (keyOf Try.prog 3 (.int .i64 (x : Int)) = some (.int .i64 (x : Int))) := key_int ⟨by omega, by omega⟩
  have HE : Hid (intE (.int .i64 (d : Int)) = some (.lit (.int .i64 (d : Int)), [])) := intE_mk ⟨by omega, by omega⟩
  have HF : Hid (CntF (D.put (.int .i64 (x : Int)) (.lit (.int .i64 (d : Int)))) (cntV (O.set k x))) := by
    have hk2 : k < O.length := by omega
    have e0 := getD_at hk2
    rw [hy] at e0
    refine hf.put h.mapp.isMap (by omega) ?_ fun y hne => ?_
    · have := cntV_set hk2 x (x : Int)
      rw [← e0, if_neg (by omega), if_pos ⟨by omega, rfl⟩, hc] at this
      omega
    · have := cntV_set hk2 x y
      rw [← e0, if_neg (by omega), if_neg (by omega)] at this
      omega
  have H1 := Lib.hid hm1
  have hx3 : ¬ (x : Int) < 1 := by omega
  have w1e : ((0 : Nat) : Int) = 0 := rfl
  simp only [w1e] at c0
  clear h hf hy hm1 hc hcl hd hsz hlo hk hx w1e
  unfold ptrAt at H ⊢
  go_enter Try.func10, Try.ntmps10
  go_wp2_with fail
  refine H.out.mono ?_
  rintro e w1 ⟨rfl, rfl⟩
  go_wp2_with (at_mapUpdate; refine wpList_mapUpdate_in _ rfl _ _ _ 44 rfl 3 3 intKey Try.underlying44 intE (q + 1) _ D rfl H1.out.mapp HL.out _ _ _ rfl rfl HK.out _ [] HE.out ?_; intro w3 hown3 hturn3)
  have h3 := Lib.hid (H1.out.turned hown3 hturn3)
  clear hown3 hturn3
  go_wp2
  go_ret
  exact ⟨rfl, ⟨_, h3.out.1, HF.out⟩, HT.out.trans h3.out.2⟩
theorem own_is (h : TagsAt w q n O G) {i x : Int} (hx : InInt x) {e : Nat} {O' : List Nat} (he : ownE O i x = e) (hO : ownV O i x = O') : Calls Try.prog 10 #[ptrAt q, .int .i64 i, .int .i64 x] w (StepIn w q n O' G (.int .i64 e)) := by
  have h0 := h
  obtain ⟨D, hm, hf⟩ := h
  subst he hO
  have stay : ∀ {r : Nat}, ownE O i x = r → r ≠ 0 → ∀ {a : Ending} {w' : World}, (a = .returned (.int .i64 r) ∧ w = w') → StepIn w q n (ownV O i x) G (.int .i64 (ownE O i x : Nat)) a w' := by
    rintro r hr hne a w' ⟨rfl, rfl⟩
    refine ⟨by rw [hr], h0.like ?_ rfl, Turn.refl _ _⟩
    unfold ownV
    rw [if_neg (by omega)]
  by_cases h1 : isIn n i = false
  · have he : ownE O i x = 2 := by unfold ownE; rw [hm.lo, if_pos (.inl h1)]
    exact (own_no1 hm h1).mono fun a w' => stay he (by omega)
  · have hi2 := isIn_iff.1 (by simpa using h1)
    obtain ⟨k, rfl⟩ := Int.eq_ofNat_of_zero_le hi2.1
    have hk : k < n := by omega
    by_cases h2 : x < 1
    · have he : ownE O (k : Int) x = 2 := by unfold ownE; rw [if_pos (.inr h2)]
      exact (own_no2 hm hk h2).mono fun a w' => stay he (by omega)
    · by_cases h3 : 0 < O[k]?.getD 0
      · have he : ownE O (k : Int) x = 19 := by unfold ownE; rw [hm.lo, if_neg (by rintro (h | h); exact h1 h; exact h2 h), atI_nat, if_pos h3]
        exact (own_no3 hm hk h2 rfl h3).mono fun a w' => stay he (by omega)
      · have he : ownE O (k : Int) x = 0 := by unfold ownE; rw [hm.lo, if_neg (by rintro (h | h); exact h1 h; exact h2 h), atI_nat, if_neg h3]
        obtain ⟨z, rfl⟩ := Int.eq_ofNat_of_zero_le (show 0 ≤ x by omega)
        have := own_yes hm hf hk (x := z) (by omega) (by have := hx.2; omega) (by omega)
        unfold ownV
        rw [he, if_pos rfl, Int.toNat_natCast, Int.toNat_natCast]
        exact this

/-! ### take -/
def TakeIn (w : World) (q n : Nat) (O G : List Nat) (D : DataW Unit) (g : Int → Nat) (e : Ending) (w' : World) : Prop := e = .returned (.tuple #[]) ∧ (∃ D', MemAt w' q n O G D' ∧ CntF D' g ∧ Maps.size D' ≤ Maps.size D) ∧ Turn (Blk q) w w'
theorem take_is (h : MemAt w q n O G D) {f g : Int → Nat} (hf : CntF D f) {x : Int} (hx : InInt x) {m : Nat} (hm : m ≤ f x) (h0 : 0 < f x) (hb : f x ≤ 1048576) (hs : Maps.size D ≤ 1048576) (hg : g x = f x - m) (ho : ∀ y, y ≠ x → g y = f y) :
    Calls Try.prog 27 #[ptrAt q, .int .i64 x, .int .i64 m] w (TakeIn w q n O G D g) := by
  have c1 := h.c1
  have hl := look_cnt h.mapp hf hx
  obtain ⟨c, hc⟩ : ∃ c, f x = c := ⟨_, rfl⟩
  obtain ⟨d, hd⟩ : ∃ d, c - m = d := ⟨_, rfl⟩
  rw [hc] at hl hm h0 hb hg
  rw [hd] at hg
  have hwr : IntKind.i64.wrap ((c : Int) - (m : Int)) = (d : Int) := by
    rw [IntWalk.i64_in _ (by omega)]; omega
  have HL : Hid (Maps.size D < maxLen) := by show _ < _; unfold maxLen; omega
  have HK : Hid (keyOf Try.prog 3 (.int .i64 x) = some (.int .i64 x)) := key_int hx
  have HE : Hid (intE (.int .i64 (d : Int)) = some (.lit (.int .i64 (d : Int)), [])) := intE_mk ⟨by omega, by omega⟩
  have HX : Hid (CntX (D.put (.int .i64 x) (.lit (.int .i64 (d : Int)))) f x d) := hf.put' h.mapp.isMap x d
  have htidy := h.mapp.tidy intKey
  have hhas : Maps.has D (.int .i64 x) = true := by rw [(hf x).2, hc]; exact decide_eq_true h0
  have HS : Hid (Maps.size (D.put (.int .i64 x) (.lit (.int .i64 (d : Int)))) = Maps.size D) := by show _ = _; rw [size_put htidy, if_pos hhas]
  have HXX := Lib.hid hx
  by_cases hd0 : d = 0
  · subst hd0
    have HF : Hid (CntF ((D.put (.int .i64 x) (.lit (.int .i64 ((0 : Nat) : Int)))).del (.int .i64 x)) g) := HX.out.del hg ho
    have HS2 : Hid (Maps.size ((D.put (.int .i64 x) (.lit (.int .i64 ((0 : Nat) : Int)))).del (.int .i64 x)) ≤ Maps.size D) := by
      have := size_del (k := .int .i64 x) (htidy.put (show WideAt.IsKeyLit (.int .i64 x) from trivial) (.lit (.int .i64 ((0 : Nat) : Int))))
      have e := HS.out
      show _ ≤ _
      omega
    have H := Lib.hid h
    clear h hf hc hd hg ho hm h0 hhas htidy hx hs hb HS
    unfold ptrAt
    go_enter Try.func27, Try.ntmps27
    go_wp2_with (first
      | (at_mapUpdate; refine wpList_mapUpdate_in _ rfl _ _ _ 44 rfl 3 3 intKey Try.underlying44 intE (q + 1) _ D rfl H.out.mapp HL.out _ _ _ rfl rfl HK.out _ [] HE.out ?_
         intro w3 hown3 hturn3
         have h3 := H.out.turned hown3 hturn3
         have k1 := h3.1.c1
         have hl3 := look_at h3.1.mapp HX.out.1 HXX.out
         have H3 := Lib.hid h3
         clear h3 hown3 hturn3 hl c1)
      | (at_delete; refine wpList_delete_own _ rfl _ _ 44 3 rfl 3 intKey Try.underlying44 intE (q + 1) _ _ rfl H3.out.1.mapp _ _ rfl HK.out ?_
         intro w4 hown4 hturn4
         have H4 := Lib.hid (H3.out.1.turned hown4 hturn4)
         clear hown4 hturn4))
    go_end0
    exact ⟨rfl, ⟨_, H4.out.1, HF.out, HS2.out⟩, H3.out.2.trans H4.out.2⟩
  · have hb0 : ((d : Int) == 0) = false := by simp; omega
    have HF : Hid (CntF (D.put (.int .i64 x) (.lit (.int .i64 (d : Int)))) g) := hf.put h.mapp.isMap (by omega) hg ho
    have H := Lib.hid h
    clear h hf hc hd hg ho hm h0 hhas htidy hx hs hb hd0
    unfold ptrAt
    go_enter Try.func27, Try.ntmps27
    go_wp2_with (first
      | (at_mapUpdate; refine wpList_mapUpdate_in _ rfl _ _ _ 44 rfl 3 3 intKey Try.underlying44 intE (q + 1) _ D rfl H.out.mapp HL.out _ _ _ rfl rfl HK.out _ [] HE.out ?_
         intro w3 hown3 hturn3
         have h3 := H.out.turned hown3 hturn3
         have k1 := h3.1.c1
         have hl3 := look_at h3.1.mapp HX.out.1 HXX.out
         have H3 := Lib.hid h3
         clear h3 hown3 hturn3 hl c1))
    go_end0
    exact ⟨rfl, ⟨_, H3.out.1, HF.out, Nat.le_of_eq HS.out⟩, H3.out.2⟩

/-! ### Leave -/
theorem leave_no1 (h : MemAt w q n O G D) {i : Int} (hi : isIn n i = false) : Calls Try.prog 12 #[ptrAt q, .int .i64 i] w fun e w' => e = .returned (.int .i64 2) ∧ w = w' := by
  have H := Lib.hid (chunk_out h hi)
  clear h hi
  go_enter Try.func12, Try.ntmps12
  go_wp2_with fail
  refine H.out.mono ?_
  rintro e w1 ⟨rfl, rfl⟩
  go_wp2
  go_ret
  exact ⟨rfl, rfl⟩
theorem leave_no2 (h : MemAt w q n O G D) {k : Nat} (hk : k < n) (hy : O[k]?.getD 0 = 0) : Calls Try.prog 12 #[ptrAt q, .int .i64 k] w fun e w' => e = .returned (.int .i64 20) ∧ w = w' := by
  have H := Lib.hid (chunk_in h hk)
  obtain ⟨c0, _⟩ := h.own hk hy
  have w1e : ((0 : Nat) : Int) = 0 := rfl
  simp only [w1e] at c0
  clear h hk hy w1e
  go_enter Try.func12, Try.ntmps12
  go_wp2_with fail
  refine H.out.mono ?_
  rintro e w1 ⟨rfl, rfl⟩
  go_wp2
  go_ret
  exact ⟨rfl, rfl⟩
theorem leave_yes (h : MemAt w q n O G D) (hf : CntF D (cntV O)) {k y : Nat} (hk : k < n) (hy : O[k]?.getD 0 = y) (h0 : 0 < y) : Calls Try.prog 12 #[ptrAt q, .int .i64 k] w (StepIn w q n (O.set k 0) G (.int .i64 0)) := by
  have hsm := h.small
  have hsz := size_owners h.mapp hf
  have hlo := h.lo
  have H := Lib.hid (chunk_in h hk)
  obtain ⟨c0, _⟩ := h.own hk hy
  have hb : ((y : Int) == 0) = false := by simp; omega
  have hk2 : k < O.length := by omega
  have e0 := getD_at hk2
  rw [hy] at e0
  have hyl := h.low k
  rw [hy] at hyl
  have hcl := cntV_le O (y : Int)
  have hx : InInt (y : Int) := ⟨by omega, by omega⟩
  have hc1 := cntV_set hk2 0 (y : Int)
  rw [← e0, if_pos ⟨by omega, rfl⟩, if_neg (by omega)] at hc1
  have HT := Lib.hid (take_is h hf (g := cntV (O.set k 0)) hx (m := 1) (by omega) (by omega) (by omega) (by omega) (by omega) (fun z hz => by
    have := cntV_set hk2 0 z
    rw [← e0, if_neg (by omega), if_neg (by omega)] at this
    omega))
  have HKN := Lib.hid hk
  clear h hf hk hy h0 hsz hlo hk2 e0 hyl hcl hx hc1
  go_enter Try.func12, Try.ntmps12
  go_wp2_with fail
  refine H.out.mono ?_
  rintro e w1 ⟨rfl, rfl⟩
  go_wp2_with fail
  refine HT.out.mono ?_
  rintro e w2 ⟨rfl, ⟨D2, h2, f2, _⟩, t2⟩
  obtain ⟨k0, q0⟩ := h2.own HKN.out rfl
  have H3 := Lib.hid (h2.setO HKN.out 0 (by omega))
  have T3 : Hid (Turn (Blk q) w2 (w2.setCell ⟨q, k * 2, none⟩ (.int .i64 ((0 : Nat) : Int)))) := Turn.set _ _ _ ⟨by omega, by omega⟩
  have F2 := Lib.hid f2
  have T2 := Lib.hid t2
  clear h2 f2 t2 HT H c0
  go_wp2
  go_ret
  exact ⟨rfl, ⟨_, H3.out, F2.out⟩, T2.out.trans T3.out⟩
theorem leave_is (h : TagsAt w q n O G) {i : Int} {e : Nat} {O' : List Nat} (he : leaveE O i = e) (hO : leaveV O i = O') : Calls Try.prog 12 #[ptrAt q, .int .i64 i] w (StepIn w q n O' G (.int .i64 e)) := by
  have h0 := h
  obtain ⟨D, hm, hf⟩ := h
  subst he hO
  have stay : ∀ {r : Nat}, leaveE O i = r → r ≠ 0 → ∀ {a : Ending} {w' : World}, (a = .returned (.int .i64 r) ∧ w = w') → StepIn w q n (leaveV O i) G (.int .i64 (leaveE O i : Nat)) a w' := by
    rintro r hr hne a w' ⟨rfl, rfl⟩
    refine ⟨by rw [hr], h0.like ?_ rfl, Turn.refl _ _⟩
    unfold leaveV
    rw [if_neg (by omega)]
  by_cases h1 : isIn n i = false
  · have he : leaveE O i = 2 := by unfold leaveE; rw [hm.lo, if_pos h1]
    exact (leave_no1 hm h1).mono fun a w' => stay he (by omega)
  · have hi2 := isIn_iff.1 (by simpa using h1)
    obtain ⟨k, rfl⟩ := Int.eq_ofNat_of_zero_le hi2.1
    have hk : k < n := by omega
    by_cases h3 : O[k]?.getD 0 = 0
    · have he : leaveE O (k : Int) = 20 := by unfold leaveE; rw [hm.lo, if_neg h1, atI_nat, if_pos h3]
      exact (leave_no2 hm hk h3).mono fun a w' => stay he (by omega)
    · have he : leaveE O (k : Int) = 0 := by unfold leaveE; rw [hm.lo, if_neg h1, atI_nat, if_neg h3]
      unfold leaveV
      rw [he, if_pos rfl, Int.toNat_natCast]
      exact leave_yes hm hf hk rfl (by omega)

/-! ### Raise -/
theorem raise_no1 (h : MemAt w q n O G D) {i : Int} (hi : isIn n i = false) : Calls Try.prog 14 #[ptrAt q, .int .i64 i] w fun e w' => e = .returned (.int .i64 2) ∧ w = w' := by
  have H := Lib.hid (chunk_out h hi)
  clear h hi
  go_enter Try.func14, Try.ntmps14
  go_wp2_with fail
  refine H.out.mono ?_
  rintro e w1 ⟨rfl, rfl⟩
  go_wp2
  go_ret
  exact ⟨rfl, rfl⟩
theorem raise_no2 (h : MemAt w q n O G D) {k y : Nat} (hk : k < n) (hy : O[k]?.getD 0 = y) (h0 : 0 < y) : Calls Try.prog 14 #[ptrAt q, .int .i64 k] w fun e w' => e = .returned (.int .i64 19) ∧ w = w' := by
  have H := Lib.hid (chunk_in h hk)
  obtain ⟨c0, _⟩ := h.own hk hy
  have hb : ((y : Int) != 0) = true := by simp; omega
  clear h hk hy h0
  go_enter Try.func14, Try.ntmps14
  go_wp2_with fail
  refine H.out.mono ?_
  rintro e w1 ⟨rfl, rfl⟩
  go_wp2
  go_ret
  exact ⟨rfl, rfl⟩
theorem raise_no3 (h : MemAt w q n O G D) {k z : Nat} (hk : k < n) (hy : O[k]?.getD 0 = 0) (hz : G[k]?.getD 0 = z) (h0 : 1048575 ≤ z) : Calls Try.prog 14 #[ptrAt q, .int .i64 k] w fun e w' => e = .returned (.int .i64 6) ∧ w = w' := by
  have H := Lib.hid (chunk_in h hk)
  obtain ⟨c0, _⟩ := h.own hk hy
  obtain ⟨c1, _⟩ := h.gen hk hz
  have hzl := h.gens k
  have w1e : ((0 : Nat) : Int) = 0 := rfl
  simp only [w1e] at c0
  have hb : ((z : Int) == 1048575) = true := by simp; omega
  clear h hk hy hz h0 hzl w1e
  go_enter Try.func14, Try.ntmps14
  go_wp2_with fail
  refine H.out.mono ?_
  rintro e w1 ⟨rfl, rfl⟩
  go_wp2
  go_ret
  exact ⟨rfl, rfl⟩
theorem raise_yes (h : MemAt w q n O G D) (hf : CntF D (cntV O)) {k z : Nat} (hk : k < n) (hy : O[k]?.getD 0 = 0) (hz : G[k]?.getD 0 = z) (h0 : ¬ 1048575 ≤ z) : Calls Try.prog 14 #[ptrAt q, .int .i64 k] w (StepIn w q n O (G.set k (z + 1)) (.int .i64 0)) := by
  have H := Lib.hid (chunk_in h hk)
  obtain ⟨c0, _⟩ := h.own hk hy
  obtain ⟨c1, f1⟩ := h.gen hk hz
  have w1e : ((0 : Nat) : Int) = 0 := rfl
  simp only [w1e] at c0
  have hb : ((z : Int) == 1048575) = false := by simp; omega
  have hwr : IntKind.i64.wrap ((z : Int) + 1) = ((z + 1 : Nat) : Int) := by
    rw [IntWalk.i64_in _ (by omega)]; omega
  have H1 := Lib.hid (h.setG hk (z + 1) (by omega))
  have T1 : Hid (Turn (Blk q) w (w.setCell ⟨q, k * 2 + 1, none⟩ (.int .i64 ((z + 1 : Nat) : Int)))) := Turn.set _ _ _ ⟨by omega, by omega⟩
  have HF := Lib.hid hf
  clear h hf hk hy hz h0 w1e
  go_enter Try.func14, Try.ntmps14
  go_wp2_with fail
  refine H.out.mono ?_
  rintro e w1 ⟨rfl, rfl⟩
  go_wp2
  go_ret
  exact ⟨rfl, ⟨_, H1.out, HF.out⟩, T1.out⟩
theorem raise_is (h : TagsAt w q n O G) {i : Int} {e : Nat} {G' : List Nat} (he : raiseE O G i = e) (hG : raiseV O G i = G') : Calls Try.prog 14 #[ptrAt q, .int .i64 i] w (StepIn w q n O G' (.int .i64 e)) := by
  have h0 := h
  obtain ⟨D, hm, hf⟩ := h
  subst he hG
  have stay : ∀ {r : Nat}, raiseE O G i = r → r ≠ 0 → ∀ {a : Ending} {w' : World}, (a = .returned (.int .i64 r) ∧ w = w') → StepIn w q n O (raiseV O G i) (.int .i64 (raiseE O G i : Nat)) a w' := by
    rintro r hr hne a w' ⟨rfl, rfl⟩
    refine ⟨by rw [hr], h0.like rfl ?_, Turn.refl _ _⟩
    unfold raiseV
    rw [if_neg (by omega)]
  by_cases h1 : isIn n i = false
  · have he : raiseE O G i = 2 := by unfold raiseE; rw [hm.lo, if_pos h1]
    exact (raise_no1 hm h1).mono fun a w' => stay he (by omega)
  · have hi2 := isIn_iff.1 (by simpa using h1)
    obtain ⟨k, rfl⟩ := Int.eq_ofNat_of_zero_le hi2.1
    have hk : k < n := by omega
    by_cases h3 : 0 < O[k]?.getD 0
    · have he : raiseE O G (k : Int) = 19 := by unfold raiseE; rw [hm.lo, if_neg h1, atI_nat, if_pos h3]
      exact (raise_no2 hm hk rfl h3).mono fun a w' => stay he (by omega)
    · by_cases h4 : 1048575 ≤ G[k]?.getD 0
      · have he : raiseE O G (k : Int) = 6 := by unfold raiseE; rw [hm.lo, if_neg h1, atI_nat, atI_nat, if_neg h3, if_pos h4]
        exact (raise_no3 hm hk (by omega) rfl h4).mono fun a w' => stay he (by omega)
      · have he : raiseE O G (k : Int) = 0 := by unfold raiseE; rw [hm.lo, if_neg h1, atI_nat, atI_nat, if_neg h3, if_neg h4]
        unfold raiseV
        rw [he, if_pos rfl, Int.toNat_natCast, atI_nat]
        exact raise_yes hm hf hk (by omega) rfl h4

/-! ### tags that New did not give -/
theorem own_gone {v : Value} (h : Gone w v) (i x : Int) : Calls Try.prog 10 #[v, .int .i64 i, .int .i64 x] w fun e w' => e = .returned (.int .i64 16) ∧ w = w' := by
  have H := Lib.hid (chunk_gone h i)
  clear h
  go_enter Try.func10, Try.ntmps10
  go_wp2_with fail
  refine H.out.mono ?_
  rintro e w1 ⟨rfl, rfl⟩
  go_wp2
  go_ret
  exact ⟨rfl, rfl⟩
theorem leave_gone {v : Value} (h : Gone w v) (i : Int) : Calls Try.prog 12 #[v, .int .i64 i] w fun e w' => e = .returned (.int .i64 16) ∧ w = w' := by
  have H := Lib.hid (chunk_gone h i)
  clear h
  go_enter Try.func12, Try.ntmps12
  go_wp2_with fail
  refine H.out.mono ?_
  rintro e w1 ⟨rfl, rfl⟩
  go_wp2
  go_ret
  exact ⟨rfl, rfl⟩
theorem raise_gone {v : Value} (h : Gone w v) (i : Int) : Calls Try.prog 14 #[v, .int .i64 i] w fun e w' => e = .returned (.int .i64 16) ∧ w = w' := by
  have H := Lib.hid (chunk_gone h i)
  clear h
  go_enter Try.func14, Try.ntmps14
  go_wp2_with fail
  refine H.out.mono ?_
  rintro e w1 ⟨rfl, rfl⟩
  go_wp2
  go_ret
  exact ⟨rfl, rfl⟩
end
end Go.Proofs.Ytiidkfcblnkghaa
