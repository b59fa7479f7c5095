/- What the document's own answers for layer 2 (copyholdref02) and SameInts return: contracts. -/
import Derived.Test.YtopnogmfdkhlkaaDoorBitsList
namespace Go.Proofs.YtopnogmfdkhlkaaDoor
open Go.RowKit

/-- A slice of ints that reads as xs. -/
def IntsAt (w : World) (A : Option Addr) (xs : List Int) : Prop := xs = [] ∨ ∃ b off, A = some ⟨b, off, none⟩ ∧ b < w.heap.size ∧ ∀ (k : Nat) (x : Int), xs[k]? = some x → w.cell? ⟨b, off + k, none⟩ = some (.int .i64 x)
theorem IntsAt.at_ {w : World} {A : Option Addr} {xs : List Int} {k : Nat} (h : IntsAt w A xs) (hk : k < xs.length) : ∃ b off, A = some ⟨b, off, none⟩ ∧ w.cell? ⟨b, off + k, none⟩ = some (.int .i64 (xs[k]'hk)) := by
  rcases h with h | ⟨b, off, e, _, hc⟩
  · subst h; simp at hk
  · exact ⟨b, off, e, hc k _ (List.getElem?_eq_getElem hk)⟩
theorem IntsAt.keep {w w' : World} {A : Option Addr} {xs : List Int} (h : IntsAt w A xs) (hk : ∀ b, b < w.heap.size → w'.heap[b]? = w.heap[b]?) (hz : w.heap.size ≤ w'.heap.size) : IntsAt w' A xs := by
  rcases h with h | ⟨b, off, e, hb, hc⟩
  · exact .inl h
  · exact .inr ⟨b, off, e, Nat.lt_of_lt_of_le hb hz, fun k x hx => (World.cell?_of_block (w := w) (a := ⟨b, off + k, none⟩) (hk b hb)).trans (hc k x hx)⟩
theorem IntsAt.below {w w' : World} {A : Option Addr} {xs : List Int} (h : IntsAt w A xs) (hb : Below w.heap.size w w') : IntsAt w' A xs := h.keep hb.block hb.size
theorem IntsAt.drewN {w : World} {A : Option Addr} {xs : List Int} (h : IntsAt w A xs) (n : Nat) : IntsAt (w.drewN n) A xs := h
theorem IntsAt.alloc {w : World} {A : Option Addr} {xs : List Int} (h : IntsAt w A xs) (o : Obj) : IntsAt (w.alloc o) A xs := h.below ((Below.refl _ _).alloc (Nat.le_refl _) o)
theorem IntsAt.far {w w' : World} {A : Option Addr} {xs : List Int} {row : Option Nat} (h : IntsAt w A xs) (hg : w.grownBy w' row) (hne : ∀ b off, A = some ⟨b, off, none⟩ → some b ≠ row) : IntsAt w' A xs := by
  rcases h with h | ⟨b, off, e, hb, hc⟩
  · exact .inl h
  · exact .inr ⟨b, off, e, Nat.lt_of_lt_of_le hb hg.size, fun k x hx => hg.cell (hc k x hx) (hne b off e)⟩
/-- Numbers as ints. -/
def ints (l : List Nat) : List Int := l.map fun (i : Nat) => (i : Int)
theorem ints_length (l : List Nat) : (ints l).length = l.length := List.length_map ..
theorem ints_inj {l m : List Nat} : ints l = ints m ↔ l = m := by
  unfold ints
  constructor
  · exact fun h => (List.map_inj_right (f := fun (i : Nat) => (i : Int)) (fun a b e => by have : (a : Int) = (b : Int) := e; omega)).1 h
  · rintro rfl; rfl
theorem mem_ints {l : List Nat} {x : Nat} : (x : Int) ∈ ints l ↔ x ∈ l := by
  unfold ints
  rw [List.mem_map]
  constructor
  · rintro ⟨a, ha, e⟩
    have : a = x := by omega
    rw [← this]; exact ha
  · exact fun h => ⟨x, h, rfl⟩
theorem mem_listV {f : Nat → Bool} {n x : Nat} : x ∈ listV f n ↔ x < n ∧ f x = true := by unfold listV; rw [List.mem_filter]; simp
/-- What a call has made of ints reads so. -/
theorem own_ints {w : World} {base : Nat} {v : Value} {l : List Nat} (h : w.ownsRow base 3 1 v l.length (vals l)) : ∃ A c, v = .slice A l.length c ∧ IntsAt w A (ints l) ∧ ∀ b off, A = some ⟨b, off, none⟩ → base ≤ b := by
  rcases h.2 with ⟨rfl, hn⟩ | ⟨g, cap, cur, rfl, hb, hg, _, _, _, _⟩
  · exact ⟨none, 0, by rw [hn], .inl (by rw [List.eq_nil_of_length_eq_zero hn]; rfl), fun b off e => by cases e⟩
  · refine ⟨some ⟨g, 0, none⟩, cap, rfl, .inr ⟨g, 0, rfl, (Array.getElem?_eq_some_iff.1 hg).1, fun k x hx => ?_⟩, fun b off e => ?_⟩
    · have hk : k < l.length := by
        have := (List.getElem?_eq_some_iff.1 hx).1
        rwa [ints_length] at this
      have := World.ownsRow.cellAt h k (by omega)
      rw [Nat.zero_add, this]
      unfold vals
      unfold ints at hx
      rw [List.getElem?_map] at hx ⊢
      cases e : l[k]? with
      | none => rw [e] at hx; cases hx
      | some y => rw [e] at hx; simp at hx; simp [hx]
    · injection e with e
      injection e with e
      rw [← e]; exact hb

/-! ### SameInts -/
def sameInts (xs ys : List Int) : Bool := decide (xs = ys)
set_option maxHeartbeats 400000 in
theorem same_ints {w : World} {A B : Option Addr} {xs ys : List Int} {n m c d : Nat} (hx : IntsAt w A xs) (hy : IntsAt w B ys) (hn : n = xs.length) (hm : m = ys.length) (hl : xs.length ≤ 9223372036854775807) :
    Calls Tryd.prog 15 #[.slice A n c, .slice B m d] w fun e w' => e = .returned (.bool (sameInts xs ys)) ∧ ∃ n, w' = w.drewN n := by
  by_cases he : xs.length = ys.length
  · obtain rfl : n = m := by omega
    have hbb : ((n : Int) != (n : Int)) = false := by simp
    have hn1 : n ≤ 9223372036854775807 := by omega
    have HX := Lib.hid hx
    have HY := Lib.hid hy
    have HN := Lib.hid hn
    have HM := Lib.hid hm
    clear hx hy hn hm he hl
    go_enter Tryd.func15, Tryd.ntmps15
    go_wp2
    go_loopw [5] (fun i wr => ∃ k q : Nat, k ≤ n ∧ i = .int .i64 k ∧ wr = w.drewN q ∧ Hid (∀ j, j < k → xs[j]? = ys[j]?)) (fun i _ => n - (intOf i).toNat)
    case atStart => exact ⟨0, 0, by omega, rfl, rfl, fun j hj => by omega⟩
    case round =>
      obtain ⟨k, q, hk, rfl, rfl, hh⟩ := hrel
      by_cases hlt : k < n
      · have hxl : k < xs.length := by have := HN.out; omega
        have hyl : k < ys.length := by have := HM.out; omega
        obtain ⟨b, off, rfl, hc1⟩ := HX.out.at_ hxl
        obtain ⟨b', off', rfl, hc2⟩ := HY.out.at_ hyl
        have hi : 0 ≤ (k : Int) ∧ (k : Int) < (n : Int) := by omega
        have HQ : Hid (xs[k]? = some (xs[k]'hxl)) := List.getElem?_eq_getElem hxl
        have HQ' : Hid (ys[k]? = some (ys[k]'hyl)) := List.getElem?_eq_getElem hyl
        generalize xs[k]'hxl = x at *
        generalize ys[k]'hyl = y at *
        by_cases hxy : x = y
        · have hb2 : (x != y) = false := by simp [hxy]
          have HXY := Lib.hid hxy
          clear hxy
          go_wp2
          go_quiet (fail)
          go_wp2
          go_roundw
          case rel =>
            refine ⟨k + 1, q + nq, by omega, by go_num, rfl, fun j hj => ?_⟩
            by_cases e : j = k
            · rw [e, HQ.out, HQ'.out, HXY.out]
            · exact hh.out j (by omega)
          case measure => simp [intOf]; omega
        · have hb2 : (x != y) = true := by simp [hxy]
          have HE : Hid (sameInts xs ys = false) := by
            show _ = _
            unfold sameInts
            rw [decide_eq_false]
            intro e
            rw [e, HQ'.out] at HQ
            have := HQ.out
            injection this with this
            exact hxy this.symm
          clear hxy
          go_wp2
          go_quiet (fail)
          go_wp2
          go_ret
          exact ⟨ret_bool HE.out.symm, q + nq, World.drewN_drewN _ _ _⟩
      · go_wp2
        go_ret
        refine ⟨ret_bool ?_, q, rfl⟩
        symm
        unfold sameInts
        rw [decide_eq_true]
        have h1 := HN.out
        have h2 := HM.out
        refine List.ext_getElem? fun j => ?_
        by_cases hj : j < k
        · exact hh.out j hj
        · rw [List.getElem?_eq_none (by omega), List.getElem?_eq_none (by omega)]
  · have hbb : ((n : Int) != (m : Int)) = true := by simp; omega
    have HE : Hid (sameInts xs ys = false) := by
      show _ = _
      unfold sameInts
      rw [decide_eq_false]
      intro e
      exact he (by rw [e])
    clear he hn hm hl hx hy
    go_enter Tryd.func15, Tryd.ntmps15
    go_wp2
    go_ret
    exact ⟨ret_bool HE.out.symm, 0, rfl⟩

/-! ### Next, Last of a row of bools -/
def BoolsAt (w : World) (b n : Nat) (f : Nat → Bool) : Prop := w.rowIs b 4 n fun i => .bool (f i)
theorem BoolsAt.cell {w : World} {b n i : Nat} {f : Nat → Bool} (h : BoolsAt w b n f) (hi : i < n) : w.cell? ⟨b, i, none⟩ = some (.bool (f i)) := World.rowIs.cell h hi
theorem rnext_any {w : World} {b n : Nat} {f : Nat → Bool} (h : BoolsAt w b n f) (hn : n ≤ 1048576) (i : Int) :
    Calls Tryd.prog 18 #[.slice (some ⟨b, 0, none⟩) n n, .int .i64 i] w fun e w' => e = .returned (.int .i64 (nextV f n i)) ∧ w = w' := by
  have H := Lib.hid h
  clear h
  go_enter Tryd.func18, Tryd.ntmps18
  go_wp2
  go_loop [5] (fun k => ∃ j : Nat, j ≤ n ∧ k = .int .i64 j ∧ Hid (∀ x, (i + 1).toNat ≤ x → x < j → f x = false)) (fun k => n - (intOf k).toNat)
  case atStart => exact ⟨0, by omega, rfl, fun x _ hx => by omega⟩
  case round =>
    obtain ⟨j, hj, rfl, hh⟩ := hrel
    by_cases hlt : j < n
    · have hc := H.out.cell hlt
      have hi : 0 ≤ (j : Int) ∧ (j : Int) < (n : Int) := by omega
      cases hf : f j with
      | true =>
        rw [hf] at hc
        have HF := Lib.hid hf
        clear hf
        by_cases hgt : i < (j : Int)
        · go_wp2
          go_ret
          exact ⟨ret_int (seekV_some hlt (by omega) HF.out hh.out).symm, rfl⟩
        · go_wp2
          go_round
          case rel => exact ⟨j + 1, by omega, by go_num, fun x h1 h2 => by omega⟩
          case measure => simp [intOf]; omega
      | false =>
        rw [hf] at hc
        have HF := Lib.hid hf
        clear hf
        go_wp2
        go_round
        case rel =>
          refine ⟨j + 1, by omega, by go_num, fun x h1 h2 => ?_⟩
          by_cases e : x = j
          · rw [e]; exact HF.out
          · exact hh.out x h1 (by omega)
        case measure => simp [intOf]; omega
    · go_wp2
      go_ret
      exact ⟨ret_int (seekV_none fun x h1 h2 => hh.out x h1 (by omega)).symm, rfl⟩
theorem rlast_any {w : World} {b n : Nat} {f : Nat → Bool} (h : BoolsAt w b n f) (hn : n ≤ 1048576) :
    Calls Tryd.prog 20 #[.slice (some ⟨b, 0, none⟩) n n] w fun e w' => e = .returned (.int .i64 (lastV f n)) ∧ w = w' := by
  have H := Lib.hid h
  clear h
  go_enter Tryd.func20, Tryd.ntmps20
  go_wp2
  go_loop [3, 4] (fun o k => ∃ j : Nat, j ≤ n ∧ k = .int .i64 j ∧ o = .int .i64 (lastV f j)) (fun _ k => n - (intOf k).toNat)
  case atStart => exact ⟨0, by omega, rfl, rfl⟩
  case round =>
    obtain ⟨j, hj, rfl, rfl⟩ := hrel
    by_cases hlt : j < n
    · have hc := H.out.cell hlt
      have hi : 0 ≤ (j : Int) ∧ (j : Int) < (n : Int) := by omega
      have HS : Hid (lastV f (j + 1) = if f j then (j : Int) else lastV f j) := rfl
      cases hf : f j with
      | true =>
        rw [hf] at hc
        have HF := Lib.hid hf
        clear hf
        go_wp2
        go_round
        case rel => exact ⟨j + 1, by omega, by go_num, by rw [HS.out, if_pos HF.out]⟩
        case measure => simp [intOf]; omega
      | false =>
        rw [hf] at hc
        have HF := Lib.hid hf
        clear hf
        go_wp2
        go_round
        case rel => exact ⟨j + 1, by omega, by go_num, by rw [HS.out, if_neg (by rw [HF.out]; simp)]⟩
        case measure => simp [intOf]; omega
    · go_wp2
      go_ret
      have e : j = n := by omega
      subst e
      exact ⟨rfl, rfl⟩

/-! ### Run of a row of bools -/
theorem allF_succ (f : Nat → Bool) (i n : Nat) : allF f i (n + 1) = (allF f i n && f (i + n)) := by unfold allF; rw [List.range_succ, List.all_append]; simp
theorem rrun_any {w : World} {b n : Nat} {f : Nat → Bool} (h : BoolsAt w b n f) (hn : n ≤ 1048576) (ho : ∀ j, n ≤ j → f j = false) (k : Int) (hk2 : k ≤ 9223372036854775807) :
    Calls Tryd.prog 23 #[.slice (some ⟨b, 0, none⟩) n n, .int .i64 k] w fun e w' => e = .returned (.int .i64 (runV f n k)) ∧ w = w' := by
  have H := Lib.hid h
  have HO := Lib.hid ho
  clear h ho
  by_cases h1 : k < 1
  · have HE : Hid (runV f n k = -1) := if_pos h1
    go_enter Tryd.func23, Tryd.ntmps23
    go_wp2
    refine wp_loop_rounds 1 ?_; rw [rounds_succ]
    go_wp2
    go_ret
    exact ⟨ret_int HE.out.symm, rfl⟩
  · have HE : Hid (runV f n k = seekV (fun i => allF f i k.toNat) n 0) := if_neg h1
    obtain ⟨K, rfl⟩ : ∃ K : Nat, (K : Int) = k := ⟨k.toNat, by omega⟩
    rw [Int.toNat_natCast] at HE
    have h1' : 1 ≤ K := by omega
    go_enter Tryd.func23, Tryd.ntmps23
    go_wp2
    go_loop [5] (fun i => ∃ j : Nat, j ≤ n ∧ i = .int .i64 j ∧ Hid (∀ x, x < j → allF f x K = false)) (fun i => n - (intOf i).toNat)
    case atStart => exact ⟨0, by omega, rfl, fun x hx => by omega⟩
    case round =>
      obtain ⟨i, hi, rfl, hh⟩ := hrel
      by_cases hlt : i < n ∧ (K : Int) ≤ (n : Int) - (i : Int)
      · obtain ⟨hlt, hle⟩ := hlt
        go_wp2
        go_loop [6, 7] (fun a x => ∃ j : Nat, j ≤ K ∧ x = .int .i64 ((i + j : Nat) : Int) ∧ a = .bool (allF f i j)) (fun _ x => i + K - (intOf x).toNat)
        case atStart => exact ⟨0, by omega, rfl, rfl⟩
        case round =>
          obtain ⟨j, hj, rfl, rfl⟩ := hrel
          by_cases hlj : j < K
          · have hc := H.out.cell (i := i + j) (by omega)
            have HS := Lib.hid (allF_succ f i j)
            have hi2 : 0 ≤ ((i + j : Nat) : Int) ∧ ((i + j : Nat) : Int) < (n : Int) := by omega
            have hlt2 : ((i + j : Nat) : Int) < (i : Int) + (K : Int) := by omega
            generalize hx : i + j = x at *
            cases ha : allF f i j with
            | true =>
              rw [ha] at HS
              clear ha
              go_wp2
              go_round
              case rel => exact ⟨j + 1, by omega, by congr 1; omega, by rw [HS.out]; simp⟩
              case measure => simp [intOf]; omega
            | false =>
              rw [ha] at HS
              clear ha
              go_wp2
              go_round
              case rel => exact ⟨j + 1, by omega, by congr 1; omega, by rw [HS.out]; simp⟩
              case measure => simp [intOf]; omega
          · have e : j = K := by omega
            subst e
            have hlt2 : ¬ ((i + j : Nat) : Int) < (i : Int) + (j : Int) := by omega
            cases ha : allF f i j with
            | true =>
              have HA := Lib.hid ha
              clear ha
              go_wp2
              go_ret
              exact ⟨ret_int (by rw [HE.out]; exact (seekV_some (f := fun i => allF f i j) hlt (by omega) HA.out fun x _ hx => hh.out x hx).symm), rfl⟩
            | false =>
              have HA := Lib.hid ha
              clear ha
              go_wp2
              go_round
              case rel =>
                refine ⟨i + 1, by omega, by go_num, fun x hx => ?_⟩
                by_cases e : x = i
                · rw [e]; exact HA.out
                · exact hh.out x (by omega)
              case measure => simp [intOf]; omega
      · have hfin : Hid (-1 = runV f n K) := by
          show _ = _
          rw [HE.out]
          refine (seekV_none (f := fun i => allF f i K) fun x _ hx => ?_).symm
          by_cases hxi : x < i
          · exact hh.out x hxi
          · exact allF_no (j := n) (by omega) (by omega) (HO.out n (Nat.le_refl _))
        by_cases hlt2 : i < n
        · have hle : ¬ (K : Int) ≤ (n : Int) - (i : Int) := fun h => hlt ⟨hlt2, h⟩
          clear hlt
          go_wp2
          go_ret
          exact ⟨ret_int hfin.out, rfl⟩
        · clear hlt
          go_wp2
          go_ret
          exact ⟨ret_int hfin.out, rfl⟩
end Go.Proofs.YtopnogmfdkhlkaaDoor
