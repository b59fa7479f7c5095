/- Layer 5 (chain): what List gives: a contract. -/
import Derived.Test.YtffpnpcbfogemaaChainPut
import Derived.Test.YtffpnpcbfogemaaBaseList
namespace Go.Proofs.Ytffpnpcbfogemaa
open Go.RowKit
variable {w w' : World} {g : Nat} {R P : Option Nat} {L N : Nat} {F La C Pb Pn Pl : Nat → Int} {br bp : Nat} {lo hi : Nat} {v : Value} {m : Nat → List Nat}

/-- How many of l stand from x on. -/
def leftN (l : List Nat) (x : Int) : Nat := if x < 0 then 0 else l.length - l.idxOf x.toNat
theorem left_hd {l d r : List Nat} (e : l = d ++ r) (hn : l.Nodup) : leftN l (hd r (-1)) = r.length := by
  cases r with
  | nil => exact if_pos (by decide)
  | cons y t =>
    have hy : y ∉ d := fun h => by
      rw [e] at hn
      exact (List.nodup_append.1 hn).2.2 y h y (by simp) rfl
    show leftN l (y : Int) = _
    unfold leftN
    rw [if_neg (by omega), Int.toNat_natCast, e, List.idxOf_append, if_neg hy, List.idxOf_cons_self, List.length_append]
    omega
theorem own_below {base n : Nat} {t : TypeId} {u : Value} {xs : List Value} (h : w.ownsRow base t 1 u n xs) (hb : Below w.heap.size w w') : w'.ownsRow base t 1 u n xs :=
  h.kept (grown_of_below hb none) (by cases u.ownBlock with
    | none => exact .inl rfl
    | some _ => exact .inr (by simp))
theorem rowOf_ex (hI : Inv L N m) (x : Int) : ∃ i, rowOf m x = m i := by
  unfold rowOf
  split
  · exact ⟨_, rfl⟩
  · exact ⟨L, (hI.none L (Nat.le_refl _)).symm⟩
def MadeList (w : World) (l : List Nat) (e : Ending) (w' : World) : Prop := ∃ v, e = .returned v ∧ ListAt w' w.heap.size v l ∧ Below w.heap.size w w'
set_option maxHeartbeats 800000 in
theorem list_is (h : ChainIn w lo hi v L N m) {x : Int} {l : List Nat} (hl : rowOf m x = l) : Calls Try.prog 14 #[v, .int .i64 x] w (MadeList w l) := by
  obtain ⟨i0, hi0, hz0, hz1, hz2⟩ := info_parts int_info
  have hsm := h.small
  obtain ⟨i, ei⟩ := rowOf_ex h.1 x
  rw [hl] at ei
  have hlen : l.length ≤ N := by rw [ei]; exact h.1.len i
  obtain ⟨n, en⟩ : ∃ n, l.length = n := ⟨_, rfl⟩
  have hmk := fun W => run_make (P := Try.prog) W 38 3 i0 (.int .i64 0) Try.underlying38 hi0 hz0 .i64 .i64 0 n (by omega) (by omega) (by rw [hz2]; omega) (by omega)
  have hmk' : ∀ W : World, (Instr.makeSlice 38 (.int .i64 0) (.int .i64 n)).run Try.prog W = .ok (.slice (some ⟨W.heap.size, 0, none⟩) 0 n) (W.alloc (.cells (madeCells #[.int .i64 0] n) 3)) := fun W => by
    have := hmk W
    rw [hz1, Nat.mul_one, show (Value.int .i64 0).cells = #[.int .i64 0] from rfl] at this
    simpa using this
  have HI := Lib.hid hi0
  have HZ0 := Lib.hid hz0
  have HZ1 := Lib.hid hz1
  have HZ2 := Lib.hid hz2
  have HM : Hid (l = m i) := ei
  have HX : Hid (rowOf m x = l) := hl
  have HND : Hid (l.Nodup) := by show _; rw [ei]; exact h.1.nodup i
  have hle : n ≤ 1048576 := by omega
  have HN := Lib.hid en
  clear hmk hi0 hz0 hz1 hz2 ei hl hlen hsm en
  go_enter Try.func14, Try.ntmps14
  go_wp2_with fail
  refine (len_is (r := n) h (by rw [HX.out]; exact HN.out)).mono ?_
  rintro e w1 ⟨rfl, b1⟩
  have h1 := h.below b1
  have h2 := h1.alloc (.cells (madeCells #[.int .i64 0] n) 3)
  have hown0 : (w1.alloc (.cells (madeCells #[.int .i64 0] n) 3)).ownsRow w1.heap.size 3 1 (.slice (some ⟨w1.heap.size, 0, none⟩) 0 n) 0 (vals []) :=
    World.ownsRow_made w1 _ _ (Nat.le_refl _) (by unfold maxLen; omega) (by rw [size_madeCells, Nat.mul_one])
  have b2 : Below w1.heap.size w1 (w1.alloc (.cells (madeCells #[.int .i64 0] n) 3)) := (Below.refl _ _).alloc (Nat.le_refl _) _
  have hs1 := b1.size
  clear h
  go_wp2_with fail
  refine (first_is (r := hd l (-1)) h2 (by rw [HX.out])).mono ?_
  rintro e w2 ⟨rfl, b3⟩
  have b4 := b2.trans (b3.mono b2.size)
  have own2 := own_below hown0 b3
  have H1 := Lib.hid h1
  clear h1 h2 b2 b3 hown0 hmk'
  go_wp2
  go_loopw [5, 6] (fun u x wr => ∃ d r : List Nat, Hid (l = d ++ r) ∧ x = .int .i64 (hd r (-1)) ∧ wr.ownsRow w1.heap.size 3 1 u d.length (vals d) ∧ Below w1.heap.size w1 wr) (fun _ x _ => leftN l (intOf x))
  case atStart => exact ⟨[], l, rfl, rfl, own2, b4⟩
  case round =>
    clear own2 b4
    obtain ⟨d, r, hdr, rfl, hown, hbel⟩ := hrel
    cases r with
    | nil =>
      rw [show hd [] (-1) = -1 from rfl]
      go_wp2
      go_ret
      have e : l = d := by rw [hdr.out, List.append_nil]
      subst e
      exact ⟨_, rfl, (own_list hown rfl).more hs1, b1.trans (hbel.mono hs1)⟩
    | cons y t =>
      rw [show hd (y :: t) (-1) = (y : Int) from rfl]
      have hne : ((y : Int) != -1) = true := by simp
      have HS : Hid (Spot m (y : Int) (i : Int) (lst d (-1)) (hd t (-1))) := .at_ i d y t rfl (by rw [← HM.out, hdr.out])
      have hdl : d.length < n := by have := HN.out; rw [hdr.out, List.length_append, List.length_cons] at this; omega
      go_wp2_with (at_builtin; refine wpList_append_own _ rfl _ _ 38 rfl w1.heap.size 3 i0 (.int .i64 0) 1 8 Try.underlying38 HI.out HZ0.out HZ1.out HZ2.out rfl (by decide) _ _ _ rfl (hown.alloc _) ⟨wr.heap.size, 0, none⟩ 1 1 [.int .i64 y] rfl rfl (new_one _ _ _) (one_int _ _) (by unfold maxLen; omega) (by omega) (by have := hbel.size; simp; omega) ?_; intro v' w4 hown2 hgr2 _)
      have b5 := (hbel.alloc hbel.size (.cells #[.int .i64 (y : Int)] 3)).grown hgr2 (by have := hbel.size; simp; omega) fun x hx => (hown.lt x hx).1
      refine (next_is (H1.out.below b5) HS.out).mono ?_
      rintro e w5 ⟨rfl, b6⟩
      have own5 := own_below hown2 b6
      have b7 := b5.trans (b6.mono b5.size)
      rw [show vals d ++ [.int .i64 (y : Int)] = vals (d ++ [y]) by rw [vals_append]; rfl] at own5
      have HE : Hid (l = (d ++ [y]) ++ t) := by show _ = _; rw [hdr.out]; simp
      have HL1 : Hid (leftN l (y : Int) = (y :: t).length) := left_hd hdr.out HND.out
      have HL2 : Hid (leftN l (hd t (-1)) = t.length) := left_hd HE.out HND.out
      clear hown hbel hown2 hgr2 b5 b6
      go_wp2
      go_roundw
      case rel => exact ⟨d ++ [y], t, HE, rfl, by rw [List.length_append]; exact own5, b7⟩
      case measure =>
        simp only [intOf]
        rw [HL1.out, HL2.out]
        simp
end Go.Proofs.Ytffpnpcbfogemaa
