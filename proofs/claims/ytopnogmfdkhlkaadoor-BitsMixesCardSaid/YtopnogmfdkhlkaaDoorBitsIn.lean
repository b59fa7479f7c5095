/- The calls of package bits once more, each set known by the part of memory that it lies in: what turns lies in one part, and all else stays. For the statements' walks. -/
import Derived.Test.YtopnogmfdkhlkaaDoorBitsMix
import Derived.Test.YtopnogmfdkhlkaaDoorBitsBoth
namespace Go.Proofs.YtopnogmfdkhlkaaDoor
open Go.RowKit

/-- From w to w' nothing that was there has turned but in the part [lo, hi) of memory. -/
structure Chg (lo hi : Nat) (w w' : World) : Prop where
  os : w'.os = w.os
  tape : w'.tape = w.tape
  output : w'.output = w.output
  size : w.heap.size ≤ w'.heap.size
  block : ∀ k, k < w.heap.size → ¬ (lo ≤ k ∧ k < hi) → w'.heap[k]? = w.heap[k]?
theorem Chg.refl (lo hi : Nat) (w : World) : Chg lo hi w w := ⟨rfl, rfl, rfl, Nat.le_refl _, fun _ _ _ => rfl⟩
theorem Chg.trans {lo hi : Nat} {a b c : World} (h : Chg lo hi a b) (k : Chg lo hi b c) : Chg lo hi a c :=
  ⟨k.os.trans h.os, k.tape.trans h.tape, k.output.trans h.output, Nat.le_trans h.size k.size, fun i hi hn => (k.block i (Nat.lt_of_lt_of_le hi h.size) hn).trans (h.block i hi hn)⟩
theorem Chg.drewN (lo hi : Nat) (w : World) (n : Nat) : Chg lo hi w (w.drewN n) := ⟨rfl, rfl, rfl, Nat.le_refl _, fun _ _ _ => rfl⟩
theorem Chg.alloc (lo hi : Nat) (w : World) (o : Obj) : Chg lo hi w (w.alloc o) := ⟨rfl, rfl, rfl, by simp, fun k hk _ => Below.heap_alloc w o k hk⟩
theorem Chg.of_grown {lo hi : Nat} {w w' : World} {row : Option Nat} (h : w.grownBy w' row) (hr : ∀ k, row = some k → lo ≤ k ∧ k < hi) : Chg lo hi w w' :=
  ⟨h.os, h.tape, h.output, h.size, fun k hk hn => h.block k hk fun e => hn (hr k e.symm)⟩
theorem Chg.of_below {lo hi : Nat} {w w' : World} (h : Below w.heap.size w w') : Chg lo hi w w' := ⟨h.os, h.tape, h.output, h.size, fun k hk _ => h.block k hk⟩
theorem Chg.below {lo hi B : Nat} {a w w' : World} (h : Chg lo hi w w') (hb : Below B a w) (hB : B ≤ w.heap.size) (hlo : B ≤ lo ∨ hi ≤ lo) : Below B a w' :=
  hb.trans ⟨h.os, h.tape, h.output, h.size, fun k hk => h.block k (by omega) (by omega)⟩
theorem Chg.mono {lo hi lo' hi' : Nat} {w w' : World} (h : Chg lo hi w w') (h1 : lo' ≤ lo) (h2 : hi ≤ hi') : Chg lo' hi' w w' :=
  ⟨h.os, h.tape, h.output, h.size, fun k hk hn => h.block k hk (by omega)⟩
theorem TabOk.chg {lo hi : Nat} {w w' : World} (h : TabOk w) (hc : Chg lo hi w w') (hlo : 0 < lo ∨ hi ≤ lo) : TabOk w' :=
  fun j hj => (World.cell?_of_block (w := w) (a := ⟨0, j, none⟩) (hc.block 0 h.lt (by omega))).trans (h j hj)

/-- The set f of that size lies in [lo, hi). -/
def SetIn (w : World) (lo hi : Nat) (v : Value) (size : Nat) (f : Nat → Bool) : Prop := ∃ g A, v = .pointer (some ⟨g, 0, none⟩) ∧ SetAt w g A size f ∧ lo ≤ g ∧ g < hi ∧ hi ≤ w.heap.size ∧ ∀ b, A = some ⟨b, 0, none⟩ → lo ≤ b ∧ b < hi
theorem SetIn.chg {lo hi lo' hi' size : Nat} {w w' : World} {v : Value} {f : Nat → Bool} (h : SetIn w lo hi v size f) (hc : Chg lo' hi' w w') (hd : hi ≤ lo' ∨ hi' ≤ lo ∨ hi' ≤ lo') : SetIn w' lo hi v size f := by
  obtain ⟨g, A, e, hs, h1, h2, h3, h4⟩ := h
  refine ⟨g, A, e, hs.keep (hc.block g hs.lt (by omega)) (fun b eb hl => hc.block b hl ?_), h1, h2, Nat.le_trans h3 hc.size, h4⟩
  have := h4 b eb
  omega
theorem SetIn.congr {lo hi size : Nat} {w : World} {v : Value} {f f' : Nat → Bool} (h : SetIn w lo hi v size f) (e : ∀ j, f j = f' j) : SetIn w lo hi v size f' := by
  have : f = f' := funext e
  subst this; exact h
theorem SetIn.out {lo hi size : Nat} {w : World} {v : Value} {f : Nat → Bool} (h : SetIn w lo hi v size f) : ∀ j, size ≤ j → f j = false := by
  obtain ⟨g, A, e, hs, _⟩ := h
  exact hs.out
theorem SetIn.small {lo hi size : Nat} {w : World} {v : Value} {f : Nat → Bool} (h : SetIn w lo hi v size f) : size ≤ 1048576 := by
  obtain ⟨g, A, e, hs, _⟩ := h
  exact hs.small
theorem SetIn.ptr {lo hi size : Nat} {w : World} {v : Value} {f : Nat → Bool} (h : SetIn w lo hi v size f) : PtrAt w v size f := by
  obtain ⟨g, A, e, hs, _⟩ := h
  exact .inr ⟨g, A, e, hs⟩

def NewIn (w : World) (size : Nat) (f : Nat → Bool) (e : Ending) (w' : World) : Prop := ∃ g, e = .returned (.pointer (some ⟨g, 0, none⟩)) ∧ SetIn w' w.heap.size w'.heap.size (.pointer (some ⟨g, 0, none⟩)) size f ∧ Below w.heap.size w w'
theorem new_in {w : World} {n : Nat} (h : n ≤ 1048576) : Calls Tryd.prog 8 #[.int .i64 n] w (NewIn w n none_) :=
  (new_any n w h).mono fun _ _ ⟨g, b, e, h1, h2, _, h4, h5, h6⟩ => ⟨g, e, ⟨g, _, rfl, h4, h1, h4.lt, Nat.le_refl _, fun b' eb => by injection eb with eb; injection eb with eb; rw [← eb]; exact ⟨h2, h6.lt⟩⟩, h5⟩
theorem newset_in {w : World} {size : Nat} {f : Nat → Bool} {e : Ending} {w' : World} (h : NewSet size f w e w') : NewIn w size f e w' := by
  obtain ⟨g, b, e, h1, h2, h3, h4, h5, h6⟩ := h
  refine ⟨g, e, ⟨g, _, rfl, h4, h1, h4.lt, Nat.le_refl _, fun b' eb => ?_⟩, h5⟩
  injection eb with eb
  injection eb with eb
  subst eb
  refine ⟨h2, ?_⟩
  exact h6

/-- f with i, if it is below size. -/
def putF (size : Nat) (f : Nat → Bool) (i : Int) : Nat → Bool := fun j => f j || (decide ((j : Int) = i) && decide (j < size))
def dropF (f : Nat → Bool) (i : Int) : Nat → Bool := fun j => f j && !decide ((j : Int) = i)
def putB (size : Nat) (f : Nat → Bool) (i : Int) : Bool := decide (0 ≤ i ∧ i < size) && !f i.toNat
def dropB (size : Nat) (f : Nat → Bool) (i : Int) : Bool := decide (0 ≤ i ∧ i < size) && f i.toNat
def hasF (size : Nat) (f : Nat → Bool) (i : Int) : Bool := decide (0 ≤ i ∧ i < size) && f i.toNat
def StepIn (w : World) (lo hi : Nat) (v : Value) (size : Nat) (f : Nat → Bool) (r : Bool) (e : Ending) (w' : World) : Prop := e = .returned (.bool r) ∧ SetIn w' lo hi v size f ∧ Chg lo hi w w'
theorem has_at {w : World} {lo hi size : Nat} {v : Value} {f : Nat → Bool} (h : SetIn w lo hi v size f) (i : Int) : Calls Tryd.prog 9 #[v, .int .i64 i] w fun e w' => e = .returned (.bool (hasF size f i)) ∧ ∃ n, w' = w.drewN n := by
  obtain ⟨g, A, rfl, hs, _⟩ := h
  by_cases hi : 0 ≤ i ∧ i < size
  · obtain ⟨k, rfl⟩ := Int.eq_ofNat_of_zero_le hi.1
    have e : hasF size f (k : Int) = f k := by unfold hasF; rw [decide_eq_true hi]; simp
    rw [e]
    exact has_in hs (by omega)
  · have e : hasF size f i = false := by unfold hasF; rw [decide_eq_false hi]; rfl
    rw [e]
    exact has_out hs hi
theorem put_at {w : World} {lo hi size : Nat} {v : Value} {f : Nat → Bool} (h : SetIn w lo hi v size f) (i : Int) : Calls Tryd.prog 10 #[v, .int .i64 i] w (StepIn w lo hi v size (putF size f i) (putB size f i)) := by
  obtain ⟨g, A, rfl, hs, h1, h2, h3, h4⟩ := h
  by_cases hi : 0 ≤ i ∧ i < size ∧ f i.toNat = false
  · obtain ⟨h5, h6, h7⟩ := hi
    obtain ⟨k, rfl⟩ := Int.eq_ofNat_of_zero_le h5
    have hk : k < size := by omega
    have e : putB size f (k : Int) = true := by unfold putB; rw [decide_eq_true ⟨h5, h6⟩, h7]; rfl
    have ef : ∀ j, upd f k true j = putF size f (k : Int) j := fun j => by
      unfold upd putF
      by_cases ej : j = k
      · subst ej; simp [hk]
      · have : ¬ ((j : Int) = (k : Int)) := by omega
        simp [ej, this]
    rw [e]
    refine (put_yes hs hk (by simpa using h7)).mono fun _ w' ⟨he, hs', hg⟩ => ⟨he, ⟨g, A, rfl, hs'.congr ef, h1, h2, Nat.le_trans h3 hg.size, h4⟩, Chg.of_grown hg fun b eb => ?_⟩
    obtain ⟨b', rfl, _⟩ := hs.body.at_ (div_lt_nw hk)
    simp only [rowOf, Option.map_some, Option.some.injEq] at eb
    rw [← eb]; exact h4 b' rfl
  · have e : putB size f i = false := by
      unfold putB
      by_cases hd : 0 ≤ i ∧ i < size
      · have : f i.toNat = true := by
          cases hf : f i.toNat with
          | true => rfl
          | false => exact absurd ⟨hd.1, hd.2, hf⟩ hi
        rw [this]; simp
      · rw [decide_eq_false hd]; rfl
    have ef : ∀ j, f j = putF size f i j := fun j => by
      unfold putF
      by_cases ej : (j : Int) = i
      · by_cases hj : j < size
        · have : f j = true := by
            cases hf : f j with
            | true => rfl
            | false => exact absurd ⟨by omega, by omega, by rw [← ej]; simpa using hf⟩ hi
          simp [this]
        · simp [hj]
      · simp [ej]
    rw [e]
    exact (put_no hs hi).mono fun _ w' ⟨he, n, hw⟩ => by
      subst hw
      exact ⟨he, ⟨g, A, rfl, (hs.drewN n).congr ef, h1, h2, h3, h4⟩, Chg.drewN _ _ _ _⟩
theorem drop_at {w : World} {lo hi size : Nat} {v : Value} {f : Nat → Bool} (h : SetIn w lo hi v size f) (i : Int) : Calls Tryd.prog 11 #[v, .int .i64 i] w (StepIn w lo hi v size (dropF f i) (dropB size f i)) := by
  obtain ⟨g, A, rfl, hs, h1, h2, h3, h4⟩ := h
  by_cases hi : 0 ≤ i ∧ i < size ∧ f i.toNat = true
  · obtain ⟨h5, h6, h7⟩ := hi
    obtain ⟨k, rfl⟩ := Int.eq_ofNat_of_zero_le h5
    have hk : k < size := by omega
    have e : dropB size f (k : Int) = true := by unfold dropB; rw [decide_eq_true ⟨h5, h6⟩, h7]; rfl
    have ef : ∀ j, upd f k false j = dropF f (k : Int) j := fun j => by
      unfold upd dropF
      by_cases ej : j = k
      · subst ej; simp
      · have : ¬ ((j : Int) = (k : Int)) := by omega
        simp [ej, this]
    rw [e]
    refine (drop_yes hs hk (by simpa using h7)).mono fun _ w' ⟨he, hs', hg⟩ => ⟨he, ⟨g, A, rfl, hs'.congr ef, h1, h2, Nat.le_trans h3 hg.size, h4⟩, Chg.of_grown hg fun b eb => ?_⟩
    obtain ⟨b', rfl, _⟩ := hs.body.at_ (div_lt_nw hk)
    simp only [rowOf, Option.map_some, Option.some.injEq] at eb
    rw [← eb]; exact h4 b' rfl
  · have e : dropB size f i = false := by
      unfold dropB
      by_cases hd : 0 ≤ i ∧ i < size
      · have : f i.toNat = false := by
          cases hf : f i.toNat with
          | false => rfl
          | true => exact absurd ⟨hd.1, hd.2, hf⟩ hi
        rw [this]; simp
      · rw [decide_eq_false hd]; rfl
    have ef : ∀ j, f j = dropF f i j := fun j => by
      unfold dropF
      by_cases ej : (j : Int) = i
      · by_cases hj : j < size
        · have : f j = false := by
            cases hf : f j with
            | false => rfl
            | true => exact absurd ⟨by omega, by omega, by rw [← ej]; simpa using hf⟩ hi
          simp [this]
        · simp [hs.out j (by omega)]
      · simp [ej]
    rw [e]
    exact (drop_no hs hi).mono fun _ w' ⟨he, n, hw⟩ => by
      subst hw
      exact ⟨he, ⟨g, A, rfl, (hs.drewN n).congr ef, h1, h2, h3, h4⟩, Chg.drewN _ _ _ _⟩
theorem size_at {w : World} {lo hi size : Nat} {v : Value} {f : Nat → Bool} (h : SetIn w lo hi v size f) : Calls Tryd.prog 13 #[v] w fun e w' => e = .returned (.int .i64 size) ∧ w = w' := by
  obtain ⟨g, A, rfl, hs, _⟩ := h
  exact size_any hs
theorem next_at {w : World} {lo hi size : Nat} {v : Value} {f : Nat → Bool} (h : SetIn w lo hi v size f) (hT : TabOk w) {i r : Int} (hi : -9223372036854775808 ≤ i) (hr : nextV f size i = r) : Calls Tryd.prog 21 #[v, .int .i64 i] w fun e w' => e = .returned (.int .i64 r) ∧ w = w' := by
  obtain ⟨g, A, rfl, hs, _⟩ := h
  rw [← hr]; exact next_any hs hT i hi
theorem first_at {w : World} {lo hi size : Nat} {v : Value} {f : Nat → Bool} (h : SetIn w lo hi v size f) (hT : TabOk w) {r : Int} (hr : nextV f size (-1) = r) : Calls Tryd.prog 17 #[v] w fun e w' => e = .returned (.int .i64 r) ∧ w = w' := by
  obtain ⟨g, A, rfl, hs, _⟩ := h
  rw [← hr]; exact first_any hs hT
theorem last_at {w : World} {lo hi size : Nat} {v : Value} {f : Nat → Bool} (h : SetIn w lo hi v size f) {r : Int} (hr : lastV f size = r) : Calls Tryd.prog 19 #[v] w fun e w' => e = .returned (.int .i64 r) ∧ w = w' := by
  obtain ⟨g, A, rfl, hs, _⟩ := h
  rw [← hr]; exact last_any hs
theorem run_at {w : World} {lo hi size : Nat} {v : Value} {f : Nat → Bool} (h : SetIn w lo hi v size f) (hT : TabOk w) {n r : Int} (hn : n ≤ 9223372036854775807) (hr : runV f size n = r) : Calls Tryd.prog 22 #[v, .int .i64 n] w fun e w' => e = .returned (.int .i64 r) ∧ w = w' := by
  obtain ⟨g, A, rfl, hs, _⟩ := h
  rw [← hr]; exact run_any hs hT n hn
theorem count_at {w : World} {lo hi size : Nat} {v : Value} {f : Nat → Bool} (h : SetIn w lo hi v size f) {r : Int} (hr : (cnt f size : Int) = r) : Calls Tryd.prog 14 #[v] w fun e w' => e = .returned (.int .i64 r) ∧ SetIn w' lo hi v size f ∧ Chg lo hi w w' := by
  obtain ⟨g, A, rfl, hs, h1, h2, h3, h4⟩ := h
  rw [← hr]
  exact (count_any hs).mono fun _ w' ⟨he, hs', hg⟩ => ⟨he, ⟨g, A, rfl, hs', h1, h2, Nat.le_trans h3 hg.size, h4⟩, Chg.of_grown hg fun b eb => by injection eb with eb; rw [← eb]; exact ⟨h1, h2⟩⟩
/-- A slice of ints that lies in [lo, hi). -/
def IntsIn (w : World) (lo hi : Nat) (A : Option Addr) (xs : List Int) : Prop := IntsAt w A xs ∧ hi ≤ w.heap.size ∧ ∀ b off, A = some ⟨b, off, none⟩ → lo ≤ b ∧ b < hi
theorem IntsIn.chg {lo hi lo' hi' : Nat} {w w' : World} {A : Option Addr} {xs : List Int} (h : IntsIn w lo hi A xs) (hc : Chg lo' hi' w w') (hd : hi ≤ lo' ∨ hi' ≤ lo ∨ hi' ≤ lo') : IntsIn w' lo hi A xs := by
  obtain ⟨h1, h2, h3⟩ := h
  refine ⟨?_, Nat.le_trans h2 hc.size, h3⟩
  rcases h1 with h | ⟨b, off, e, hb, hcell⟩
  · exact .inl h
  · have := h3 b off e
    exact .inr ⟨b, off, e, Nat.lt_of_lt_of_le hb hc.size, fun k x hx => (World.cell?_of_block (w := w) (a := ⟨b, off + k, none⟩) (hc.block b hb (by omega))).trans (hcell k x hx)⟩
theorem own_in {w0 w : World} {v : Value} {l : List Nat} (h : w.ownsRow w0.heap.size 3 1 v l.length (vals l)) : ∃ A c, v = .slice A l.length c ∧ IntsIn w w0.heap.size w.heap.size A (ints l) := by
  obtain ⟨A, c, e, hi, hb⟩ := own_ints h
  refine ⟨A, c, e, hi, Nat.le_refl _, fun b off eb => ⟨hb b off eb, ?_⟩⟩
  have := (h.lt b (by rw [e, eb]; rfl)).2
  exact this
/-- What List gives lies behind all that was there. -/
def ListIn (w : World) (lo hi : Nat) (v : Value) (size : Nat) (f : Nat → Bool) (e : Ending) (w' : World) : Prop :=
  ∃ A c, e = .returned (.slice A (cnt f size) c) ∧ IntsIn w' w.heap.size w'.heap.size A (ints (listV f size)) ∧ SetIn w' lo hi v size f ∧ Chg lo hi w w'
theorem list_at {w : World} {lo hi size : Nat} {v : Value} {f : Nat → Bool} (h : SetIn w lo hi v size f) (hT : TabOk w) (hlo : 0 < lo) : Calls Tryd.prog 16 #[v] w (ListIn w lo hi v size f) := by
  obtain ⟨g, A, rfl, hs, h1, h2, h3, h4⟩ := h
  refine (list_any hs hT (by omega)).mono fun _ w' ⟨u, he, ho, hs', hg⟩ => ?_
  rw [← listV_length] at ho
  obtain ⟨A', c, rfl, hi⟩ := own_in ho
  rw [listV_length] at he
  exact ⟨A', c, he, hi, ⟨g, A, rfl, hs', h1, h2, Nat.le_trans h3 hg.size, h4⟩, Chg.of_grown hg fun b eb => by injection eb with eb; rw [← eb]; exact ⟨h1, h2⟩⟩
theorem same_is {w : World} {A B : Option Addr} {xs ys : List Int} {n m c d : Nat} (hx : IntsAt w A xs) (hy : IntsAt w B ys) (hn : n = xs.length) (hm : m = ys.length) (hl : xs.length ≤ 9223372036854775807) {r : Bool} (hr : sameInts xs ys = r) :
    Calls Tryd.prog 15 #[.slice A n c, .slice B m d] w fun e w' => e = .returned (.bool r) ∧ ∃ n, w' = w.drewN n := by
  rw [← hr]; exact same_ints hx hy hn hm hl
end Go.Proofs.YtopnogmfdkhlkaaDoor
