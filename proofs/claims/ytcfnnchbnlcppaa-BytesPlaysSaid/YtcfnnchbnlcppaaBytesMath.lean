/- Layer 10 (bytes): plain mathematics: the byte at a place of a text, texts cut and joined, how many bytes are not 0, rows of 64 bytes, which of them are not all 0, the runs of bytes that are not 0. -/
import Derived.Test.YtcfnnchbnlcppaaBase
namespace Go.Proofs.Ytcfnnchbnlcppaa

/-- The byte at a place of a text; 0 beyond it. -/
def byteAt (s : ByteArray) (j : Nat) : UInt8 := s.data[j]?.getD 0
theorem byteAt_ge {s : ByteArray} {j : Nat} (h : s.size ≤ j) : byteAt s j = 0 := by
  unfold byteAt
  rw [Array.getElem?_eq_none h]
  rfl
theorem byteAt_lt {s : ByteArray} {j : Nat} (h : j < s.size) : s[j]? = some (byteAt s j) := by
  have h' : j < s.data.size := h
  unfold byteAt
  rw [ByteArray.getElem?_lt' s j h, Array.getElem?_eq_getElem h']
  rfl
theorem bytes_ext {s t : ByteArray} (h : s.size = t.size) (hb : ∀ j, j < s.size → byteAt s j = byteAt t j) : s = t := by
  apply ByteArray.ext
  have h' : s.data.size = t.data.size := h
  apply Array.ext h'
  intro i h1 h2
  have := hb i h1
  unfold byteAt at this
  rw [Array.getElem?_eq_getElem h1, Array.getElem?_eq_getElem h2] at this
  exact this
theorem size_extract (s : ByteArray) (a b : Nat) : (s.extract a b).size = min b s.size - a := by simp
theorem byteAt_extract (s : ByteArray) (a b j : Nat) : byteAt (s.extract a b) j = if a + j < min b s.size then byteAt s (a + j) else 0 := by
  unfold byteAt
  rw [ByteArray.data_extract, Array.getElem?_extract]
  have : s.data.size = s.size := rfl
  by_cases h : a + j < min b s.size
  · rw [if_pos h, if_pos (by omega)]
  · rw [if_neg h, if_neg (by omega)]
    rfl
theorem byteAt_append (s t : ByteArray) (j : Nat) : byteAt (s ++ t) j = if j < s.size then byteAt s j else byteAt t (j - s.size) := by
  unfold byteAt
  rw [ByteArray.data_append, Array.getElem?_append]
  have : s.data.size = s.size := rfl
  rw [this]
  split <;> rfl
theorem size_append (s t : ByteArray) : (s ++ t).size = s.size + t.size := by simp
theorem byteAt_mk (l : List UInt8) (j : Nat) : byteAt ⟨l.toArray⟩ j = l[j]?.getD 0 := by unfold byteAt; simp
theorem size_mk (l : List UInt8) : (ByteArray.mk l.toArray).size = l.length := by simp [ByteArray.size]

/-- So many bytes of 0. -/
def zeros (n : Nat) : ByteArray := ⟨(List.replicate n (0 : UInt8)).toArray⟩
theorem zeros_size (n : Nat) : (zeros n).size = n := by unfold zeros; rw [size_mk, List.length_replicate]
theorem byteAt_zeros (n j : Nat) : byteAt (zeros n) j = 0 := by
  unfold zeros
  rw [byteAt_mk, List.getElem?_replicate]
  split <;> rfl

/-- The bytes c with those of t from a on. -/
def putF (c : Nat → UInt8) (a : Nat) (t : ByteArray) : Nat → UInt8 := fun j => if a ≤ j ∧ j < a + t.size then byteAt t (j - a) else c j
/-- A text with t laid over it from a on. -/
def putS (s : ByteArray) (a : Nat) (t : ByteArray) : ByteArray := s.extract 0 a ++ t ++ s.extract (a + t.size) s.size
theorem putS_size {s : ByteArray} {a : Nat} {t : ByteArray} (h : a + t.size ≤ s.size) : (putS s a t).size = s.size := by
  unfold putS
  rw [size_append, size_append, size_extract, size_extract]
  omega
theorem putS_at {s : ByteArray} {a : Nat} {t : ByteArray} (h : a + t.size ≤ s.size) : byteAt (putS s a t) = putF (byteAt s) a t := by
  funext j
  unfold putS putF
  rw [byteAt_append, byteAt_append, size_append, byteAt_extract, byteAt_extract, size_extract]
  have e1 : min a s.size - 0 = a := by omega
  have e2 : min a s.size = a := by omega
  rw [e1, e2, Nat.min_self]
  by_cases h1 : j < a
  · rw [if_pos (show j < a + t.size by omega), if_pos h1, if_pos (show 0 + j < a by omega), if_neg (show ¬ (a ≤ j ∧ j < a + t.size) by omega), Nat.zero_add]
  · by_cases h2 : j < a + t.size
    · rw [if_pos h2, if_neg h1, if_pos (show a ≤ j ∧ j < a + t.size by omega)]
    · rw [if_neg h2, if_neg (show ¬ (a ≤ j ∧ j < a + t.size) by omega)]
      by_cases h3 : j < s.size
      · rw [if_pos (by omega)]
        congr 1
        omega
      · rw [if_neg (by omega), byteAt_ge (by omega)]

/-! ### how many are not 0 -/
def cnt (c : Nat → UInt8) : Nat → Nat
  | 0 => 0
  | n + 1 => cnt c n + if c n = 0 then 0 else 1
theorem cnt_le (c : Nat → UInt8) : ∀ n, cnt c n ≤ n
  | 0 => Nat.le_refl _
  | n + 1 => by
    have := cnt_le c n
    show cnt c n + _ ≤ _
    split <;> omega
theorem cnt_zero {c : Nat → UInt8} : ∀ {n : Nat}, cnt c n = 0 ↔ ∀ j, j < n → c j = 0
  | 0 => by simp [cnt]
  | n + 1 => by
    show cnt c n + _ = 0 ↔ _
    constructor
    · intro h j hj
      by_cases h0 : c n = 0
      · rw [if_pos h0] at h
        rcases Nat.lt_or_ge j n with h1 | h1
        · exact cnt_zero.1 (by omega) j h1
        · obtain rfl : j = n := by omega
          exact h0
      · rw [if_neg h0] at h
        omega
    · intro h
      rw [if_pos (h n (by omega)), cnt_zero.2 fun j hj => h j (by omega)]
theorem cnt_add (c : Nat → UInt8) (m : Nat) : ∀ n, cnt c (m + n) = cnt c m + cnt (fun i => c (m + i)) n
  | 0 => rfl
  | n + 1 => by
    show cnt c (m + n) + (if c (m + n) = 0 then 0 else 1) = cnt c m + (cnt (fun i => c (m + i)) n + if c (m + n) = 0 then 0 else 1)
    rw [cnt_add c m n, Nat.add_assoc]
theorem cnt_more {c : Nat → UInt8} {m n : Nat} (hmn : m ≤ n) (h : ∀ j, m ≤ j → c j = 0) : cnt c n = cnt c m := by
  obtain ⟨k, rfl⟩ := Nat.exists_eq_add_of_le hmn
  rw [cnt_add, (cnt_zero (c := fun i => c (m + i))).2 fun j _ => h _ (by omega)]
  rfl
theorem cnt_same {c d : Nat → UInt8} : ∀ {n : Nat}, (∀ j, j < n → c j = d j) → cnt c n = cnt d n
  | 0, _ => rfl
  | n + 1, h => by
    show cnt c n + _ = cnt d n + _
    rw [cnt_same fun j hj => h j (by omega), h n (by omega)]

/-! ### rows -/
def rowOf (c : Nat → UInt8) (k : Nat) : Nat → UInt8 := fun i => c (64 * k + i)
/-- Is some byte of the row not 0? -/
def rowHas (c : Nat → UInt8) (k : Nat) : Bool := cnt (rowOf c k) 64 != 0
theorem rowHas_no {c : Nat → UInt8} {k : Nat} : rowHas c k = false ↔ ∀ i, i < 64 → c (64 * k + i) = 0 := by
  unfold rowHas
  rw [bne_eq_false_iff_eq]
  exact cnt_zero
/-- The numbers, rising, from m on, so many at most, of the rows that are not all 0. -/
def keysL (c : Nat → UInt8) : Nat → Nat → List Nat
  | _, 0 => []
  | m, f + 1 => if rowHas c m = true then m :: keysL c (m + 1) f else keysL c (m + 1) f
theorem mem_keysL {c : Nat → UInt8} {k : Nat} : ∀ {f m : Nat}, k ∈ keysL c m f ↔ m ≤ k ∧ k < m + f ∧ rowHas c k = true
  | 0, m => by
    constructor
    · intro h; cases h
    · intro h; omega
  | f + 1, m => by
    unfold keysL
    split
    · rename_i h0
      rw [List.mem_cons, mem_keysL (f := f)]
      constructor
      · rintro (rfl | h)
        · exact ⟨Nat.le_refl _, by omega, h0⟩
        · exact ⟨by omega, by omega, h.2.2⟩
      · intro h
        by_cases hk : k = m
        · exact .inl hk
        · exact .inr ⟨by omega, by omega, h.2.2⟩
    · rename_i h0
      rw [mem_keysL (f := f)]
      constructor
      · intro h; exact ⟨by omega, by omega, h.2.2⟩
      · intro h
        refine ⟨?_, by omega, h.2.2⟩
        rcases Nat.lt_or_ge m k with h1 | h1
        · exact h1
        · obtain rfl : k = m := by omega
          exact absurd h.2.2 h0
theorem keysL_sorted {c : Nat → UInt8} : ∀ (f m : Nat), (keysL c m f).Pairwise (· < ·)
  | 0, _ => List.Pairwise.nil
  | f + 1, m => by
    unfold keysL
    split
    · refine List.pairwise_cons.2 ⟨fun k hk => ?_, keysL_sorted f (m + 1)⟩
      have := (mem_keysL.1 hk).1
      omega
    · exact keysL_sorted f (m + 1)
theorem keysL_length {c : Nat → UInt8} : ∀ (f m : Nat), (keysL c m f).length ≤ f
  | 0, _ => Nat.le_refl _
  | f + 1, m => by
    unfold keysL
    have := keysL_length (c := c) f (m + 1)
    split
    · rw [List.length_cons]; omega
    · omega
/-- What has the first of these ahead of the others. -/
theorem keysL_cons {c : Nat → UInt8} {k : Nat} {r : List Nat} : ∀ {f m : Nat}, keysL c m f = k :: r → m ≤ k ∧ k < m + f ∧ rowHas c k = true ∧ (∀ j, 64 * m ≤ j → j < 64 * k → c j = 0) ∧ ∃ g, g + k + 1 = f + m ∧ r = keysL c (k + 1) g
  | 0, m, h => by cases h
  | f + 1, m, h => by
    unfold keysL at h
    split at h
    · rename_i h0
      injection h with h1 h2
      subst h1
      exact ⟨Nat.le_refl _, by omega, h0, fun j h1 h2 => by omega, f, by omega, h2.symm⟩
    · rename_i h0
      obtain ⟨h1, h2, h3, h4, g, h5, h6⟩ := keysL_cons h
      refine ⟨by omega, by omega, h3, fun j hj1 hj2 => ?_, g, by omega, h6⟩
      rcases Nat.lt_or_ge j (64 * (m + 1)) with hj | hj
      · have := rowHas_no.1 (by simpa using h0) (j - 64 * m) (by omega)
        rw [show 64 * m + (j - 64 * m) = j by omega] at this
        exact this
      · exact h4 j hj hj2
theorem keysL_nil {c : Nat → UInt8} : ∀ {f m : Nat}, keysL c m f = [] → ∀ j, 64 * m ≤ j → j < 64 * (m + f) → c j = 0
  | 0, m, _, j, h1, h2 => by omega
  | f + 1, m, h, j, h1, h2 => by
    unfold keysL at h
    split at h
    · cases h
    · rename_i h0
      rcases Nat.lt_or_ge j (64 * (m + 1)) with hj | hj
      · have := rowHas_no.1 (by simpa using h0) (j - 64 * m) (by omega)
        rw [show 64 * m + (j - 64 * m) = j by omega] at this
        exact this
      · exact keysL_nil h j hj (by omega)
/-- The numbers of all rows that are not all 0: at most 2^14 rows. -/
def keysOf (c : Nat → UInt8) : List Nat := keysL c 0 16384
def sumL (g : Nat → Nat) : List Nat → Nat
  | [] => 0
  | k :: r => g k + sumL g r
theorem sumL_perm {g : Nat → Nat} {l m : List Nat} (h : l.Perm m) : sumL g l = sumL g m := by
  induction h with
  | nil => rfl
  | cons x _ ih => show g x + _ = g x + _; rw [ih]
  | swap x y l => show g y + (g x + _) = g x + (g y + _); omega
  | trans _ _ h1 h2 => rw [h1, h2]
theorem sumL_append (g : Nat → Nat) : ∀ l m : List Nat, sumL g (l ++ m) = sumL g l + sumL g m
  | [], m => by show sumL g m = 0 + sumL g m; omega
  | k :: r, m => by show g k + sumL g (r ++ m) = g k + sumL g r + sumL g m; rw [sumL_append g r m]; omega
def cntRow (c : Nat → UInt8) (k : Nat) : Nat := cnt (rowOf c k) 64
theorem sum_keysL (c : Nat → UInt8) : ∀ (f m : Nat), cnt c (64 * m) + sumL (cntRow c) (keysL c m f) = cnt c (64 * (m + f))
  | 0, m => rfl
  | f + 1, m => by
    have h1 : cnt c (64 * (m + 1)) = cnt c (64 * m) + cntRow c m := by
      rw [show 64 * (m + 1) = 64 * m + 64 by omega, cnt_add]
      rfl
    have h2 := sum_keysL c f (m + 1)
    rw [show m + 1 + f = m + (f + 1) by omega] at h2
    unfold keysL
    split
    · show cnt c (64 * m) + (cntRow c m + _) = _
      omega
    · rename_i h0
      have h3 : cntRow c m = 0 := by simpa [rowHas, cntRow] using h0
      omega
theorem sum_keys {c : Nat → UInt8} {n : Nat} (hn : n ≤ 1048576) (h : ∀ j, n ≤ j → c j = 0) : sumL (cntRow c) (keysOf c) = cnt c n := by
  have := sum_keysL c 16384 0
  rw [show 64 * (0 + 16384) = 1048576 by omega, cnt_more hn h] at this
  have h0 : cnt c (64 * 0) = 0 := rfl
  unfold keysOf
  omega

/-! ### runs -/
abbrev Sp := Int × Int
def withP (l : List Sp) (p : Nat) : List Sp :=
  match l.getLast? with
  | some (a, m) => if a + m = p then l.dropLast ++ [(a, m + 1)] else l ++ [((p : Int), 1)]
  | none => [((p : Int), 1)]
def runsTo (c : Nat → UInt8) : Nat → List Sp
  | 0 => []
  | n + 1 => if c n = 0 then runsTo c n else withP (runsTo c n) n
theorem runs_skip {c : Nat → UInt8} {a : Nat} : ∀ {b : Nat}, a ≤ b → (∀ j, a ≤ j → j < b → c j = 0) → runsTo c b = runsTo c a
  | 0, h, _ => by obtain rfl : a = 0 := by omega
                  rfl
  | b + 1, h, h0 => by
    rcases Nat.lt_or_ge b a with h1 | h1
    · obtain rfl : a = b + 1 := by omega
      rfl
    · show (if c b = 0 then _ else _) = _
      rw [if_pos (h0 b h1 (by omega))]
      exact runs_skip h1 fun j h2 h3 => h0 j h2 (by omega)
theorem runs_more {c : Nat → UInt8} {m n : Nat} (hmn : m ≤ n) (h : ∀ j, m ≤ j → c j = 0) : runsTo c n = runsTo c m := runs_skip hmn fun j h1 _ => h j h1
theorem withP_last (l : List Sp) (p : Nat) : (∃ a m, l.getLast? = some (a, m) ∧ a + m = p ∧ withP l p = l.dropLast ++ [(a, m + 1)]) ∨ ((∀ a m, l.getLast? = some (a, m) → a + m ≠ p) ∧ withP l p = l ++ [((p : Int), 1)]) := by
  unfold withP
  rcases h : l.getLast? with _ | ⟨a, m⟩
  · exact .inr ⟨fun a m e => (by cases e), by rw [List.getLast?_eq_none_iff.1 h]; rfl⟩
  · by_cases hp : a + m = (p : Int)
    · exact .inl ⟨a, m, rfl, hp, by simp only; rw [if_pos hp]⟩
    · exact .inr ⟨fun a' m' e => by injection e with e; injection e with e1 e2; subst e1; subst e2; exact hp, by simp only; rw [if_neg hp]⟩
/-- Where the last run ends. -/
theorem runs_end {c : Nat → UInt8} : ∀ {n : Nat} {a m : Int}, (runsTo c n).getLast? = some (a, m) → a + m ≤ n ∧ (a + m = n → 0 < n ∧ c (n - 1) ≠ 0)
  | 0, a, m, h => by cases h
  | n + 1, a, m, h => by
    unfold runsTo at h
    split at h
    · have := (runs_end h).1
      exact ⟨by omega, fun e => by omega⟩
    · rename_i h0
      refine ⟨?_, fun _ => ⟨by omega, h0⟩⟩
      rcases withP_last (runsTo c n) n with ⟨a', m', h1, h2, h3⟩ | ⟨h1, h3⟩
      · rw [h3, List.getLast?_concat] at h
        injection h with h
        injection h with e1 e2
        omega
      · rw [h3, List.getLast?_concat] at h
        injection h with h
        injection h with e1 e2
        omega
theorem runs_grow {c : Nat → UInt8} {i : Nat} (h0 : i = 0 ∨ c (i - 1) = 0) : ∀ {d : Nat}, (∀ j, i ≤ j → j < i + d + 1 → c j ≠ 0) → runsTo c (i + d + 1) = runsTo c i ++ [((i : Int), ((d + 1 : Nat) : Int))]
  | 0, h => by
    show (if c i = 0 then _ else _) = _
    rw [if_neg (h i (Nat.le_refl _) (by omega))]
    rcases withP_last (runsTo c i) i with ⟨a, m, h1, h2, h3⟩ | ⟨h1, h3⟩
    · exfalso
      obtain ⟨h4, h5⟩ := (runs_end h1).2 h2
      rcases h0 with h0 | h0
      · omega
      · exact h5 h0
    · rw [h3]
      rfl
  | d + 1, h => by
    show (if c (i + d + 1) = 0 then runsTo c (i + d + 1) else withP (runsTo c (i + d + 1)) (i + d + 1)) = _
    rw [if_neg (h _ (by omega) (by omega)), runs_grow h0 (d := d) fun j h1 h2 => h j h1 (by omega)]
    unfold withP
    rw [List.getLast?_concat]
    simp only
    rw [if_pos (by omega), List.dropLast_concat]
    rfl
theorem withP_length (l : List Sp) (p : Nat) : (withP l p).length ≤ l.length + 1 := by
  rcases withP_last l p with ⟨a, m, h1, h2, h3⟩ | ⟨h1, h3⟩
  · rw [h3, List.length_append, List.length_dropLast, List.length_singleton]
    have : l ≠ [] := by rintro rfl; cases h1
    have := List.length_pos_iff.2 this
    omega
  · rw [h3, List.length_append, List.length_singleton]
    omega
theorem runs_length (c : Nat → UInt8) : ∀ n, (runsTo c n).length ≤ n
  | 0 => Nat.le_refl _
  | n + 1 => by
    have := runs_length c n
    unfold runsTo
    split
    · omega
    · have := withP_length (runsTo c n) n
      omega
theorem withP_bound {l : List Sp} {p : Nat} (hl : ∀ q ∈ l, 0 ≤ q.1 ∧ 0 ≤ q.2 ∧ q.1 + q.2 ≤ p) : ∀ q ∈ withP l p, 0 ≤ q.1 ∧ 0 ≤ q.2 ∧ q.1 + q.2 ≤ p + 1 := by
  intro q hq
  rcases withP_last l p with ⟨a, m, h1, h2, h3⟩ | ⟨h1, h3⟩
  · rw [h3] at hq
    have hm := hl (a, m) (List.mem_of_getLast? h1)
    rcases List.mem_append.1 hq with hq | hq
    · have := hl q (List.dropLast_subset _ hq)
      omega
    · obtain rfl := List.mem_singleton.1 hq
      simp only at hm ⊢
      omega
  · rw [h3] at hq
    rcases List.mem_append.1 hq with hq | hq
    · have := hl q hq
      omega
    · obtain rfl := List.mem_singleton.1 hq
      simp only
      omega
theorem runs_bound (c : Nat → UInt8) : ∀ n, ∀ q ∈ runsTo c n, 0 ≤ q.1 ∧ 0 ≤ q.2 ∧ q.1 + q.2 ≤ n
  | 0, q, hq => by cases hq
  | n + 1, q, hq => by
    unfold runsTo at hq
    split at hq
    · have := runs_bound c n q hq
      omega
    · have := withP_bound (runs_bound c n) q hq
      omega
end Go.Proofs.Ytcfnnchbnlcppaa
