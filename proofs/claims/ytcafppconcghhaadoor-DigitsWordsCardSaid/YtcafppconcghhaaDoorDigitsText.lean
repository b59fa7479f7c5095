/- Layer 11 (digits): plain mathematics: digits to the base 16, as many 0 ahead as are asked for, and back; words of a text, by the program and by the document; texts joined; words that are joined are their text. -/
import Derived.Test.YtcafppconcghhaaDoorDigitsMath
namespace Go.Proofs.YtcafppconcghhaaDoor

/-! ### to the base 16 -/
def hexB (d : Nat) : UInt8 := if d < 10 then UInt8.ofNat (48 + d) else UInt8.ofNat (87 + d)
/-- The digits to the base 16; "0" for 0. -/
def hexD (u : Nat) : List UInt8 :=
  if _h : u < 16 then [hexB u] else hexD (u / 16) ++ [hexB (u % 16)]
termination_by u
decreasing_by omega
theorem hexD_small {u : Nat} (h : u < 16) : hexD u = [hexB u] := by rw [hexD, dif_pos h]
theorem hexD_big {u : Nat} (h : ¬ u < 16) : hexD u = hexD (u / 16) ++ [hexB (u % 16)] := by rw [hexD, dif_neg h]
theorem dig_hex {d : Nat} (h : d < 16) : dig (hexB d) = some d := by
  unfold hexB dig
  split
  · have e : (UInt8.ofNat (48 + d)).toNat = 48 + d := by rw [UInt8.toNat_ofNat']; omega
    rw [e, if_pos (by omega)]
    congr 1
    omega
  · have e : (UInt8.ofNat (87 + d)).toNat = 87 + d := by rw [UInt8.toNat_ofNat']; omega
    rw [e, if_neg (by omega), if_pos (by omega)]
    congr 1
    omega
theorem hexD_ne (u : Nat) : hexD u ≠ [] := by
  by_cases h : u < 16
  · rw [hexD_small h]; exact List.cons_ne_nil _ _
  · rw [hexD_big h]; exact List.append_ne_nil_of_right_ne_nil _ (List.cons_ne_nil _ _)
theorem hexD_length : ∀ (k u : Nat), 1 ≤ k → u < 16 ^ k → (hexD u).length ≤ k
  | 0, _, h, _ => absurd h (by omega)
  | k + 1, u, _, h => by
    by_cases h1 : u < 16
    · rw [hexD_small h1]; simp
    · rw [hexD_big h1, List.length_append, List.length_singleton]
      have h2 : u / 16 < 16 ^ k := by
        rw [Nat.pow_succ] at h
        omega
      by_cases hk : 1 ≤ k
      · have := hexD_length k (u / 16) hk h2
        omega
      · obtain rfl : k = 0 := by omega
        rw [Nat.pow_zero] at h2
        omega
theorem hexD_val {most : Nat} : ∀ (u : Nat), u ≤ most → valL 16 most 0 (hexD u) = some u := by
  intro u
  induction u using Nat.strongRecOn with
  | _ u ih =>
    intro hu
    by_cases h : u < 16
    · rw [hexD_small h, valL_cons (dig_hex h) h (by omega)]
      show some (0 * 16 + u) = _
      congr 1
      omega
    · rw [hexD_big h, valL_append, ih (u / 16) (by omega) (by omega)]
      show valL 16 most (u / 16) _ = _
      rw [valL_cons (dig_hex (by omega)) (by omega) (by omega)]
      show some (u / 16 * 16 + u % 16) = _
      congr 1
      omega
/-- As many 0 ahead as make them so many at least. -/
def pad (wide : Nat) (l : List UInt8) : List UInt8 := List.replicate (wide - l.length) 48 ++ l
theorem pad_more {wide : Nat} {l : List UInt8} (h : l.length < wide) : pad wide (48 :: l) = pad wide l := by
  unfold pad
  rw [List.length_cons, show wide - l.length = (wide - (l.length + 1)) + 1 by omega, List.replicate_succ', List.append_assoc]
  rfl
theorem pad_full {wide : Nat} {l : List UInt8} (h : wide ≤ l.length) : pad wide l = l := by
  unfold pad
  rw [show wide - l.length = 0 by omega]
  rfl
theorem pad_length (wide : Nat) (l : List UInt8) : (pad wide l).length = max wide l.length := by
  unfold pad
  rw [List.length_append, List.length_replicate]
  omega
theorem val_zeros {base most : Nat} (hb : 1 ≤ base) (l : List UInt8) : ∀ k, valL base most 0 (List.replicate k 48 ++ l) = valL base most 0 l
  | 0 => rfl
  | k + 1 => by
    rw [List.replicate_succ, List.cons_append, valL_cons (d := 0) rfl (by omega) (by omega), show 0 * base + 0 = 0 by omega]
    exact val_zeros hb l k
/-- The digits, as many as asked for at least; none, if it cannot be. -/
def hexE (n wide : Int) : List UInt8 := if n < 0 ∨ wide < 1 ∨ 16 < wide then [] else pad wide.toNat (hexD n.toNat)
/-- The number of 1 to 16 digits to the base 16, and true; else 0 and false. -/
def readHexV (l : List UInt8) : Int × Bool := if 1 ≤ l.length ∧ l.length ≤ 16 then (match valL 16 9223372036854775807 0 l with
    | some n => ((n : Int), true)
    | none => (0, false)) else (0, false)
/-- What is told is read. -/
theorem hex_back {n wide : Int} (hn : n ≤ 9223372036854775807) (h : hexE n wide ≠ []) : readHexV (hexE n wide) = (n, true) := by
  unfold hexE at h ⊢
  split
  · rename_i h0
    rw [if_pos h0] at h
    exact absurd rfl h
  · rename_i h0
    have hl := hexD_length 16 n.toNat (by omega) (by omega)
    have hne := List.length_pos_iff.2 (hexD_ne n.toNat)
    unfold readHexV
    rw [pad_length, if_pos (by omega)]
    have e : valL 16 9223372036854775807 0 (pad wide.toNat (hexD n.toNat)) = some n.toNat := by
      unfold pad
      rw [val_zeros (by omega), hexD_val _ (by omega)]
    rw [e]
    show ((n.toNat : Int), true) = _
    rw [show (n.toNat : Int) = n by omega]
/-- No digits for 0. -/
def hexN (u : Nat) : List UInt8 := if u = 0 then [] else hexD u
theorem hexN_zero : hexN 0 = [] := rfl
theorem hexN_step {u : Nat} (h : u ≠ 0) : hexN u = hexN (u / 16) ++ [hexB (u % 16)] := by
  unfold hexN
  rw [if_neg h]
  by_cases h1 : u < 16
  · rw [if_pos (by omega), hexD_small h1, show u % 16 = u by omega]
    rfl
  · rw [if_neg (by omega), hexD_big h1]
theorem hexN_pad (u : Nat) {wide : Nat} (h : 1 ≤ wide) : pad wide (hexN u) = pad wide (hexD u) := by
  unfold hexN
  split
  · rename_i h0
    subst h0
    rw [hexD_small (by omega)]
    exact (pad_more (l := []) h).symm
  · rfl

/-! ### words -/
/-- Is it a byte of words? -/
def inW (b : UInt8) : Bool := decide (33 ≤ b.toNat ∧ b.toNat ≤ 126)
theorem inW_blank {b : UInt8} (h : b.toNat = 32) : inW b = false := by
  unfold inW
  rw [h]
  rfl
/-- Is it a word? -/
def wordV (l : List UInt8) : Bool := decide (l ≠ []) && l.all inW
/-- The words of cur and what follows; none, if there are others than words. -/
def wordsL : List UInt8 → List UInt8 → Option (List (List UInt8))
  | cur, [] => if cur = [] then none else some [cur]
  | cur, b :: r => if inW b = true then wordsL (cur ++ [b]) r else if b.toNat = 32 ∧ cur ≠ [] then (wordsL [] r).map (cur :: ·) else none
/-- As the document finds them: a part is looked at where it ends. -/
def wordsR : List UInt8 → List UInt8 → Option (List (List UInt8))
  | cur, [] => if wordV cur = true then some [cur] else none
  | cur, b :: r => if b.toNat = 32 then (if wordV cur = true then (wordsR [] r).map (cur :: ·) else none) else wordsR (cur ++ [b]) r
theorem words_same : ∀ (r cur : List UInt8), wordsR cur r = if cur.all inW = true then wordsL cur r else none
  | [], cur => by
    unfold wordsR wordsL wordV
    by_cases h : cur = []
    · subst h; rfl
    · rw [decide_eq_true h, Bool.true_and, if_neg h]
  | b :: r, cur => by
    show (if b.toNat = 32 then (if wordV cur = true then (wordsR [] r).map (cur :: ·) else none) else wordsR (cur ++ [b]) r) = if cur.all inW = true then (if inW b = true then wordsL (cur ++ [b]) r else if b.toNat = 32 ∧ cur ≠ [] then (wordsL [] r).map (cur :: ·) else none) else none
    by_cases hb : b.toNat = 32
    · rw [if_pos hb, inW_blank hb, if_neg (show ¬ false = true by decide)]
      rw [words_same r [], if_pos (show ([] : List UInt8).all inW = true from rfl)]
      unfold wordV
      by_cases h : cur = []
      · subst h
        rw [if_neg (by decide), if_neg (show ¬ (b.toNat = 32 ∧ ([] : List UInt8) ≠ []) from fun h => h.2 rfl)]
        rfl
      · rw [decide_eq_true h, Bool.true_and, if_pos (show b.toNat = 32 ∧ cur ≠ [] from ⟨hb, h⟩)]
    · rw [if_neg hb, words_same r (cur ++ [b]), List.all_append]
      have e : (([b] : List UInt8).all inW) = inW b := by simp
      rw [e, if_neg (show ¬ (b.toNat = 32 ∧ cur ≠ []) from fun h => hb h.1)]
      cases cur.all inW <;> cases inW b <;> rfl
/-- The words of a text, and true; none and false, if it has others. -/
def wordsO (l : List UInt8) : Option (List (List UInt8)) := if l = [] then some [] else wordsL [] l
theorem wordsO_ref {l : List UInt8} (h : l ≠ []) : wordsO l = wordsR [] l := by
  unfold wordsO
  rw [if_neg h, words_same, if_pos (show ([] : List UInt8).all inW = true from rfl)]
/-! ### texts joined -/
def joinL : List (List UInt8) → List UInt8
  | [] => []
  | [a] => a
  | a :: b :: r => a ++ 32 :: joinL (b :: r)
theorem joinL_cons {a : List UInt8} {r : List (List UInt8)} (h : r ≠ []) : joinL (a :: r) = a ++ 32 :: joinL r := by
  cases r with
  | nil => exact absurd rfl h
  | cons b r => rfl
theorem joinL_snoc (x : List UInt8) : ∀ l : List (List UInt8), joinL (l ++ [x]) = if l = [] then x else joinL l ++ 32 :: x
  | [] => rfl
  | [a] => rfl
  | a :: b :: r => by
    rw [if_neg (List.cons_ne_nil _ _), List.cons_append, joinL_cons (by simp), joinL_snoc x (b :: r), if_neg (List.cons_ne_nil _ _), joinL_cons (List.cons_ne_nil _ _), List.append_assoc]
    rfl
theorem words_join : ∀ (r cur : List UInt8) (L : List (List UInt8)), wordsL cur r = some L → L ≠ [] ∧ joinL L = cur ++ r
  | [], cur, L, h => by
    unfold wordsL at h
    split at h
    · cases h
    · injection h with h
      subst h
      exact ⟨List.cons_ne_nil _ _, by simp [joinL]⟩
  | b :: r, cur, L, h => by
    unfold wordsL at h
    split at h
    · obtain ⟨h1, h2⟩ := words_join r _ L h
      exact ⟨h1, by rw [h2, List.append_assoc]; rfl⟩
    · split at h
      · rename_i hb
        cases hw : wordsL [] r with
        | none => rw [hw] at h; cases h
        | some M =>
          rw [hw] at h
          injection h with h
          subst h
          obtain ⟨h1, h2⟩ := words_join r [] M hw
          refine ⟨List.cons_ne_nil _ _, ?_⟩
          rw [joinL_cons h1, h2, byte_of hb.1]
          rfl
      · cases h
theorem words_back {l : List UInt8} {L : List (List UInt8)} (h : wordsO l = some L) : joinL L = l := by
  unfold wordsO at h
  split at h
  · rename_i h0
    injection h with h
    subst h
    exact h0.symm
  · exact (words_join l [] L h).2
/-- How long they are, all together. -/
theorem joinL_length {m : Nat} : ∀ l : List (List UInt8), (∀ x, x ∈ l → x.length ≤ m) → (joinL l).length ≤ l.length * (m + 1)
  | [], _ => Nat.zero_le _
  | [a], h => by
    have := h a (by simp)
    show a.length ≤ 1 * (m + 1)
    omega
  | a :: b :: r, h => by
    have h1 := h a (by simp)
    have h2 := joinL_length (m := m) (b :: r) fun x hx => h x (by simp [hx])
    rw [joinL_cons (List.cons_ne_nil _ _), List.length_append, List.length_cons]
    rw [List.length_cons (a := a), Nat.add_mul]
    omega
end Go.Proofs.YtcafppconcghhaaDoor
