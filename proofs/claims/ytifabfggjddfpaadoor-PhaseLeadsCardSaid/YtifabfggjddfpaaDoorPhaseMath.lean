/- Layer 15 (phase): plain mathematics: what an event leads to, events one behind the other, names, how far it is. -/
import Derived.Test.YtifabfggjddfpaaDoorBaseText
namespace Go.Proofs.YtifabfggjddfpaaDoor

/-- The phase behind an event, or what is wrong. -/
def nextP (p e : Int) : Int × Int := if p < 0 ∨ 3 < p ∨ e < 1 ∨ 4 < e then (0, 2) else if e ≠ p + 1 then (0, 18) else if p = 3 then (0, 0) else (p + 1, 0)
theorem nextP_arg {p e : Int} (h : p < 0 ∨ 3 < p ∨ e < 1 ∨ 4 < e) : nextP p e = (0, 2) := if_pos h
theorem nextP_no {p e : Int} (hp : 0 ≤ p ∧ p ≤ 3) (he : 1 ≤ e ∧ e ≤ 4) (h : e ≠ p + 1) : nextP p e = (0, 18) := by unfold nextP; rw [if_neg (by omega), if_pos h]
theorem nextP_yes {p : Int} (hp : 0 ≤ p ∧ p ≤ 3) : nextP p (p + 1) = ((p + 1) % 4, 0) := by
  unfold nextP; rw [if_neg (by omega), if_neg (by omega)]
  by_cases h : p = 3
  · subst h; rfl
  · rw [if_neg h, Int.emod_eq_of_lt (by omega) (by omega)]
/-- The phase behind as many events as lead on, and how many these are. -/
def runP (p : Int) : List Int → Int → Int × Int
  | [], n => (p, n)
  | e :: l, n => if (nextP p e).2 = 0 then runP (nextP p e).1 l (n + 1) else (p, n)
theorem runP_yes {p e a : Int} {l : List Int} {n : Int} (h : nextP p e = (a, 0)) : runP p (e :: l) n = runP a l (n + 1) := by
  show (if (nextP p e).2 = 0 then runP (nextP p e).1 l (n + 1) else (p, n)) = _
  rw [h, if_pos rfl]
theorem runP_no {p e a b : Int} {l : List Int} {n : Int} (h : nextP p e = (a, b)) (hb : b ≠ 0) : runP p (e :: l) n = (p, n) := by
  show (if (nextP p e).2 = 0 then runP (nextP p e).1 l (n + 1) else (p, n)) = _
  rw [h, if_neg hb]
theorem nextP_err (p e : Int) : (nextP p e).2 = 0 ∨ (nextP p e).2 = 2 ∨ (nextP p e).2 = 18 := by
  unfold nextP
  split
  · exact .inr (.inl rfl)
  · split
    · exact .inr (.inr rfl)
    · split <;> exact .inl rfl
/-- A phase's name. -/
def nameT : Nat → ByteArray
  | 0 => ⟨#[102, 114, 101, 101]⟩
  | 1 => ⟨#[111, 119, 110, 101, 100]⟩
  | 2 => ⟨#[100, 101, 102, 101, 114, 114, 101, 100]⟩
  | _ => ⟨#[119, 105, 112, 105, 110, 103]⟩
def nameP (p : Int) : ByteArray := if p < 0 ∨ 3 < p then ⟨#[]⟩ else nameT p.toNat
theorem nameP_no {p : Int} (h : p < 0 ∨ 3 < p) : nameP p = ⟨#[]⟩ := if_pos h
theorem nameP_in {j : Nat} (h : j < 4) : nameP (j : Int) = nameT j := by unfold nameP; rw [if_neg (by omega), Int.toNat_natCast]
/-- The phase of a name, from the i-th one on. -/
def findFrom (s : ByteArray) : Nat → Nat → Int
  | 0, _ => -1
  | k + 1, i => if nameT i = s then (i : Int) else findFrom s k (i + 1)
theorem findFrom_yes {s : ByteArray} {k i : Nat} (h : nameT i = s) : findFrom s (k + 1) i = (i : Int) := if_pos h
theorem findFrom_no {s : ByteArray} {k i : Nat} (h : nameT i ≠ s) : findFrom s (k + 1) i = findFrom s k (i + 1) := if_neg h
theorem text_eq {s t : ByteArray} {b : Bool} (h : decide (s = t) = b) : (s.toList == t.toList) = b := by
  rw [ByteArray.toList_eq, ByteArray.toList_eq, ← h, Bool.eq_iff_iff, beq_iff_eq, decide_eq_true_iff]
  exact ⟨fun e => txt_inj e, fun e => by rw [e]⟩
theorem name_inj {i j : Nat} (hi : i < 4) (hj : j < 4) (h : nameT i = nameT j) : i = j := by
  have h' : (nameT i).size = (nameT j).size ∧ True := ⟨by rw [h], trivial⟩
  match i, j, hi, hj with
  | 0, 0, _, _ => rfl
  | 1, 1, _, _ => rfl
  | 2, 2, _, _ => rfl
  | 3, 3, _, _ => rfl
  | 0, 1, _, _ => exact absurd h'.1 (by decide)
  | 0, 2, _, _ => exact absurd h'.1 (by decide)
  | 0, 3, _, _ => exact absurd h'.1 (by decide)
  | 1, 0, _, _ => exact absurd h'.1 (by decide)
  | 1, 2, _, _ => exact absurd h'.1 (by decide)
  | 1, 3, _, _ => exact absurd h'.1 (by decide)
  | 2, 0, _, _ => exact absurd h'.1 (by decide)
  | 2, 1, _, _ => exact absurd h'.1 (by decide)
  | 2, 3, _, _ => exact absurd h'.1 (by decide)
  | 3, 0, _, _ => exact absurd h'.1 (by decide)
  | 3, 1, _, _ => exact absurd h'.1 (by decide)
  | 3, 2, _, _ => exact absurd h'.1 (by decide)
theorem find_name {s : ByteArray} : ∀ (k i j : Nat), i + k = 4 → i ≤ j → j < 4 → nameT j = s → findFrom s k i = (j : Int)
  | 0, i, j, h1, h2, h3, _ => by omega
  | k + 1, i, j, h1, h2, h3, h => by
    by_cases e : i = j
    · subst e; exact findFrom_yes h
    · rw [findFrom_no (fun h4 => e (name_inj (by omega) h3 (h4.trans h.symm)))]
      exact find_name k (i + 1) j (by omega) (by omega) h3 h
/-- How many events lead from one phase to another one. -/
def awayP (a b : Int) : Int := if a < 0 ∨ 3 < a ∨ b < 0 ∨ 3 < b then -1 else (b - a + 4) % 4
theorem awayP_no {a b : Int} (h : a < 0 ∨ 3 < a ∨ b < 0 ∨ 3 < b) : awayP a b = -1 := if_pos h
theorem awayP_yes {a b : Int} (ha : 0 ≤ a ∧ a ≤ 3) (hb : 0 ≤ b ∧ b ≤ 3) : awayP a b = (b - a + 4) % 4 := if_neg (by omega)
end Go.Proofs.YtifabfggjddfpaaDoor
