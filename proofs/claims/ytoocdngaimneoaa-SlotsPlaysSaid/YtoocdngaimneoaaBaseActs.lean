/- Slices of structs of a bool and two ints that come in: calls, say. -/
import Derived.Test.YtoocdngaimneoaaBaseMix
namespace Go.Proofs.Ytoocdngaimneoaa
open Go.RowKit

/-- A slice of calls: a bool, two ints. -/
def ActsAt (w : World) (A : Option Addr) (acs : List (Bool × Int × Int)) : Prop := acs = [] ∨ ∃ b off, A = some ⟨b, off, none⟩ ∧ b < w.heap.size ∧ ∀ (k : Nat) (p : Bool × Int × Int), acs[k]? = some p →
  w.cell? ⟨b, off + k * 3, none⟩ = some (.bool p.1) ∧ w.cell? ⟨b, off + k * 3 + 1, none⟩ = some (.int .i64 p.2.1) ∧ w.cell? ⟨b, off + k * 3 + 2, none⟩ = some (.int .i64 p.2.2) ∧ InInt p.2.1 ∧ InInt p.2.2
theorem ActsAt.at_ {w : World} {A : Option Addr} {acs : List (Bool × Int × Int)} (h : ActsAt w A acs) {k : Nat} (hk : k < acs.length) : ∃ b off d li nd, A = some ⟨b, off, none⟩ ∧ b < w.heap.size ∧
    w.cell? ⟨b, off + k * 3, none⟩ = some (.bool d) ∧ w.cell? ⟨b, off + k * 3 + 1, none⟩ = some (.int .i64 li) ∧ w.cell? ⟨b, off + k * 3 + 2, none⟩ = some (.int .i64 nd) ∧ InInt li ∧ InInt nd := by
  rcases h with h | ⟨b, off, e, hb, hc⟩
  · subst h; simp at hk
  · obtain ⟨h1, h2, h3, h4, h5⟩ := hc k _ (List.getElem?_eq_getElem hk)
    exact ⟨b, off, _, _, _, e, hb, h1, h2, h3, h4, h5⟩
open Classical in
noncomputable def boolOf (v : Value) : Bool := if h : ∃ b, v = .bool b then h.choose else false
open Classical in
noncomputable def intOf' (v : Value) : Int := if h : ∃ n, v = .int .i64 n ∧ (Lit.int .i64 n).wf = true then h.choose else 0
theorem boolOf_is {v : Value} (h : KindIs none v) : v = .bool (boolOf v) := by
  unfold boolOf
  have h' : ∃ b, v = .bool b := h
  rw [dif_pos h']
  exact h'.choose_spec
theorem intOf_is {v : Value} (h : KindIs (some .i64) v) : v = .int .i64 (intOf' v) ∧ InInt (intOf' v) := by
  unfold intOf'
  have h' : ∃ n, v = .int .i64 n ∧ (Lit.int .i64 n).wf = true := h
  rw [dif_pos h']
  exact ⟨h'.choose_spec.1, int_range_i64 h'.choose_spec.2⟩
theorem mix_acts {w : World} {a : Option Addr} {len cap : Nat} {f : Nat → Nat → Value} (h : MixIn w a len cap [none, some .i64, some .i64] f) : ∃ acs, ActsAt w a acs ∧ len = acs.length := by
  refine ⟨(List.range len).map fun i => (boolOf (f i 0), intOf' (f i 1), intOf' (f i 2)), ?_, by simp⟩
  by_cases h0 : len = 0
  · subst h0; exact .inl rfl
  · obtain ⟨b, off, e, hb, hc⟩ := h.cells (by simp) (by omega)
    refine .inr ⟨b, off, e, hb, fun k p hp => ?_⟩
    have hk : k < len := by
      have := (List.getElem?_eq_some_iff.1 hp).1
      simpa using this
    rw [List.getElem?_map, List.getElem?_range hk] at hp
    injection hp with hp
    subst hp
    obtain ⟨a0, b0⟩ := hc k 0 none hk rfl
    obtain ⟨a1, b1⟩ := hc k 1 (some .i64) hk rfl
    obtain ⟨a2, b2⟩ := hc k 2 (some .i64) hk rfl
    rw [boolOf_is b0] at a0
    rw [(intOf_is b1).1] at a1
    rw [(intOf_is b2).1] at a2
    exact ⟨a0, a1, a2, (intOf_is b1).2, (intOf_is b2).2⟩
theorem below_next {a W w' : World} (h : Below a.heap.size a W) (h' : Below W.heap.size W w') : Below a.heap.size a w' := h.trans (h'.mono h.size)
theorem below_drew (w : World) : Below w.heap.size w w.drew := ⟨rfl, rfl, rfl, Nat.le_refl _, fun _ _ => rfl⟩
theorem below_dn (w : World) (n : Nat) : Below w.heap.size w (w.drewN n) := ⟨rfl, rfl, rfl, Nat.le_refl _, fun _ _ => rfl⟩
end Go.Proofs.Ytoocdngaimneoaa
