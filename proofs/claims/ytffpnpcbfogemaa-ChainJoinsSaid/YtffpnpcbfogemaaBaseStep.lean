/- append of ints, and parts of a slice of ints, in a region that draws its order. -/
import Derived.Test.YtffpnpcbfogemaaBaseHere
import Derived.Deep.RegionLaw
namespace Go.Proofs.Ytffpnpcbfogemaa
open Go.RowKit

theorem step_append_ints {P : Program} {w : World} {ops : Array Oper} {o : Oper} {a : Act} {K : Act → World → Prop} {Q : Exit → Act → World → Prop} {E : Prop} (hgd : o.guard = none) (s x : Operand) (t : TypeId)
    (ho : o.op = .call { callee := .builtin .append, args := #[s, x], argTypes := #[t, t] })
    (base : Nat) (e : TypeId) (i : TypeInfo) (ht : P.underlying t = some (.slice e)) (hi : P.info? e = some i) (hz : i.zero = some (.int .i64 0)) (hsize : i.size = 1) (hby : i.bytes = 8)
    (v : Value) (n : Nat) (xs : List Value) (hs : a.eval s = v) (hown : w.ownsRow base e 1 v n xs) (A : Option Addr) (m c : Nat) (zs : List Int) (hx : a.eval x = .slice A m c) (hr : IntsAt w A zs) (hm : m = zs.length)
    (h63 : n + m ≤ 9223372036854775807) (hbytes : n + m ≤ 17592186044416) (hbase : base ≤ w.heap.size)
    (h : ∀ v' w', w'.ownsRow base e 1 v' (n + m) (xs ++ zs.map (.int .i64)) → w.grownBy w' v.ownBlock → K (a.put o.dst v') w') :
    if Region.wanted o (yielded ops a.tmps) = true then Oper.wp P o a w K Q else E := by
  have hw : Region.wanted o (yielded ops a.tmps) = true := by simp [Region.wanted, hgd]
  rw [if_pos hw]
  obtain ⟨v', w', hrun, h2, h3⟩ := run_append_ints (P := P) w base t o.type e i ht hi hz hsize hby v n xs hown A m c zs hr hm h63 hbytes hbase
  unfold Oper.wp execOp
  simp only [ho, resolve, invoke, builtin, Sem.run_bind, Sem.run_pure, Result.andThen_ok, List.map_toArray, List.map_cons, List.map_nil, hs, hx, hrun]
  exact h v' w' h2 h3
theorem ints_to (W : World) (b off n c k : Nat) (hk : k ≤ c) : (Instr.slice 38 (.slice (some ⟨b, off, none⟩) n c) none (some (.int .i64 k)) none).run Try.prog W = .ok (.slice (some ⟨b, off, none⟩) k c) W := by
  rw [run_slice_h (P := Try.prog) W 38 (some ⟨b, off, none⟩) n c (by kernel_rfl) .i64 k (by omega) (by omega)]
  rw [show (sizeOf (Try.prog.elem 38)).run Try.prog W = .ok 1 W by kernel_rfl]
  simp [Result.andThen, sliced, Addr.add]
theorem ints_from (W : World) (b off n c : Nat) (x : Int) (k : Nat) (hx : x = (k : Int)) (hk : k ≤ n) : (Instr.slice 38 (.slice (some ⟨b, off, none⟩) n c) (some (.int .i64 x)) none none).run Try.prog W = .ok (.slice (some ⟨b, if c = k then off else off + k, none⟩) (n - k) (c - k)) W := by
  subst hx
  rw [run_slice_l (P := Try.prog) W 38 (some ⟨b, off, none⟩) n c (by kernel_rfl) .i64 k (by omega) (by omega)]
  rw [show (sizeOf (Try.prog.elem 38)).run Try.prog W = .ok 1 W by kernel_rfl]
  by_cases h : c = k
  · subst h; simp [Result.andThen, sliced]
  · rw [if_neg h]
    simp [Result.andThen, sliced, Addr.add_lit, h]
end Go.Proofs.Ytffpnpcbfogemaa
