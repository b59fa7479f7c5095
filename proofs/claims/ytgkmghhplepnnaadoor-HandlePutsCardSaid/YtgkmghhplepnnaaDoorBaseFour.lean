/- Words for the walks of every layer: two arrays of four ints compared. -/
import Derived.Test.YtgkmghhplepnnaaDoorBaseBack
import Derived.ChangeKeysEq
import Derived.Laws.StructEq
namespace Go.Proofs.YtgkmghhplepnnaaDoor
open Go.RowKit

def fourI (a b c d : Int) : Value := .agg #[.int .i64 a, .int .i64 b, .int .i64 c, .int .i64 d]
theorem part_four (w : World) {xs : Array Value} {off : Nat} {v : Value} (hx : xs[off]? = some v) : (part 3 xs off).run Tryd.prog w = .ok v w :=
  run_part_plain w (by kernel_rfl) hx
theorem eql_int (w : World) (a b : Int) : (Op.equalIn 9999 3 (.int .i64 a) (.int .i64 b)).run Tryd.prog w = .ok (a == b) w := run_equalIn_int w 9998 3 .i64 .i64 a b Tryd.underlying3
theorem eql_four (w : World) (a b c d x y z u : Int) :
    (Op.equalIn 10000 22 (.agg #[.int .i64 a, .int .i64 b, .int .i64 c, .int .i64 d]) (.agg #[.int .i64 x, .int .i64 y, .int .i64 z, .int .i64 u])).run Tryd.prog w = .ok (decide (a = x ∧ b = y ∧ c = z ∧ d = u)) w := by
  obtain ⟨i, hi, _⟩ := info_parts int_info
  have hc : Tryd.prog.cellsOf 3 = 1 := by kernel_rfl
  rw [show (10000 : Nat) = 9999 + 1 from rfl, run_equalIn_array w 9999 _ _ Tryd.underlying22 hi, hc, show List.range 4 = [0, 1, 2, 3] from rfl]
  have p : ∀ (j : Nat) (l : Array Value) (v : Value), l[j]? = some v → ∀ w, (part 3 l (j * 1)).run Tryd.prog w = .ok v w := fun j l v h w => by rw [Nat.mul_one]; exact part_four w h
  have P0 := p 0 #[.int .i64 a, .int .i64 b, .int .i64 c, .int .i64 d] (.int .i64 a) rfl
  have P1 := p 1 #[.int .i64 a, .int .i64 b, .int .i64 c, .int .i64 d] (.int .i64 b) rfl
  have P2 := p 2 #[.int .i64 a, .int .i64 b, .int .i64 c, .int .i64 d] (.int .i64 c) rfl
  have P3 := p 3 #[.int .i64 a, .int .i64 b, .int .i64 c, .int .i64 d] (.int .i64 d) rfl
  have Q0 := p 0 #[.int .i64 x, .int .i64 y, .int .i64 z, .int .i64 u] (.int .i64 x) rfl
  have Q1 := p 1 #[.int .i64 x, .int .i64 y, .int .i64 z, .int .i64 u] (.int .i64 y) rfl
  have Q2 := p 2 #[.int .i64 x, .int .i64 y, .int .i64 z, .int .i64 u] (.int .i64 z) rfl
  have Q3 := p 3 #[.int .i64 x, .int .i64 y, .int .i64 z, .int .i64 u] (.int .i64 u) rfl
  simp only [Op.eqItems, Sem.run_bind, P0, P1, P2, P3, Q0, Q1, Q2, Q3, Result.andThen_ok, eql_int, Sem.run_ite, Sem.run_pure]
  by_cases h0 : a = x
  · by_cases h1 : b = y
    · by_cases h2 : c = z
      · by_cases h3 : d = u
        · simp [h0, h1, h2, h3]
        · simp [h0, h1, h2, h3]
      · simp [h0, h1, h2]
    · simp [h0, h1]
  · simp [h0]
theorem eql_four_is (w : World) {a b c d x y z u : Int} {r : Bool} (h : decide (a = x ∧ b = y ∧ c = z ∧ d = u) = r) :
    (Op.equalIn 10000 22 (.agg #[.int .i64 a, .int .i64 b, .int .i64 c, .int .i64 d]) (.agg #[.int .i64 x, .int .i64 y, .int .i64 z, .int .i64 u])).run Tryd.prog w = .ok r w := by
  rw [← h]; exact eql_four w a b c d x y z u
end Go.Proofs.YtgkmghhplepnnaaDoor
