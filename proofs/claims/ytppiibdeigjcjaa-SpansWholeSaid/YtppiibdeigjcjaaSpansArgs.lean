/- Layer 8 (spans): a slice of spans that came in as an argument. -/
import Derived.Test.YtppiibdeigjcjaaSpansRight
namespace Go.Proofs.Ytppiibdeigjcjaa
open Go.RowKit

theorem recs_spans {w : World} {a : Option Addr} {len cap : Nat} {f : Nat → Nat → Int} (h : RecsIn w a len cap [.i64, .i64] f) : ∃ l : List Sp, SpansIn w (.slice a len cap) l := by
  obtain ⟨xs, hp, hl, hi⟩ := h.pairs
  subst hl
  refine ⟨xs, ⟨⟨a, cap, rfl, ?_, ?_, hp⟩, hi⟩⟩
  · rcases h with ⟨_, e, _⟩ | ⟨x, _, h1, h2, _⟩
    · omega
    · exact h1
  · rcases h with ⟨_, _, e⟩ | ⟨x, _, h1, h2, _⟩
    · rw [e]; exact Nat.zero_le _
    · exact h2
end Go.Proofs.Ytppiibdeigjcjaa
