/- Layer 8 (spans): what Cut returns: a contract. -/
import Derived.Test.YtppiibdeigjcjaaSpansCutF1
import Derived.Test.YtppiibdeigjcjaaSpansCutF2
import Derived.Test.YtppiibdeigjcjaaSpansCutF3
import Derived.Test.YtppiibdeigjcjaaSpansCutV1
import Derived.Test.YtppiibdeigjcjaaSpansCutV2
import Derived.Test.YtppiibdeigjcjaaSpansCutV3
namespace Go.Proofs.Ytppiibdeigjcjaa
open Go.RowKit

theorem cut_is {w : World} {v : Value} {l : List Sp} {x nn : Int} {b : Bool} (h : SpansIn w v l) (hs : l.length ≤ 1048576) (hx : InInt x) (hn : InInt nn) (hb : cutB l x nn = b) : Calls Try.prog 26 #[v, .int .i64 x, .int .i64 nn] w (MadeB w (cutV l x nn b) b) := by
  cases b with
  | false => exact cut_no h hs hx hn hb
  | true =>
    obtain ⟨ho, h1, h2⟩ := cutB_iff.1 hb
    show Calls _ _ _ _ (MadeB w (cutR l x nn) true)
    by_cases h0 : nn = 0
    · subst h0; exact cut_zero h hs h1 ho
    · have h3 : 0 < nn := by omega
      cases hp : l[firstL x l]? with
      | none =>
        by_cases hf : x + nn ≤ 9223372036854775807
        · exact cut_fits3 h hs hx hn ho h1 h3 hf hp
        · exact cut_over3 h hs hx hn ho h1 h3 hf hp
      | some p =>
        obtain ⟨u, pt⟩ := p
        by_cases hux : u < x <;> by_cases hf : x + nn ≤ 9223372036854775807
        · exact cut_fits1 h hs hx hn ho h1 h3 hf hp hux
        · exact cut_over1 h hs hx hn ho h1 h3 hf hp hux
        · exact cut_fits2 h hs hx hn ho h1 h3 hf hp hux
        · exact cut_over2 h hs hx hn ho h1 h3 hf hp hux
end Go.Proofs.Ytppiibdeigjcjaa
