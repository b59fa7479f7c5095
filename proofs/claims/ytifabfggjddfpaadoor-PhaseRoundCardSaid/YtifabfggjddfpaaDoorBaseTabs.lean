/- Tables behind a row's premise 'laid': an array of integers, an array of texts, wherever it stands on the list: its cells. -/
import Derived.Test.YtifabfggjddfpaaDoorBaseText
import Derived.ProofKit
import Derived.LaidMore
import Derived.OpenShut
import Derived.ChangeOld
import Derived.Stop.Joined
import Derived.Lib.LaidTab
namespace Go.Proofs.YtifabfggjddfpaaDoor
open Go.ChangeShapes Go.WideShapes Go.ChangeAt Go.WideMaps Go.WideElems Go.RowKit

/-- One listed variable's reading. -/
theorem laid_reads {P : Program} {w : World} {n : String} {d : DataW Unit} : ∀ {l : List (String × DataW Unit)} {ps : List MemPlace}, DataW.LaidVars P w l ps → (n, d) ∈ l →
    ∃ g t cs fuel p, P.globalNamed n = some g ∧ (P.globals[g]?).map (·.type) = some t ∧ w.var? P n = some cs ∧ DataW.trod (fun _ => ()) P w 0 (fun _ => true) false fuel t cs.toList = some (d, p)
  | [], _, _, hm => by cases hm
  | (n', d') :: r, ps, h, hm => by
    obtain ⟨g, t, cs, fuel, p, q, h1, h2, h3, h4, h5, _⟩ := h
    rcases List.mem_cons.1 hm with e | e
    · cases e
      exact ⟨g, t, cs, fuel, p, h1, h2, h3, h4⟩
    · exact laid_reads h5 e
/-- A listed array of integers: its cells. -/
theorem tab_ints {P : Program} {W : World} {l : List (String × DataW Unit)} {name : String} {k : IntKind} {zs : List Int} {g : Nat} {t e : TypeId} {n : Nat} (hg : P.globalNamed name = some g) (hty : (P.globals[g]?).map (·.type) = some t) (ht : P.underlying t = some (.array n e)) (he : P.underlying e = some (.int k)) (hce : P.cellsOf e = 1) (hct : P.cellsOf t = n)
    (h : laidMet P l W) (hm : (name, Lib.tabData k zs) ∈ l) : ∀ i, i < zs.length → W.cell? ⟨g, i, none⟩ = some (.int k (zs.getD i 0)) := by
  obtain ⟨_, hv, _⟩ := h
  obtain ⟨g', t', cs, fuel, p, hg', ht', hvar, hd⟩ := laid_reads hv hm
  obtain rfl := Option.some.inj (hg.symm.trans hg')
  obtain rfl := Option.some.inj (hty.symm.trans ht')
  have hc := Lib.cells_of_tab ht he hce hct hd
  have hT : Lib.TabIs P W name k zs := by
    unfold Lib.TabIs
    rw [hvar, ← hc]
  exact fun i hi => hT.cell hg i hi
/-- A table of texts, as a row lists it. -/
def textData {H : Type} (ts : List ByteArray) : DataW H := .agg (ts.map fun s => .lit (.string (txt s)))
/-- A listed array of texts: its cells. -/
theorem tab_texts {P : Program} {W : World} {l : List (String × DataW Unit)} {name : String} {ts : List ByteArray} {g : Nat} {t e : TypeId} {n : Nat} (hg : P.globalNamed name = some g) (hty : (P.globals[g]?).map (·.type) = some t) (ht : P.underlying t = some (.array n e)) (he : P.underlying e = some .string) (hce : P.cellsOf e = 1) (hct : P.cellsOf t = n)
    (h : laidMet P l W) (hm : (name, textData ts) ∈ l) : ∀ i s, ts[i]? = some s → W.cell? ⟨g, i, none⟩ = some (.string s) := by
  obtain ⟨_, hv, _⟩ := h
  obtain ⟨g', t', cs, fuel, p, hg', ht', hvar, hd⟩ := laid_reads hv hm
  obtain rfl := Option.some.inj (hg.symm.trans hg')
  obtain rfl := Option.some.inj (hty.symm.trans ht')
  obtain ⟨xs, m, hl, hx, hlen, hn, hel⟩ := DataW.trod_array ht hd
  rw [hce] at hel
  rw [hct] at hlen
  have hx1 : xs.map (·.1) = ts.map fun s => (DataW.lit (.string (txt s)) : DataW Unit) := by
    simp only [textData, Prod.mk.injEq, DataW.agg.injEq] at hx
    exact hx.1.symm
  intro i s hs
  have hi : i < ts.length := (List.getElem?_eq_some_iff.1 hs).1
  have hil : i < xs.length := by
    have := congrArg List.length hx1
    rw [List.length_map, List.length_map] at this
    omega
  have hic : i < cs.toList.length := by omega
  have h1 := hel i (by omega)
  rw [Nat.mul_one, List.drop_eq_getElem_cons hic, List.getElem?_eq_getElem hil] at h1
  obtain ⟨s', e1, e2, _⟩ := DataW.trod_string he h1
  have e3 : cs.toList[i] = .string s' := by simpa using e1
  have hss : s' = s := by
    have h2 := congrArg (·[i]?) hx1
    simp only [List.getElem?_map] at h2
    rw [List.getElem?_eq_getElem hil, hs] at h2
    simp only [Option.map_some, Option.some.injEq] at h2
    rw [e2] at h2
    simp only [DataW.lit.injEq, Lit.string.injEq] at h2
    exact txt_inj h2
  have hc := World.var?_cell hg hvar i
  rw [hc, ← hss, ← e3, ← Array.getElem?_toList, List.getElem?_eq_getElem hic]
end Go.Proofs.YtifabfggjddfpaaDoor
