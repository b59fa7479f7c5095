/- Layer 10 (bytes): a strings.Builder that was grown: what Write appends: a contract. -/
import Derived.Test.YtcfnnchbnlcppaaBytesWipe
import Derived.Test.YtcfnnchbnlcppaaShelf
namespace Go.Proofs.Ytcfnnchbnlcppaa
open Go.RowKit Go.Maps

abbrev Built (B q : Nat) (l : List UInt8) (w : World) : Prop := Lib.BuilderAt 60 5 B q (.pointer (some ⟨q, 0, none⟩)) (Lib.byteCells l) w
theorem Built.same {B q : Nat} {l : List UInt8} {w w' : World} (h : Built B q l w) (hb : ∀ k, B ≤ k → k < w.heap.size → w'.heap[k]? = w.heap[k]?) : Built B q l w' := by
  obtain ⟨hB, v, hbk, hown, hne⟩ := h
  refine ⟨hB, v, (hb q hB (heap_lt hbk)).trans hbk, ?_, hne⟩
  refine ⟨hown.1, ?_⟩
  rcases hown.2 with h | ⟨g, cap, cur, rfl, h1, h2, r⟩
  · exact .inl h
  · exact .inr ⟨g, cap, cur, rfl, h1, (hb g h1 (heap_lt h2)).trans h2, r⟩
theorem check_at {B q : Nat} {l : List UInt8} {w : World} (h : Built B q l w) : Calls Try.prog 38 #[.pointer (some ⟨q, 0, none⟩)] w fun e w' => e = .returned (.tuple #[]) ∧ w = w' := by
  have h0 := h.cell0
  have hne : ∀ W : World, (binOp .neq 58 (.pointer (some ⟨q, 0, none⟩)) (.pointer (some ⟨q, 0, none⟩))).run Try.prog W = .ok (.bool false) W := fun W => by
    have hb : (Try.prog.info? 60).map (·.size) = some 2 := by kernel_rfl
    cases hi : Try.prog.info? 60 with
    | none => rw [hi] at hb; cases hb
    | some i => exact Lib.run_neq_ptr_same W _ Try.underlying58 hi
  clear h
  go_enter Try.func38, Try.ntmps38
  go_wp2
  go_end0
  exact ⟨rfl, rfl⟩
theorem write_at {B q : Nat} {l : List UInt8} {w : World} (h : Built B q l w) (ad : Addr) (m c : Nat) (t : List UInt8) (hm : t.length = m) (hnews : ∀ j u, (Lib.byteCells t)[j]? = some u → w.cell? (ad.add j) = some u) (hlen : l.length + m ≤ 1048576) :
    Calls Try.prog 33 #[.pointer (some ⟨q, 0, none⟩), .slice (some ad) m c] w fun e w' => e = .returned (.tuple #[.int .i64 m, .nilIface]) ∧ Built B q (l ++ t) w' ∧ Below B w w' := by
  obtain ⟨i0, hi, hz0, hz1, hz2⟩ := info_parts u8_info
  have HC := Lib.hid (check_at h)
  obtain ⟨hB, v, hbk, hown, hne⟩ := h
  have c0 : w.cell? ⟨q, 0, none⟩ = some (.pointer (some ⟨q, 0, none⟩)) := by rw [Lib.cell_of_heap hbk]; rfl
  have c1 : w.cell? ⟨q, 1, none⟩ = some v := by rw [Lib.cell_of_heap hbk]; rfl
  have hlt := heap_lt hbk
  have hml : (Lib.byteCells t).length = m := by rw [Lib.byteCells_length]; exact hm
  go_enter Try.func33, Try.ntmps33
  go_wp2_with fail
  refine HC.out.mono ?_
  rintro e w1 ⟨rfl, rfl⟩
  go_wp2_with (at_builtin; refine wpList_append_own _ rfl _ _ 51 rfl B 5 i0 (.int .u8 0) 1 1 Try.underlying51 hi hz0 hz1 hz2 rfl (by decide) _ _ _ rfl hown ad m c (Lib.byteCells t) rfl (by omega) hnews (Lib.byteCells_one t) ?c3 ?c4 ?c5 ?_)
  case c3 => unfold maxLen; rw [Lib.byteCells_length]; omega
  case c4 => rw [Lib.byteCells_length]; omega
  case c5 => omega
  intro v' w2 hown' hgrow _
  have hb2 : w2.heap[q]? = some (.cells #[.pointer (some ⟨q, 0, none⟩), v] 60 (0, 0)) := by
    rw [hgrow.block q hlt (fun e => hne e.symm)]
    exact hbk
  have d0 : w2.cell? ⟨q, 0, none⟩ = some (.pointer (some ⟨q, 0, none⟩)) := by rw [Lib.cell_of_heap hb2]; rfl
  have d1 : w2.cell? ⟨q, 1, none⟩ = some v := by rw [Lib.cell_of_heap hb2]; rfl
  have f1 : w2.frozen? ⟨q, 1, none⟩ = false := Lib.frozen_of_heap hb2 1
  obtain ⟨ao, n', cap, rfl⟩ : ∃ ao n' cap, v' = .slice ao n' cap := by
    rcases hown'.2 with ⟨hv, _⟩ | ⟨g, cap, cur, hv, _⟩
    · exact ⟨_, _, _, hv⟩
    · exact ⟨_, _, _, hv⟩
  go_wp2
  go_ret2
  refine ⟨rfl, ?_, ?_⟩
  · have e : Lib.byteCells (l ++ t) = Lib.byteCells l ++ Lib.byteCells t := by simp [Lib.byteCells]
    show Lib.BuilderAt _ _ _ _ _ (Lib.byteCells (l ++ t)) _
    rw [e]
    exact Lib.BuilderAt.put (T := 60) (e := 5) hB hb2 (bs' := Lib.byteCells l ++ Lib.byteCells t) (by simpa [hml] using hown') (by decide)
  · exact (((Below.refl B w).grown hgrow (by omega) (fun k hk => (hown.lt k hk).1)).setCell (p := ⟨q, 1, none⟩) hB _)
end Go.Proofs.Ytcfnnchbnlcppaa
