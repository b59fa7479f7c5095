/- Layer 11 (digits): a strings.Builder: WriteByte and WriteString; what Join returns, the program's and the document's: contracts. -/
import Derived.Test.YtcafppconcghhaaDoorDigitsWordsR
namespace Go.Proofs.YtcafppconcghhaaDoor
open Go.RowKit

theorem write_text (B b : Nat) (l x : List UInt8) (W : World) (h : Lib.IsBuilder 50 5 B b (Lib.byteCells l) W) (hlen : l.length + x.length ≤ 1048576) (hB : B ≤ W.heap.size) :
    Calls Tryd.prog 32 #[.pointer (some ⟨b, 0, none⟩), .string (mkT x)] W fun e w' => (∃ v, e = .returned v) ∧ Lib.IsBuilder 50 5 B b (Lib.byteCells (l ++ x)) w' ∧ Below B W w' := by
  have hsz := mk_size x
  refine (Any.Builder_WriteString { Tryd.lays105 with } Tryd.Builder_Extra_105 B b (Lib.byteCells l) (mkT x) W h (by rw [Lib.byteCells_length]; omega) hB).mono ?_
  rintro e w' ⟨rfl, h1, h2⟩
  refine ⟨⟨_, rfl⟩, .inr ?_, h2⟩
  rw [Lib.byteCells_append]
  exact h1
set_option maxHeartbeats 1000000 in
theorem write_byte (B b : Nat) (l : List UInt8) (W : World) (h : Lib.IsBuilder 50 5 B b (Lib.byteCells l) W) (hlen : l.length + 1 ≤ 1048576) (hB : B ≤ W.heap.size) :
    Calls Tryd.prog 31 #[.pointer (some ⟨b, 0, none⟩), .int .u8 32] W fun e w' => (∃ v, e = .returned v) ∧ Lib.IsBuilder 50 5 B b (Lib.byteCells (l ++ [32])) w' ∧ Below B W w' := by
  obtain ⟨i0, hi, hz0, hz1, hz2⟩ := info_parts (Tryd.Builder_Extra_105).infoByte
  have HC := Lib.hid (Any.Builder_copyCheck { Tryd.lays105 with } (Tryd.Builder_Extra_105).toX72 B b (Lib.byteCells l) W h)
  clear h
  go_enter Tryd.func31, Tryd.ntmps31
  go_wp2_with fail
  refine HC.out.mono ?_
  rintro e w1 ⟨rfl, h1, hb1⟩
  obtain ⟨hBb, v, hbk, hown, hne⟩ := h1
  have hbl : (Lib.byteCells l).length = l.length := Lib.byteCells_length l
  have c0 : w1.cell? ⟨b, 0, none⟩ = some (.pointer (some ⟨b, 0, none⟩)) := by rw [Lib.cell_of_heap hbk]; rfl
  have c1 : w1.cell? ⟨b, 1, none⟩ = some v := by rw [Lib.cell_of_heap hbk]; rfl
  go_wp2_with (at_builtin; refine wpList_append_own _ rfl _ _ 48 rfl B 5 i0 (.int .u8 0) 1 1 Tryd.underlying48 hi hz0 hz1 hz2 rfl (by decide) _ _ _ rfl (hown.alloc _) ⟨w1.heap.size, 0, none⟩ 1 1 [.int .u8 32] rfl rfl ?c1 ?c2 ?c3 ?c4 ?c5 ?_)
  case c1 =>
    intro j u hj
    match j, hj with
    | 0, hj => simp at hj; subst hj; simp [Addr.add]
  case c2 => intro u hu; simp at hu; subst hu; rfl
  case c3 => unfold maxLen; omega
  case c4 => omega
  case c5 => have := hb1.size; simp; omega
  intro v' w2 hown' hgrow _
  have hlt : b < w1.heap.size := (Array.getElem?_eq_some_iff.1 hbk).1
  have hb2 : w2.heap[b]? = some (.cells #[.pointer (some ⟨b, 0, none⟩), v] 50 (0, 0)) := by
    rw [hgrow.block b (by simp; omega) (fun e => hne e.symm), Lib.alloc_old w1 _ b hlt]
    exact hbk
  have d0 : w2.cell? ⟨b, 0, none⟩ = some (.pointer (some ⟨b, 0, none⟩)) := by rw [Lib.cell_of_heap hb2]; rfl
  have d1 : w2.cell? ⟨b, 1, none⟩ = some v := by rw [Lib.cell_of_heap hb2]; rfl
  have f1 : w2.frozen? ⟨b, 1, none⟩ = false := Lib.frozen_of_heap hb2 1
  have HBB : Hid (Below B W w2) := by
    have := hb1.size
    exact Below.grown (hb1.alloc (by omega) _) hgrow (by simp; omega) (fun k hk => by have := (hown.lt _ hk).1; omega)
  obtain ⟨g, cap, rfl⟩ : ∃ g cap, v' = .slice (some ⟨g, 0, none⟩) (l.length + 1) cap := by
    rcases hown'.2 with ⟨_, h0⟩ | ⟨g, cap, cur, hv, _⟩
    · omega
    · exact ⟨g, cap, hv⟩
  go_wp2
  go_ret
  refine ⟨⟨_, rfl⟩, .inr ?_, ?_⟩
  · have e1 : Lib.byteCells (l ++ [32]) = Lib.byteCells l ++ [.int .u8 32] := by simp [Lib.byteCells]
    rw [e1]
    exact Lib.BuilderAt.put (T := 50) (e := 5) hBb hb2 (bs' := Lib.byteCells l ++ [.int .u8 32]) (by simpa [Lib.byteCells_length] using hown') (by decide)
  · exact HBB.out.setCell (p := ⟨b, 1, none⟩) hBb _

theorem take_snoc {L : List (List UInt8)} {k : Nat} (h : k < L.length) : L.take (k + 1) = L.take k ++ [L[k]'h] := List.take_succ_eq_append_getElem h
theorem join_step {L : List (List UInt8)} {k : Nat} (h : k < L.length) : joinL (L.take (k + 1)) = if k = 0 then L[k]'h else joinL (L.take k) ++ [32] ++ L[k]'h := by
  rw [take_snoc h, joinL_snoc]
  by_cases hk : k = 0
  · subst hk
    rfl
  · rw [if_neg hk, if_neg (fun e => by have h2 := congrArg List.length e; rw [List.length_take, List.length_nil] at h2; omega), List.append_assoc]
    rfl
theorem join_bound {L : List (List UInt8)} (hn : L.length ≤ 301) (hx : ∀ x, x ∈ L → x.length ≤ 300) (k : Nat) : (joinL (L.take k)).length ≤ 90601 := by
  have h1 := joinL_length (m := 300) (L.take k) fun x hm => hx x (List.mem_of_mem_take hm)
  have h2 : (L.take k).length ≤ 301 := by rw [List.length_take]; omega
  have h3 : (L.take k).length * 301 ≤ 301 * 301 := Nat.mul_le_mul_right _ h2
  omega
set_option maxHeartbeats 2000000 in
theorem join_is (w : World) {v : Value} {L : List (List UInt8)} (hv : TextsAt w v L) (hn : L.length ≤ 301) (hx : ∀ x, x ∈ L → x.length ≤ 300) {S : ByteArray} (hS : mkT (joinL L) = S) : Calls Tryd.prog 19 #[v] w fun e w' => e = .returned (.string S) ∧ Below w.heap.size w w' := by
  obtain ⟨A, c, rfl, hA⟩ := hv
  have HA := Lib.hid hA
  have HB := Lib.hid fun k => join_bound hn hx k
  have HX := Lib.hid hx
  have HS := Lib.hid hS
  clear hA hx hS
  have F0 := Lib.fresh_isBuilder 50 5 w
  have B0 := (Below.refl w.heap.size w).alloc (Nat.le_refl _) (.cells #[.pointer none, .slice none 0 0] 50)
  obtain ⟨n, hln⟩ : ∃ n, L.length = n := ⟨_, rfl⟩
  have HN := Lib.hid hln
  rw [hln] at hn ⊢
  clear hln
  go_enter Tryd.func19, Tryd.ntmps19
  go_wp2
  go_loopw [8] (fun b wr => ∃ k : Nat, b = .int .i64 k ∧ k ≤ n ∧ Lib.IsBuilder 50 5 w.heap.size w.heap.size (Lib.byteCells (joinL (L.take k))) wr ∧ Below w.heap.size w wr) (fun b _ => n - (RowKit.intOf b).toNat)
  case atStart => exact ⟨0, rfl, Nat.zero_le _, F0, B0⟩
  case round =>
    obtain ⟨k, rfl, hk, hbd, hbw⟩ := hrel
    by_cases hlt : k < n
    · have hkl : k < L.length := by have := HN.out; omega
      have hms : n - (k + 1) < n - k := by omega
      have hi : 0 ≤ (k : Int) ∧ (k : Int) < (n : Int) := by omega
      obtain ⟨b, off, rfl, hb1, hc1⟩ := HA.out k _ (List.getElem?_eq_getElem hkl)
      have hc : wr.cell? ⟨b, off + k, none⟩ = some (textV (L[k]'hkl)) := (hbw.cell (p := ⟨b, off + k, none⟩) hb1).trans hc1
      have hxl := HX.out _ (List.getElem_mem hkl)
      have hbound := HB.out k
      have hstep := join_step hkl
      have HSt := Lib.hid hstep
      have HBd := Lib.hid hbd
      have hBs := hbw.size
      obtain ⟨x, hxe⟩ : ∃ x, L[k]'hkl = x := ⟨_, rfl⟩
      rw [hxe] at hc hxl hstep
      clear hc1 hbd
      unfold textV at hc
      by_cases h0 : k = 0
      · subst h0
        rw [if_pos rfl] at hstep
        rw [Nat.add_zero] at hc
        have HW := Lib.hid (write_text w.heap.size w.heap.size [] x wr HBd.out (by simp; omega) hBs)
        have HE : Hid (joinL (L.take (0 + 1)) = x) := hstep
        clear hstep HSt HBd hxe hbound
        generalize mkT x = X at *
        go_wp2_with fail
        refine HW.out.mono ?_
        rintro e w2 ⟨⟨v2, rfl⟩, hbd2, hb2⟩
        rw [List.nil_append, ← HE.out] at hbd2
        have hb3 := hbw.trans hb2
        have HBd2 := Lib.hid hbd2
        clear hbd2
        go_wp2
        go_roundw
        case rel => exact ⟨0 + 1, rfl, hlt, HBd2.out, hb3⟩
        case measure => exact hms
      · rw [if_neg h0] at hstep
        have HE : Hid (joinL (L.take (k + 1)) = joinL (L.take k) ++ [32] ++ x) := hstep
        have HW := Lib.hid (write_byte w.heap.size w.heap.size _ wr HBd.out (by omega) hBs)
        have h0' : 0 < (k : Int) := by omega
        have HW2 : Hid (∀ W, Lib.IsBuilder 50 5 w.heap.size w.heap.size (Lib.byteCells (joinL (L.take k) ++ [32])) W → w.heap.size ≤ W.heap.size → Calls Tryd.prog 32 #[.pointer (some ⟨w.heap.size, 0, none⟩), .string (mkT x)] W fun e w' => (∃ v, e = .returned v) ∧ Lib.IsBuilder 50 5 w.heap.size w.heap.size (Lib.byteCells (joinL (L.take k) ++ [32] ++ x)) w' ∧ Below w.heap.size W w') := fun W h hB => write_text w.heap.size w.heap.size _ x W h (by rw [List.length_append]; simp; omega) hB
        clear hstep HSt HBd hxe hbound
        generalize mkT x = X at *
        go_wp2_with fail
        refine HW.out.mono ?_
        rintro e w2 ⟨⟨v2, rfl⟩, hbd2, hb2⟩
        have HW3 := Lib.hid (HW2.out w2 hbd2 (Nat.le_trans hBs hb2.size))
        clear hbd2 HW HW2
        go_wp2_with fail
        refine HW3.out.mono ?_
        rintro e w3 ⟨⟨v3, rfl⟩, hbd3, hb3⟩
        rw [← HE.out] at hbd3
        have hb4 := (hbw.trans hb2).trans hb3
        have HBd3 := Lib.hid hbd3
        clear hbd3 HW3
        go_wp2
        go_roundw
        case rel => exact ⟨k + 1, rfl, hlt, HBd3.out, hb4⟩
        case measure => exact hms
    · have hk2 : L.take k = L := List.take_of_length_le (by have := HN.out; omega)
      rw [hk2] at hbd
      have HW := Lib.hid (Tryd.Builder_String_any w.heap.size w.heap.size (joinL L) wr hbd hbw.size)
      have hi : ¬ (k : Int) < (n : Int) := by omega
      clear hbd hk2
      go_wp2_with fail
      refine HW.out.mono ?_
      rintro e w2 ⟨rfl, hb2⟩
      go_wp2
      go_ret
      exact ⟨by rw [← HS.out]; rfl, hbw.trans hb2⟩

set_option maxHeartbeats 2000000 in
theorem refJoin_is (w : World) {v : Value} {L : List (List UInt8)} (hv : TextsAt w v L) (hn : L.length ≤ 301) (hx : ∀ x, x ∈ L → x.length ≤ 300) {S : ByteArray} (hS : mkT (joinL L) = S) : Calls Tryd.prog 20 #[v] w fun e w' => e = .returned (.string S) ∧ ∃ q, w' = w.drewN q := by
  obtain ⟨A, c, rfl, hA⟩ := hv
  have HA := Lib.hid hA
  have HB := Lib.hid fun k => join_bound hn hx k
  have HX := Lib.hid hx
  have HS := Lib.hid hS
  clear hA hx hS
  obtain ⟨n, hln⟩ : ∃ n, L.length = n := ⟨_, rfl⟩
  have HN := Lib.hid hln
  rw [hln] at hn ⊢
  clear hln
  go_enter Tryd.func20, Tryd.ntmps20
  go_wp2
  go_loopw [3, 4] (fun a b wr => ∃ k q : Nat, b = .int .i64 k ∧ k ≤ n ∧ a = .string (mkT (joinL (L.take k))) ∧ wr = w.drewN q) (fun _ b _ => n - (RowKit.intOf b).toNat)
  case atStart => exact ⟨0, 0, rfl, Nat.zero_le _, rfl, rfl⟩
  case round =>
    obtain ⟨k, q, rfl, hk, rfl, rfl⟩ := hrel
    by_cases hlt : k < n
    · have hkl : k < L.length := by have := HN.out; omega
      have hms : n - (k + 1) < n - k := by omega
      have hi : 0 ≤ (k : Int) ∧ (k : Int) < (n : Int) := by omega
      obtain ⟨b, off, rfl, hb1, hc1⟩ := HA.out k _ (List.getElem?_eq_getElem hkl)
      have hxl := HX.out _ (List.getElem_mem hkl)
      have hbound := HB.out k
      have hstep := join_step hkl
      obtain ⟨x, hxe⟩ : ∃ x, L[k]'hkl = x := ⟨_, rfl⟩
      rw [hxe] at hc1 hxl hstep
      unfold textV at hc1
      clear hb1
      by_cases h0 : k = 0
      · subst h0
        rw [if_pos rfl] at hstep
        rw [Nat.add_zero] at hc1
        have hadd : ∀ W, (Op.stringOp .add (mkT (joinL (L.take 0))) (mkT x)).run Tryd.prog W = .ok (.string (mkT (joinL (L.take (0 + 1))))) W := fun W => by
          refine (str_add W (by rw [mk_size, mk_size]; omega)).trans ?_
          rw [mk_append, hstep]
          rfl
        clear hstep hxe hbound
        generalize joinL (L.take 0) = j0 at *
        generalize mkT j0 = D0 at *
        generalize mkT x = X at *
        go_wp2
        go_roundw
        case rel => exact ⟨0 + 1, q, rfl, hlt, by first | rfl | skip, by first | rfl | trivial⟩
        case measure => exact hms
      · rw [if_neg h0] at hstep
        have h0' : 0 < (k : Int) := by omega
        have hadd1 : ∀ W, (Op.stringOp .add (mkT (joinL (L.take k))) ⟨#[32]⟩).run Tryd.prog W = .ok (.string (mkT (joinL (L.take k) ++ [32]))) W := fun W => by
          refine (str_add W (by have := mk_size (joinL (L.take k)); show _ + 1 ≤ _; omega)).trans ?_
          rw [← mk_append]
        have hadd2 : ∀ W, (Op.stringOp .add (mkT (joinL (L.take k) ++ [32])) (mkT x)).run Tryd.prog W = .ok (.string (mkT (joinL (L.take (k + 1))))) W := fun W => by
          refine (str_add W (by rw [mk_size, mk_size, List.length_append]; simp; omega)).trans ?_
          rw [mk_append, hstep]
        clear hstep hxe hbound
        generalize mkT (joinL (L.take k) ++ [32]) = D1 at *
        generalize mkT (joinL (L.take k)) = D0 at *
        generalize mkT x = X at *
        go_wp2
        go_roundw
        case rel => exact ⟨k + 1, q, rfl, hlt, by first | rfl | skip, by first | rfl | trivial⟩
        case measure => exact hms
    · have hk2 : L.take k = L := List.take_of_length_le (by have := HN.out; omega)
      rw [hk2, HS.out]
      have hi : ¬ (k : Int) < (n : Int) := by omega
      clear hk2
      go_wp2
      go_ret
      exact ⟨rfl, q, rfl⟩
end Go.Proofs.YtcafppconcghhaaDoor
