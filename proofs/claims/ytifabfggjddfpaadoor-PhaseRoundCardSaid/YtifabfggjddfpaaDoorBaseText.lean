/- Words on texts: a text as the list of its bytes; the byte at a place; what is left from a place on; parts of a text, texts joined. -/
import Derived.Test.YtifabfggjddfpaaDoorBase
import Derived.Laws.IdiomStrings
import Derived.Laws.Concat
namespace Go.Proofs.YtifabfggjddfpaaDoor

/-- The bytes of a text. -/
abbrev txt (s : ByteArray) : List UInt8 := s.data.toList
/-- The text of these bytes. -/
abbrev mkT (l : List UInt8) : ByteArray := ⟨l.toArray⟩
theorem txt_mk (l : List UInt8) : txt (mkT l) = l := rfl
theorem mk_txt (s : ByteArray) : mkT (txt s) = s := rfl
theorem txt_inj {s t : ByteArray} (h : txt s = txt t) : s = t := by rw [← mk_txt s, h]
theorem txt_len (s : ByteArray) : (txt s).length = s.size := rfl
theorem mk_size (l : List UInt8) : (mkT l).size = l.length := by simp [ByteArray.size]
theorem mk_append (a b : List UInt8) : mkT a ++ mkT b = mkT (a ++ b) := txt_inj (by simp)
theorem txt_append (s t : ByteArray) : txt (s ++ t) = txt s ++ txt t := by simp
theorem txt_extract (s : ByteArray) (a b : Nat) : txt (s.extract a b) = ((txt s).drop a).take (b - a) := by
  show (s.extract a b).data.toList = _
  rw [ByteArray.data_extract, Array.toList_extract]
theorem txt_nil {s : ByteArray} (h : s.size = 0) : txt s = [] := List.eq_nil_of_length_eq_zero h

/-- The byte at a place of a text; 0 beyond it. -/
def byteAt (s : ByteArray) (j : Nat) : UInt8 := s.data[j]?.getD 0
theorem byteAt_lt {s : ByteArray} {j : Nat} (h : j < s.size) : s[j]? = some (byteAt s j) := by
  have h' : j < s.data.size := h
  unfold byteAt
  rw [ByteArray.getElem?_lt' s j h, Array.getElem?_eq_getElem h']
  rfl
theorem byteAt_get {s : ByteArray} {j : Nat} (h : j < s.size) : s[j]'h = byteAt s j := by
  have h' : j < s.data.size := h
  unfold byteAt
  rw [Array.getElem?_eq_getElem h']
  rfl
theorem byteAt_txt (s : ByteArray) (j : Nat) : byteAt s j = (txt s)[j]?.getD 0 := by unfold byteAt; simp
/-- What is left of a text from a place on. -/
abbrev left (s : ByteArray) (j : Nat) : List UInt8 := (txt s).drop j
theorem left_zero (s : ByteArray) : left s 0 = txt s := rfl
theorem left_lt {s : ByteArray} {j : Nat} (h : j < s.size) : left s j = byteAt s j :: left s (j + 1) := by
  have h' : j < (txt s).length := h
  rw [byteAt_txt, List.getElem?_eq_getElem h']
  exact List.drop_eq_getElem_cons h'
theorem left_end {s : ByteArray} {j : Nat} (h : s.size ≤ j) : left s j = [] := List.drop_eq_nil_of_le h

theorem str_add (W : World) {x y : ByteArray} (h : x.size + y.size ≤ 9223372036854775807) : (Op.stringOp .add x y).run Tryd.prog W = .ok (.string (x ++ y)) W := run_string_add_sum W x y h
theorem str_mid (W : World) (s : ByteArray) {a b : Nat} (h : a ≤ b) (hb : b ≤ s.size) : (Instr.slice 9 (.string s) (some (.int .i64 (a : Int))) (some (.int .i64 (b : Int))) none).run Tryd.prog W = .ok (.string (s.extract a b)) W := by
  have e1 : (0 : Int) ≤ (a : Int) := by omega
  have e2 : (0 : Int) ≤ (b : Int) := by omega
  simp [Instr.slice, Instr.sliceBounds, Instr.sliceBound, asIntOf, run_underlying Tryd.underlying9, e1, e2, h, hb]
theorem str_high (W : World) (s : ByteArray) {a : Nat} (h : a ≤ s.size) : (Instr.slice 9 (.string s) (some (.int .i64 (a : Int))) none none).run Tryd.prog W = .ok (.string (s.extract a s.size)) W := by
  have e1 : (0 : Int) ≤ (a : Int) := by omega
  simp [Instr.slice, Instr.sliceBounds, Instr.sliceBound, asIntOf, run_underlying Tryd.underlying9, e1, h]
theorem str_index (W : World) (s : ByteArray) {j : Nat} (h : j < s.size) : (Instr.index 9 (.string s) (.int .i64 (j : Int))).run Tryd.prog W = .ok (.int .u8 ((byteAt s j).toNat : Int)) W := by
  have e1 : (0 : Int) ≤ (j : Int) := by omega
  simp only [Instr.index, asIntOf, Sem.run_bind, Sem.run_pure, Result.andThen_ok, run_underlying Tryd.underlying9]
  rw [if_pos e1, Int.toNat_natCast, byteAt_lt h]
  rfl
end Go.Proofs.YtifabfggjddfpaaDoor
