/- Layer 10 (bytes): the package's bytes and the document's text beside each other: Load, Store, Wipe and Copy, whatever they are told. -/
import Derived.Test.YtcfnnchbnlcppaaBytesWorks
import Derived.Test.YtcfnnchbnlcppaaBytesRDirty
namespace Go.Proofs.Ytcfnnchbnlcppaa
open Go.RowKit Go.Maps

/-- The text behind Store, Wipe and Copy. -/
def storeS (s : ByteArray) (a : Int) (t : ByteArray) : ByteArray := if rangeE s.size a t.size = 0 then putS s a.toNat t else s
def wipeS (s : ByteArray) (a m : Int) : ByteArray := if rangeE s.size a m = 0 then putS s a.toNat (zeros m.toNat) else s
def copyS (s : ByteArray) (a : Int) (t : ByteArray) (o m : Int) : ByteArray := if rangeE t.size o m = 0 then storeS s a (t.extract o.toNat (o.toNat + m.toNat)) else s
theorem storeS_size (s : ByteArray) (a : Int) (t : ByteArray) : (storeS s a t).size = s.size := by
  unfold storeS
  split
  · rename_i h
    obtain ⟨h1, h2, h3⟩ := rangeE_yes h
    exact putS_size (by omega)
  · rfl
theorem wipeS_size (s : ByteArray) (a m : Int) : (wipeS s a m).size = s.size := by
  unfold wipeS
  split
  · rename_i h
    obtain ⟨h1, h2, h3⟩ := rangeE_yes h
    exact putS_size (by rw [zeros_size]; omega)
  · rfl
theorem copyS_size (s : ByteArray) (a : Int) (t : ByteArray) (o m : Int) : (copyS s a t o m).size = s.size := by
  unfold copyS
  split
  · exact storeS_size _ _ _
  · rfl
theorem storeV_is (s : ByteArray) (a : Int) (t : ByteArray) : storeV s a t = .tuple #[.string (storeS s a t), .int .i64 (rangeE s.size a t.size)] := by
  unfold storeV storeS
  rcases rangeE_or s.size a t.size with h | h
  · rw [h, if_pos rfl, if_pos rfl]
  · rw [h, if_neg (by omega), if_neg (by omega)]
theorem wipeV_is (s : ByteArray) (a m : Int) : wipeV s a m = .tuple #[.string (wipeS s a m), .int .i64 (rangeE s.size a m)] := by
  unfold wipeV wipeS
  rcases rangeE_or s.size a m with h | h
  · rw [h, if_pos rfl, if_pos rfl]
  · rw [h, if_neg (by omega), if_neg (by omega)]
theorem ext_size {t : ByteArray} {o m : Int} (h : rangeE t.size o m = 0) : ((t.extract o.toNat (o.toNat + m.toNat)).size : Int) = m := by
  obtain ⟨h1, h2, h3⟩ := rangeE_yes h
  rw [size_extract]
  omega
theorem rcopyV_is (s : ByteArray) (a : Int) (t : ByteArray) (o m : Int) : rcopyV s a t o m = .tuple #[.string (copyS s a t o m), .int .i64 (copyE s.size a t.size o m)] := by
  unfold rcopyV copyS copyE
  rcases rangeE_or t.size o m with h | h
  · rw [if_pos h, if_pos h, if_pos h, storeV_is, ext_size h]
  · rw [if_neg (by omega), if_neg (by omega), if_neg (by omega)]
theorem text_of (t : ByteArray) {a m : Nat} (h : a + m ≤ t.size) : ByteArray.mk (bytesL (byteAt t) a m).toArray = t.extract a (a + m) :=
  text_is (by rw [size_extract]; omega) fun j hj => by rw [byteAt_extract, if_pos (by omega)]
theorem zeros_at (n : Nat) : byteAt (zeros n) = zeroF := funext fun j => byteAt_zeros n j
section
variable {w : World} {g b n : Nat} {s : ByteArray}
theorem store_any (h : ChunkAt w g b n (byteAt s)) (hn : s.size = n) {a : Int} (ha : InInt a) {t : ByteArray} (ht : t.size ≤ 1048576) : Calls Try.prog 11 #[.pointer (some ⟨g, 0, none⟩), .int .i64 a, .string t] w (Done w g b n (byteAt (storeS s a t)) (rangeE n a t.size)) := by
  rcases rangeE_or n a t.size with hr | hr
  · obtain ⟨h1, h2, h3⟩ := rangeE_yes hr
    obtain ⟨a, rfl⟩ := Int.eq_ofNat_of_zero_le h1
    rw [hr]
    unfold storeS
    rw [hn, if_pos hr, Int.toNat_natCast, putS_at (by omega)]
    exact store_at h (by omega)
  · rw [hr]
    unfold storeS
    rw [hn, if_neg (by omega)]
    exact store_bad h ha ht hr
theorem wipe_any (h : ChunkAt w g b n (byteAt s)) (hn : s.size = n) {a m : Int} (ha : InInt a) (hm : InInt m) : Calls Try.prog 13 #[.pointer (some ⟨g, 0, none⟩), .int .i64 a, .int .i64 m] w (Done w g b n (byteAt (wipeS s a m)) (rangeE n a m)) := by
  rcases rangeE_or n a m with hr | hr
  · obtain ⟨h1, h2, h3⟩ := rangeE_yes hr
    obtain ⟨a, rfl⟩ := Int.eq_ofNat_of_zero_le h1
    obtain ⟨m, rfl⟩ := Int.eq_ofNat_of_zero_le h2
    rw [hr]
    unfold wipeS
    rw [hn, if_pos hr, Int.toNat_natCast, Int.toNat_natCast, putS_at (by rw [zeros_size]; omega)]
    exact wipe_at h (by omega)
  · rw [hr]
    unfold wipeS
    rw [hn, if_neg (by omega)]
    exact wipe_bad h ha hm hr
theorem load_any (h : ChunkAt w g b n (byteAt s)) (hn : s.size = n) {a m : Int} (ha : InInt a) (hm : InInt m) : Calls Try.prog 15 #[.pointer (some ⟨g, 0, none⟩), .int .i64 a, .int .i64 m] w fun e w' => e = .returned (loadV s a m) ∧ Below w.heap.size w w' := by
  rcases rangeE_or n a m with hr | hr
  · obtain ⟨h1, h2, h3⟩ := rangeE_yes hr
    obtain ⟨a, rfl⟩ := Int.eq_ofNat_of_zero_le h1
    obtain ⟨m, rfl⟩ := Int.eq_ofNat_of_zero_le h2
    unfold loadV
    rw [hn, if_pos hr, Int.toNat_natCast, Int.toNat_natCast]
    exact load_text h (by omega) (text_of s (by omega))
  · unfold loadV
    rw [hn, if_neg (by omega)]
    exact load_bad h ha hm hr
/-- All of them. -/
theorem load_all (h : ChunkAt w g b n (byteAt s)) (hn : s.size = n) : Calls Try.prog 15 #[.pointer (some ⟨g, 0, none⟩), .int .i64 0, .int .i64 n] w fun e w' => e = .returned (.tuple #[.string s, .int .i64 0]) ∧ Below w.heap.size w w' :=
  load_text h (a := 0) (m := n) (by omega) (text_is hn fun j _ => by rw [Nat.zero_add])
theorem copy_any {g2 b2 n2 : Nat} {t : ByteArray} (h : ChunkAt w g b n (byteAt s)) (hn : s.size = n) (h2 : ChunkAt w g2 b2 n2 (byteAt t)) (hn2 : t.size = n2) {a o m : Int} (ha : InInt a) (ho : InInt o) (hm : InInt m) :
    Calls Try.prog 24 #[.pointer (some ⟨g, 0, none⟩), .int .i64 a, .pointer (some ⟨g2, 0, none⟩), .int .i64 o, .int .i64 m] w (Done w g b n (byteAt (copyS s a t o m)) (copyE n a n2 o m)) := by
  have e : copyF (byteAt s) n a (byteAt t) n2 o m = byteAt (copyS s a t o m) := by
    unfold copyF copyS copyE
    rcases rangeE_or n2 o m with hr | hr
    · have hr' : rangeE t.size o m = 0 := by rw [hn2]; exact hr
      rw [if_pos hr, if_pos hr']
      have hx := ext_size hr'
      obtain ⟨h1, h2, h3⟩ := rangeE_yes hr'
      have ht := text_of t (a := o.toNat) (m := m.toNat) (by omega)
      unfold storeS
      rw [hx, hn]
      rcases rangeE_or n a m with hr2 | hr2
      · obtain ⟨k1, k2, k3⟩ := rangeE_yes hr2
        rw [if_pos hr2, if_pos hr2, ht, putS_at (by omega)]
      · rw [if_neg (by omega), if_neg (by omega)]
    · rw [hn2, if_neg (by omega), if_neg (by omega)]
  have := copy_at h h2 ha ho hm
  rw [e] at this
  exact this
end
end Go.Proofs.Ytcfnnchbnlcppaa
