/- Layer 10 (bytes): Load, Store and Wipe of bytes that New did not give; Copy, whatever it is told: contracts. -/
import Derived.Test.YtcfnnchbnlcppaaBytesLoad
namespace Go.Proofs.Ytcfnnchbnlcppaa
open Go.RowKit Go.Maps

theorem Gone.ptr {w : World} {v : Value} (h : Gone w v) : ∃ p, v = .pointer p := by
  rcases h with h | ⟨g, e, _⟩
  · exact ⟨_, h⟩
  · exact ⟨_, e⟩
section
variable {w : World} {v : Value}
theorem load_gone (h : Gone w v) {a m : Int} : Calls Try.prog 15 #[v, .int .i64 a, .int .i64 m] w fun e w' => e = .returned (.tuple #[.string ⟨#[]⟩, .int .i64 16]) ∧ Below w.heap.size w w' := by
  obtain ⟨p, rfl⟩ := h.ptr
  have B1 : Below w.heap.size w (w.alloc (.cells #[.pointer p] 24)) := (Below.refl _ w).alloc (Nat.le_refl _) _
  have k1 : (w.alloc (.cells #[.pointer p] 24)).cell? ⟨w.heap.size, 0, none⟩ = some (.pointer p) := (box_cell (heap_alloc_new w _)).1
  have HW := Lib.hid (wrong_gone (h.below B1) (a := a) (m := m))
  have HB := Lib.hid B1
  clear h B1
  go_enter Try.func15, Try.ntmps15
  go_wp2_with fail
  refine HW.out.mono ?_
  rintro e w' ⟨rfl, rfl⟩
  go_wp2
  go_ret2
  exact ⟨rfl, HB.out⟩
theorem wipe_gone (h : Gone w v) {a m : Int} : Calls Try.prog 13 #[v, .int .i64 a, .int .i64 m] w fun e w' => e = .returned (.int .i64 16) ∧ Below w.heap.size w w' := by
  obtain ⟨p, rfl⟩ := h.ptr
  have B1 : Below w.heap.size w (w.alloc (.cells #[.pointer p] 24)) := (Below.refl _ w).alloc (Nat.le_refl _) _
  have k1 : (w.alloc (.cells #[.pointer p] 24)).cell? ⟨w.heap.size, 0, none⟩ = some (.pointer p) := (box_cell (heap_alloc_new w _)).1
  have HW := Lib.hid (wrong_gone (h.below B1) (a := a) (m := m))
  have HB := Lib.hid B1
  clear h B1
  go_enter Try.func13, Try.ntmps13
  go_wp2_with fail
  refine HW.out.mono ?_
  rintro e w' ⟨rfl, rfl⟩
  go_wp2
  go_ret
  exact ⟨rfl, HB.out⟩
theorem store_gone (h : Gone w v) {a : Int} {T : ByteArray} : Calls Try.prog 11 #[v, .int .i64 a, .string T] w fun e w' => e = .returned (.int .i64 16) ∧ Below w.heap.size w w' := by
  obtain ⟨p, rfl⟩ := h.ptr
  have B1 : Below w.heap.size w ((w.alloc (.cells #[.pointer p] 24)).alloc (boxS T)) := ((Below.refl _ w).alloc (Nat.le_refl _) _).alloc (by simp) _
  have k1 : ((w.alloc (.cells #[.pointer p] 24)).alloc (boxS T)).cell? ⟨w.heap.size, 0, none⟩ = some (.pointer p) := (box_cell (heap_alloc2_old w _ _)).1
  have k2 : ((w.alloc (.cells #[.pointer p] 24)).alloc (boxS T)).cell? ⟨w.heap.size + 1, 0, none⟩ = some (.string T) := (box_cell (heap_alloc2_new w _ _)).1
  have HW := Lib.hid (wrong_gone (h.below B1) (a := a) (m := T.size))
  have HB := Lib.hid B1
  unfold boxS at *
  clear h B1
  go_enter Try.func11, Try.ntmps11
  go_wp2_with fail
  refine HW.out.mono ?_
  rintro e w' ⟨rfl, rfl⟩
  go_wp2
  go_ret
  exact ⟨rfl, HB.out⟩
end
section
variable {w : World} {g b n : Nat} {c : Nat → UInt8} {g2 b2 n2 : Nat} {c2 : Nat → UInt8}
theorem copy_gone {v u : Value} (h : Gone w v) {a o m : Int} : Calls Try.prog 24 #[v, .int .i64 a, u, .int .i64 o, .int .i64 m] w fun e w' => e = .returned (.int .i64 16) ∧ w = w' := by
  go_enter Try.func24, Try.ntmps24
  go_wp2_with fail
  refine (size_gone h).mono ?_
  rintro e w' ⟨rfl, rfl⟩
  go_wp2
  go_ret
  exact ⟨rfl, rfl⟩
theorem copy_from_gone {u : Value} (h : ChunkAt w g b n c) (hu : Gone w u) {a o m : Int} : Calls Try.prog 24 #[.pointer (some ⟨g, 0, none⟩), .int .i64 a, u, .int .i64 o, .int .i64 m] w fun e w' => e = .returned (.int .i64 16) ∧ Below w.heap.size w w' := by
  have hp := h.pos
  have hne : ((n : Int) == 0) = false := by simp; omega
  go_enter Try.func24, Try.ntmps24
  go_wp2_with fail
  refine (size_at h).mono ?_
  rintro e w' ⟨rfl, rfl⟩
  clear h
  go_wp2_with fail
  refine (load_gone hu).mono ?_
  rintro e w' ⟨rfl, hb⟩
  go_wp2
  go_ret
  exact ⟨rfl, hb⟩
/-- What Copy tells. -/
def copyE (n : Nat) (a : Int) (n2 : Nat) (o m : Int) : Int := if rangeE n2 o m = 0 then rangeE n a m else 15
/-- What the bytes are then. -/
def copyF (c : Nat → UInt8) (n : Nat) (a : Int) (c2 : Nat → UInt8) (n2 : Nat) (o m : Int) : Nat → UInt8 := if copyE n a n2 o m = 0 then putF c a.toNat ⟨(bytesL c2 o.toNat m.toNat).toArray⟩ else c
theorem copy_at (h : ChunkAt w g b n c) (h2 : ChunkAt w g2 b2 n2 c2) {a o m : Int} (ha : InInt a) (ho : InInt o) (hm : InInt m) :
    Calls Try.prog 24 #[.pointer (some ⟨g, 0, none⟩), .int .i64 a, .pointer (some ⟨g2, 0, none⟩), .int .i64 o, .int .i64 m] w (Done w g b n (copyF c n a c2 n2 o m) (copyE n a n2 o m)) := by
  have hp := h.pos
  have hs2 := h2.small
  have hne : ((n : Int) == 0) = false := by simp; omega
  rcases rangeE_or n2 o m with hr | hr
  · obtain ⟨q1, q2, q3⟩ := rangeE_yes hr
    obtain ⟨o', rfl⟩ := Int.eq_ofNat_of_zero_le q1
    obtain ⟨m', rfl⟩ := Int.eq_ofNat_of_zero_le q2
    have hsz : (ByteArray.mk (bytesL c2 o' m').toArray).size = m' := by rw [size_mk, bytesL_length]
    have HL := Lib.hid (load_at h2 (a := o') (m := m') (by omega))
    have HR : Hid (∀ W, Below w.heap.size w W → Calls Try.prog 11 #[.pointer (some ⟨g, 0, none⟩), .int .i64 a, .string ⟨(bytesL c2 o' m').toArray⟩] W (Done w g b n (copyF c n a c2 n2 o' m') (copyE n a n2 o' m'))) := fun W hb => by
      have hW := h.more hb
      have hB := But.of_below (fun k => k = b) hb
      unfold copyF copyE
      simp only [hr, if_true, Int.toNat_natCast]
      rcases rangeE_or n a m' with hr2 | hr2
      · obtain ⟨r1, _, r3⟩ := rangeE_yes hr2
        obtain ⟨a', rfl⟩ := Int.eq_ofNat_of_zero_le r1
        simp only [hr2, if_true, Int.toNat_natCast]
        refine (store_at hW (a := a') (by rw [hsz]; omega)).mono ?_
        rintro e w' ⟨rfl, k1, k2⟩
        exact ⟨rfl, k1, hB.trans k2⟩
      · simp only [hr2]
        refine (store_bad hW ha (by rw [hsz]; omega) (by rw [hsz]; exact hr2)).mono ?_
        rintro e w' ⟨rfl, k1, k2⟩
        exact ⟨rfl, k1, hB.trans k2⟩
    generalize bytesL c2 o' m' = l at *
    generalize copyF c n a c2 n2 o' m' = F at *
    generalize copyE n a n2 o' m' = r at *
    have HZ := Lib.hid (size_at h)
    clear h h2 hr q1 q2 q3 hsz ha ho hm hs2
    go_enter Try.func24, Try.ntmps24
    go_wp2_with fail
    refine HZ.out.mono ?_
    rintro e w' ⟨rfl, rfl⟩
    go_wp2_with fail
    refine HL.out.mono ?_
    rintro e w1 ⟨rfl, hb⟩
    have HR1 := Lib.hid (HR.out w1 hb)
    clear hb
    go_wp2_with fail
    refine HR1.out.mono ?_
    rintro e w2 ⟨rfl, k1, k2⟩
    go_wp2
    go_ret
    exact ⟨rfl, k1, k2⟩
  · have HL := Lib.hid (load_bad h2 ho hm hr)
    have HE : Hid (∀ W, Below w.heap.size w W → Done w g b n (copyF c n a c2 n2 o m) (copyE n a n2 o m) (.returned (.int .i64 15)) W) := fun W hb => by
      unfold copyF copyE
      simp only [hr]
      exact ⟨rfl, h.more hb, But.of_below _ hb⟩
    have HZ := Lib.hid (size_at h)
    generalize copyF c n a c2 n2 o m = F at *
    generalize copyE n a n2 o m = r at *
    clear h h2 hr ha ho hm hs2
    go_enter Try.func24, Try.ntmps24
    go_wp2_with fail
    refine HZ.out.mono ?_
    rintro e w' ⟨rfl, rfl⟩
    go_wp2_with fail
    refine HL.out.mono ?_
    rintro e w1 ⟨rfl, hb⟩
    have HE1 := Lib.hid (HE.out w1 hb)
    clear hb
    go_wp2
    go_ret
    exact HE1.out
end
end Go.Proofs.Ytcfnnchbnlcppaa
