/- The walk of SlotsFirst. -/
import Derived.Test.YtoocdngaimneoaaSlotsWorks
import Derived.Test.YtoocdngaimneoaaBaseRows
namespace Go.Proofs.Ytoocdngaimneoaa
open Go.RowKit Go.Maps

/-- Behind k fresh ones. -/
structure Fresh (k : Nat) (s : St) : Prop where
  fresh : s.fresh = k
  closed : s.closed = []
  gen : ∀ p, s.gen p = 0
  opn : ∀ p, p < k → s.opn p = true
theorem Fresh.more {k n : Nat} {s : St} (h : Fresh k s) : s.more n = decide (k < n) := by unfold St.more; rw [h.closed, h.fresh]; simp
theorem Fresh.place {k n : Nat} {s : St} (h : Fresh k s) (hk : k < n) : s.placeO n = k := by
  unfold St.placeO
  rw [h.more, decide_eq_true hk, if_pos rfl, h.closed, h.fresh]; simp
theorem Fresh.genO {k n : Nat} {s : St} (h : Fresh k s) (hk : k < n) : s.genO n = 0 := by
  unfold St.genO
  rw [h.more, decide_eq_true hk, if_pos rfl]; exact h.gen _
theorem Fresh.next {k n : Nat} {s : St} (h : Fresh k s) (hk : k < n) : Fresh (k + 1) (s.openO n) := by
  have e : s.openO n = s.next := by
    unfold St.openO
    rw [h.more, decide_eq_true hk, if_pos rfl, h.closed]; rfl
  rw [e]
  refine ⟨by show s.fresh + 1 = _; rw [h.fresh], h.closed, h.gen, fun p hp => ?_⟩
  show upd s.opn s.fresh true p = true
  rw [h.fresh]
  by_cases e : p = k
  · rw [e, upd_same]
  · rw [upd_other e]; exact h.opn p (by omega)
theorem Fresh.right {k : Nat} {s : St} (h : Fresh (k + 1) s) : rightI s (k : Int) 0 = true := by
  unfold rightI
  rw [openI_nat, h.opn k (by omega), Int.toNat_natCast, h.gen]; rfl
theorem Fresh.len {n : Nat} {s : St} (h : Fresh n s) (hok : Ok n s) : (placesOf n s.opn).length = n := by
  have := hok.count
  rw [h.closed, h.fresh] at this
  simpa using this
set_option maxRecDepth 100000 in
set_option maxHeartbeats 1600000 in
theorem first_any {w : World} {n : Nat} (hn : n < 256) : Calls Try.prog 5 #[.int .u8 n] w (TrueBelow w) := by
  have hnot := not_any
  have hwr : IntKind.i64.wrap (n : Int) = (n : Int) := IntWalk.i64_in _ (by omega)
  go_enter Try.func5, Try.ntmps5
  go_wp2_with fail
  refine (new_in (n := n) w (by omega)).mono ?_
  rintro e w1 ⟨g, S1, rfl, s1, b1, l1⟩
  go_wp2
  go_loopw [4] (fun i wr => ∃ (k : Nat) (s : St) (S : Nat → Prop), k ≤ n ∧ i = .int .i64 k ∧ SlotsAt wr S (.pointer (some ⟨g, 0, none⟩)) n s ∧ Hid (Fresh k s) ∧ Below w.heap.size w wr ∧ Hid (∀ k, S k → w.heap.size ≤ k)) (fun i _ => n - (intOf i).toNat)
  case atStart => exact ⟨0, St.none, S1, Nat.zero_le _, rfl, s1, ⟨rfl, rfl, fun _ => rfl, fun p hp => (by omega)⟩, b1, l1⟩
  case round =>
    clear s1 b1 l1
    obtain ⟨k, s, S, hk, rfl, s2, hf, b2, l2⟩ := hrel
    by_cases hlt : k < n
    · have hbb : ((k : Int) != (k : Int)) = false := by simp
      go_wp2_with fail
      refine (open_is (s1 := s.openO n) (p := k) (q := 0) (r := true) s2 rfl (hf.out.place hlt) (hf.out.genO hlt) (by rw [hf.out.more, decide_eq_true hlt])).mono ?_
      rintro e w3 ⟨S3, rfl, s3, m3⟩
      have b3 := m3.below b2 b2.size l2.out
      have L3 := Lib.hid (m3.from_ l2.out b2.size)
      have HF := Lib.hid (hf.out.next hlt)
      clear s2 m3 l2 hf b2
      generalize s.openO n = sn at *
      go_wp2_with fail
      refine (right_at s3 ⟨by omega, by omega⟩ HF.out.right).mono ?_
      rintro e w4 ⟨rfl, b4⟩
      have s4 := s3.below b4
      have b5 := b3.trans (b4.mono b3.size)
      clear s3 b3 b4
      go_wp2
      go_roundw
      case rel => exact ⟨k + 1, sn, S3, by omega, by go_num, s4, HF, b5, L3⟩
      case measure => simp [intOf]; omega
    · obtain rfl : k = n := by omega
      have hbb : ((k : Int) == (k : Int)) = true := by simp
      have hm : s.more k = false := by rw [hf.out.more]; simp
      have HL : Hid ((placesOf k s.opn).length = k) := hf.out.len s2.ok
      have HM := Lib.hid hm
      clear hm hlt
      go_wp2_with fail
      refine (open_full s2 HM.out).mono ?_
      rintro e w3 ⟨rfl, rfl⟩
      go_wp2_with fail
      refine (len_at s2 HL.out).mono ?_
      rintro e w3 ⟨rfl, rfl⟩
      go_wp2_with fail
      refine works_any.mono ?_
      rintro e w4 ⟨rfl, b4⟩
      have b5 := b2.trans (b4.mono b2.size)
      go_wp2
      go_ret
      exact ⟨rfl, b5⟩
end Go.Proofs.Ytoocdngaimneoaa
