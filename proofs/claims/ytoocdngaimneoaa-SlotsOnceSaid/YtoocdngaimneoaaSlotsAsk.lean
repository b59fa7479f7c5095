/- Layer 6 (slots): what Right, Gen, New return: contracts. -/
import Derived.Test.YtoocdngaimneoaaSlotsMem
namespace Go.Proofs.Ytoocdngaimneoaa
open Go.RowKit Go.Maps
section
variable {w w' : World} {S : Nat → Prop} {v : Value} {n : Nat} {s : St}

theorem right_at (h : SlotsAt w S v n s) {x y : Int} (hx : InInt x) {r : Bool} (hr : rightI s x y = r) : Calls Try.prog 9 #[v, .int .i64 x, .int .i64 y] w fun e w' => e = .returned (.bool r) ∧ Below w.heap.size w w' := by
  cases ho : openI s x with
  | false =>
    have hr' : false = r := by rw [← hr]; unfold rightI; rw [ho]; rfl
    subst hr'
    have HO := Lib.hid ho
    clear ho hr
    go_enter Try.func9, Try.ntmps9
    go_wp2_with fail
    refine (isOpen_at h hx HO.out).mono ?_
    rintro e w1 ⟨rfl, b1⟩
    go_wp2
    go_ret
    exact ⟨rfl, b1⟩
  | true =>
    have HO := Lib.hid ho
    have hp := ho
    unfold openI at hp
    rw [Bool.and_eq_true] at hp
    obtain ⟨p, rfl⟩ := Int.eq_ofNat_of_zero_le (of_decide_eq_true hp.1)
    rw [Int.toNat_natCast] at hp
    have hpf := h.ok.below p hp.2
    have hfn := h.ok.le
    have hsm := h.small
    have HB : Hid (decide ((s.gen p : Int) = y) = r) := by
      show _ = _
      rw [← hr]; unfold rightI; rw [ho]; simp
    clear ho hp hr
    go_enter Try.func9, Try.ntmps9
    go_wp2_with fail
    refine (isOpen_at h hx HO.out).mono ?_
    rintro e w1 ⟨rfl, b1⟩
    have h1 := h.below b1
    obtain ⟨⟨g, vg, vc, b, D, rfl, hm, hd⟩, _, _⟩ := h1
    have c1 := hm.c1
    obtain ⟨k, c, rfl, _, hc, _⟩ := hm.gcell (gensOf_at hpf)
    rw [gensOf_length] at c1
    generalize s.gen p = q at *
    generalize s.fresh = m at *
    have hir : 0 ≤ (p : Int) ∧ (p : Int) < (m : Int) := by omega
    clear hm hd h hx
    cases r with
    | true =>
      have hbb : ((q : Int) == y) = true := by have := of_decide_eq_true HB.out; simp [this]
      clear HB
      go_wp2
      go_ret
      exact ⟨rfl, b1⟩
    | false =>
      have hbb : ((q : Int) == y) = false := by have := of_decide_eq_false HB.out; simp [this]
      clear HB
      go_wp2
      go_ret
      exact ⟨rfl, b1⟩
theorem gen_at (h : SlotsAt w S v n s) {x r : Int} (hr : genI n s x = r) : Calls Try.prog 15 #[v, .int .i64 x] w fun e w' => e = .returned (.int .i64 r) ∧ w = w' := by
  by_cases h0 : x < 0
  · have hr' : -1 = r := by rw [← hr]; unfold genI; rw [if_neg (by omega)]
    subst hr'
    clear hr
    go_enter Try.func15, Try.ntmps15
    go_wp2
    go_ret
    exact ⟨rfl, rfl⟩
  · obtain ⟨p, rfl⟩ := Int.eq_ofNat_of_zero_le (show 0 ≤ x by omega)
    by_cases h1 : (n : Int) ≤ (p : Int)
    · have hr' : -1 = r := by rw [← hr]; unfold genI; rw [if_neg (by omega)]
      subst hr'
      clear hr
      go_enter Try.func15, Try.ntmps15
      go_wp2_with (go_at_call 22; refine (count_at h).mono ?_; rintro e w' ⟨rfl, rfl⟩)
      go_ret
      exact ⟨rfl, rfl⟩
    · have hr' : (s.gen p : Int) = r := by rw [← hr]; unfold genI; rw [if_pos (by omega), Int.toNat_natCast]
      subst hr'
      clear hr
      have h00 := h
      obtain ⟨⟨g, vg, vc, b, D, rfl, hm, hd⟩, hok, hsm⟩ := h
      have hfn := hok.le
      have hz := hok.zero p
      by_cases h2 : p < s.fresh
      · have c1 := hm.c1
        obtain ⟨k, c, rfl, _, hc, _⟩ := hm.gcell (gensOf_at h2)
        rw [gensOf_length] at c1
        have H := Lib.hid h00
        generalize s.gen p = q at *
        clear hz hd hm h00
        have hir : 0 ≤ (p : Int) ∧ (p : Int) < (s.fresh : Int) := by omega
        go_enter Try.func15, Try.ntmps15
        go_wp2_with (go_at_call 22; refine (count_at H.out).mono ?_; rintro e w' ⟨rfl, rfl⟩)
        go_ret
        exact ⟨rfl, rfl⟩
      · have c1 := hm.c1
        obtain ⟨A, c, rfl, _⟩ := own_len hm.gens
        rw [gensOf_length] at c1
        have H := Lib.hid h00
        rw [hz (by omega)]
        clear hz hd hm h00
        go_enter Try.func15, Try.ntmps15
        go_wp2_with (go_at_call 22; refine (count_at H.out).mono ?_; rintro e w' ⟨rfl, rfl⟩)
        go_ret
        exact ⟨rfl, rfl⟩
end

/-! ### New -/
def NewIn (w : World) (n : Nat) (e : Ending) (w' : World) : Prop := ∃ g S, e = .returned (.pointer (some ⟨g, 0, none⟩)) ∧ SlotsAt w' S (.pointer (some ⟨g, 0, none⟩)) n St.none ∧ Below w.heap.size w w' ∧ ∀ k, S k → w.heap.size ≤ k
theorem new_no (n : Int) (w : World) (h : n < 0 ∨ 1048576 < n) : Calls Try.prog 7 #[.int .i64 n] w fun e w' => e = .returned (.pointer none) ∧ w = w' := by
  rcases h with h | h
  · go_enter Try.func7, Try.ntmps7
    go_wp2
    go_ret
    exact ⟨rfl, rfl⟩
  · have h0 : ¬ n < 0 := by omega
    go_enter Try.func7, Try.ntmps7
    go_wp2
    go_ret
    exact ⟨rfl, rfl⟩
theorem placesOf_none (n : Nat) : placesOf n St.none.opn = [] := by unfold placesOf St.none; exact List.filter_eq_nil_iff.2 fun _ _ => by simp
theorem new_lies (w : World) {n : Nat} (hn : n ≤ 1048576) : SlotsAt ((w.alloc (.map #[] 0)).alloc (.cells #[.int .i64 n, .slice none 0 0, .slice none 0 0, .map (some w.heap.size)] 48)) (fun k => w.heap.size ≤ k ∧ k < w.heap.size + 2) (.pointer (some ⟨w.heap.size + 1, 0, none⟩)) n St.none := by
  refine ⟨⟨w.heap.size + 1, .slice none 0 0, .slice none 0 0, w.heap.size, .map [], rfl, ⟨?_, World.ownsRow_nil _ _ _ _, World.ownsRow_nil _ _ _ _, ?_, ?_, ?_, ?_, ?_, ?_, ?_⟩, ?_, ?_⟩, Ok.new n, hn⟩
  · have := World.rowIs_alloc (w.alloc (.map #[] 0)) #[.int .i64 n, .slice none 0 0, .slice none 0 0, .map (some w.heap.size)] 48 (slotsF n (.slice none 0 0) (.slice none 0 0) w.heap.size) (by
      intro i hi
      match i, hi with
      | 0, _ => rfl
      | 1, _ => rfl
      | 2, _ => rfl
      | 3, _ => rfl)
    simpa using this
  · exact (World.ownsMap_made w Try.prog 3 unitElem).alloc _
  · intro k hk; cases hk
  · exact ⟨by omega, by omega⟩
  · exact ⟨by omega, by omega⟩
  · intro k hk; cases hk
  · intro k hk; cases hk
  · intro k hk
    have := hk.2
    simp; omega
  · intro x
    show false = _
    unfold openI St.none
    simp
  · rw [placesOf_none]; rfl
theorem new_in {n : Nat} (w : World) (hn : n ≤ 1048576) : Calls Try.prog 7 #[.int .i64 n] w (NewIn w n) := by
  have hmm := @run_makeMap Try.prog
  have H := Lib.hid (new_lies w hn)
  have h0 : ¬ (n : Int) < 0 := by omega
  have h1 : ¬ 1048576 < (n : Int) := by omega
  go_enter Try.func7, Try.ntmps7
  go_wp2
  go_ret
  exact ⟨_, _, rfl, H.out, (((Below.refl _ _).alloc (Nat.le_refl _) _).alloc (by simp) _), fun k hk => hk.1⟩
end Go.Proofs.Ytoocdngaimneoaa
