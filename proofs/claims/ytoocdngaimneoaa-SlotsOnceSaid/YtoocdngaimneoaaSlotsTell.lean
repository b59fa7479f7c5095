/- Layer 6 (slots): what Places gives (the keys of the map, sorted: the library's own text by its contracts); what calls of slots that New did not give return: contracts. -/
import Derived.Test.YtoocdngaimneoaaSlotsDo
import Derived.Test.YtoocdngaimneoaaBaseZs
namespace Go.Proofs.Ytoocdngaimneoaa
open Go.RowKit Go.Maps Go.Sort Go.Shelf

theorem sorts (m : Nat) : AnyZI.SortsIn Try.prog Try.sortedA_ren Fence.wide m :=
  ⟨fun blk off cap ss W hH hblk hsz => callsIn_wide.2 (AnyM.slices_Sort_int Try.sortA blk off cap ss W hH hblk hsz),
   fun p cap W => callsIn_wide.2 (AnyM.slices_Sort_int_none Try.sortA p cap W)⟩
theorem keys_any (mb : Option Nat) (W : World) : CallsIn Fence.wide 5 Try.prog 25 #[.map mb] W fun e w' => e = .returned (.func (.func 28) #[] #[.pointer (some ⟨W.heap.size, 0, none⟩)]) ∧ w' = W.alloc (.cells #[.map mb] 46) :=
  AnyZI.keys_in Try.keysA Fence.wide 5 trivial rfl mb W
theorem sorted_any (b nn : Nat) (D0 : DataW Unit) (R : Value → Option (DataW Unit × List MemPlace)) (w : World) (hown : w.ownsMap Try.prog 3 R b nn D0) (hmax : Maps.size D0 ≤ maxLen) (hbytes : Maps.size D0 * 8 ≤ 140737488355328) :
    CallsIn Fence.wide 5 Try.prog 24 #[.func (.func 28) #[] #[.pointer (some ⟨w.heap.size, 0, none⟩)]] (w.alloc (.cells #[.map (some b)] 46)) fun e w' => ∃ (v : Value) (ss : List Int), e = .returned v ∧ ss.Perm (intKeys D0) ∧
      w'.ownsRow (w.alloc (.cells #[.map (some b)] 46)).heap.size 3 1 v ss.length ((ss.mergeSort (fun x y => decide (x ≤ y))).map encZ) ∧ (v = .slice none 0 0 ↔ ss = []) ∧ Below (w.alloc (.cells #[.map (some b)] 46)).heap.size (w.alloc (.cells #[.map (some b)] 46)) w' := by
  have hbl := hown.lt
  have hseq : SeqGives Fence.wide 2 Try.prog 28 #[.pointer (some ⟨w.heap.size, 0, none⟩)] encZ (fun ss => ss.Perm (intKeys D0)) (Maps.size D0) (w.alloc (.cells #[.map (some b)] 46)) :=
    AnyZI.keys_gives (ρ := Try.keysA_ren) { Try.keysA with } Fence.wide _ trivial rfl (by omega) w.heap.size b nn D0 _ (by simp) (by simp) (by
      obtain ⟨es, clock, hb, Ft, hs, hD⟩ := hown
      exact ⟨es, clock, (Below.heap_alloc _ _ b hbl).trans hb, Ft, hs, hD⟩)
  exact AnyZI.sorted_in Try.sortedA Fence.wide 5 trivial trivial trivial trivial rfl (by omega) (sorts _) (enters_of Try.func27 (by kernel_rfl) rfl) 28 #[.pointer (some ⟨w.heap.size, 0, none⟩)] trivial (enters_of Try.func28 (by kernel_rfl) rfl) _ _ hmax hbytes _ hseq
theorem sorted_nil (w : World) :
    CallsIn Fence.wide 5 Try.prog 24 #[.func (.func 28) #[] #[.pointer (some ⟨w.heap.size, 0, none⟩)]] (w.alloc (.cells #[.map none] 46)) fun e w' => e = .returned (.slice none 0 0) ∧ Below (w.alloc (.cells #[.map none] 46)).heap.size (w.alloc (.cells #[.map none] 46)) w' := by
  have hseq : SeqGives Fence.wide 2 Try.prog 28 #[.pointer (some ⟨w.heap.size, 0, none⟩)] encZ (fun ss : List Int => ss = []) 0 (w.alloc (.cells #[.map none] 46)) :=
    AnyZI.keys_gives_nil (ρ := Try.keysA_ren) { Try.keysA with } Fence.wide _ trivial rfl w.heap.size _ (by simp) (by simp)
  refine CallsIn.mono (AnyZI.sorted_in Try.sortedA Fence.wide 5 trivial trivial trivial trivial rfl (by omega) (sorts _) (enters_of Try.func27 (by kernel_rfl) rfl) 28 #[.pointer (some ⟨w.heap.size, 0, none⟩)] trivial (enters_of Try.func28 (by kernel_rfl) rfl) _ 0 (Nat.zero_le _) (by omega) _ hseq) ?_
  rintro e w' ⟨v, ss, rfl, rfl, hrow, hnil, hb⟩
  exact ⟨by rw [hnil.2 rfl], hb⟩

theorem ints_nodup {l : List Nat} (h : l.Nodup) : (ints l).Nodup := List.pairwise_map.2 (h.imp fun hne e => hne (by omega))
theorem places_sorted (n : Nat) (f : Nat → Bool) : (ints (placesOf n f)).Pairwise fun a b => decide (a ≤ b) = true := by
  refine List.pairwise_map.2 ((List.pairwise_lt_range.filter _).imp fun {a b} h => ?_)
  simp
  omega
theorem keys_places {w : World} {b j n : Nat} {D : DataW Unit} {s : St} {R : Value → Option (DataW Unit × List MemPlace)} (hown : w.ownsMap Try.prog 3 R b j D) (hd : SetIs D n s) (hok : Ok n s) {ss : List Int} (hp : ss.Perm (intKeys D)) :
    ss.mergeSort (fun x y => decide (x ≤ y)) = ints (placesOf n s.opn) := by
  have h1 : CollectedI D (fun _ => false) (ints (placesOf n s.opn)) := ⟨ints_nodup (placesOf_nodup n s.opn), fun x => by
    rw [hd.has]
    constructor
    · intro hx
      obtain ⟨p, hp, rfl⟩ := List.mem_map.1 hx
      exact ⟨by rw [openI_nat]; exact (mem_placesOf.1 hp).2, rfl⟩
    · rintro ⟨hx, _⟩
      have h2 := hx
      unfold openI at h2
      rw [Bool.and_eq_true] at h2
      obtain ⟨p, rfl⟩ := Int.eq_ofNat_of_zero_le (of_decide_eq_true h2.1)
      rw [openI_nat] at hx
      exact mem_ints.2 (mem_placesOf.2 ⟨Nat.lt_of_lt_of_le (hok.below p hx) hok.le, hx⟩)⟩
  have h2 := h1.perm hown intKey Try.underlying3 (fun _ => rfl)
  have h3 := mergeSort_of_perm_i (hp.trans h2.symm)
  rw [h3]
  exact List.mergeSort_of_pairwise (places_sorted n s.opn)
section
variable {w w' : World} {S : Nat → Prop} {v : Value} {n : Nat} {s : St}
def MadeZs (w : World) (l : List Int) (e : Ending) (w' : World) : Prop := ∃ v, e = .returned v ∧ ZsAt w' w.heap.size v l ∧ Below w.heap.size w w'
set_option maxHeartbeats 1000000 in
theorem places_at (h : SlotsAt w S v n s) : Calls Try.prog 19 #[v] w (MadeZs w (ints (placesOf n s.opn))) := by
  obtain ⟨⟨g, vg, vc, b, D, rfl, hm, hd⟩, hok, hsm⟩ := h
  have hsz : Maps.size D ≤ n := by rw [hd.size]; exact placesOf_le n s.opn
  have c3 := hm.c3
  have cS := sorted_any b _ D unitElem w hm.mapp (by unfold maxLen; omega) (by omega)
  have HP : Hid (∀ ss : List Int, ss.Perm (intKeys D) → ss.mergeSort (fun x y => decide (x ≤ y)) = ints (placesOf n s.opn)) := fun ss hp => keys_places hm.mapp hd hok hp
  generalize ints (placesOf n s.opn) = l at *
  clear hd hm hok hsz
  refine (callsIn_wide (n := 6)).1 ?_
  have hfK : Fence.wide.fn 25 := trivial
  have hfS : Fence.wide.fn 24 := trivial
  refine callsIn_of_wp Try.func19 rfl trivial ?_ rfl
  simp only [Try.ntmps19, List.size_toArray, List.length_cons, List.length_nil, Nat.reduceAdd, Nat.reduceSub, Array.replicate_succ, Array.replicate_zero, List.push_toArray, List.append_toArray, List.nil_append, List.cons_append]
  gi_wp2_with (first
    | (gi_at_call 25; refine (keys_any _ _).mono ?_; rintro e w' ⟨rfl, rfl⟩)
    | (gi_at_call 24; refine cS.mono ?_; rintro e w' ⟨v, ss, rfl, hS, hrow, _, hb⟩))
  go_ret
  have e := HP.out ss hS
  rw [e] at hrow
  have hl : ss.length = l.length := by rw [← e, List.length_mergeSort]
  refine ⟨v, rfl, (own_zlist hrow hl).more (by simp), ((Below.refl _ w).alloc (Nat.le_refl _) _).trans (hb.mono (by simp))⟩
end

/-! ### slots that New did not give -/
def zeroF : Nat → Value
  | 0 => .int .i64 0
  | 1 => .slice none 0 0
  | 2 => .slice none 0 0
  | _ => .map none
/-- Slots that New did not give: nil, or zero ones. -/
def Gone (w : World) (v : Value) : Prop := v = .pointer none ∨ ∃ g, v = .pointer (some ⟨g, 0, none⟩) ∧ w.rowIs g 48 4 zeroF
theorem Gone.below {w w' : World} {v : Value} (h : Gone w v) (hb : Below w.heap.size w w') : Gone w' v := by
  rcases h with h | ⟨g, e, hr⟩
  · exact .inl h
  · exact .inr ⟨g, e, hr.of_block (hb.block g hr.lt)⟩
section
variable {w : World} {v : Value}
theorem len_gone (h : Gone w v) : Calls Try.prog 16 #[v] w fun e w' => e = .returned (.int .i64 0) ∧ w = w' := by
  have hln := fun (W : World) ty => Maps.len_nil (P := Try.prog) (w := W) Try.underlying46 ty
  rcases h with rfl | ⟨g, rfl, hr⟩
  · go_enter Try.func16, Try.ntmps16
    go_wp2
    go_ret
    exact ⟨rfl, rfl⟩
  · have c3 := hr.cell (i := 3) (by omega)
    simp only [zeroF] at c3
    clear hr
    go_enter Try.func16, Try.ntmps16
    go_wp2
    go_ret
    exact ⟨rfl, rfl⟩
theorem count_gone (h : Gone w v) : Calls Try.prog 22 #[v] w fun e w' => e = .returned (.int .i64 0) ∧ w = w' := by
  rcases h with rfl | ⟨g, rfl, hr⟩
  · go_enter Try.func22, Try.ntmps22
    go_wp2
    go_ret
    exact ⟨rfl, rfl⟩
  · have c0 := hr.cell (i := 0) (by omega)
    simp only [zeroF] at c0
    clear hr
    go_enter Try.func22, Try.ntmps22
    go_wp2
    go_ret
    exact ⟨rfl, rfl⟩
theorem open_gone (h : Gone w v) : Calls Try.prog 14 #[v] w fun e w' => e = .returned (.tuple #[.int .i64 0, .int .i64 0, .bool false]) ∧ w = w' := by
  go_enter Try.func14, Try.ntmps14
  go_wp2_with fail
  refine (len_gone h).mono ?_
  rintro e w1 ⟨rfl, rfl⟩
  go_wp2_with fail
  refine (count_gone h).mono ?_
  rintro e w1 ⟨rfl, rfl⟩
  go_wp2
  go_ret3
  exact ⟨rfl, rfl⟩
theorem isOpen_gone (h : Gone w v) {x : Int} (hx : InInt x) : Calls Try.prog 20 #[v, .int .i64 x] w fun e w' => e = .returned (.bool false) ∧ Below w.heap.size w w' := by
  rcases h with rfl | ⟨g, rfl, hr⟩
  · clear hx
    go_enter Try.func20, Try.ntmps20
    go_wp2
    go_ret
    exact ⟨rfl, Below.refl _ _⟩
  · have hlk := fun (W : World) => Maps.look_nil (P := Try.prog) (w := W) true intKey Try.underlying46 (zeroUnit W) (key_int hx)
    simp only [if_true] at hlk
    have c3 := hr.cell (i := 3) (by omega)
    simp only [zeroF] at c3
    clear hr hx
    go_enter Try.func20, Try.ntmps20
    go_wp2
    go_ret
    exact ⟨rfl, (Below.refl _ _).alloc (Nat.le_refl _) _⟩
theorem right_gone (h : Gone w v) {x y : Int} (hx : InInt x) : Calls Try.prog 9 #[v, .int .i64 x, .int .i64 y] w fun e w' => e = .returned (.bool false) ∧ Below w.heap.size w w' := by
  go_enter Try.func9, Try.ntmps9
  go_wp2_with fail
  refine (isOpen_gone h hx).mono ?_
  rintro e w1 ⟨rfl, b1⟩
  go_wp2
  go_ret
  exact ⟨rfl, b1⟩
theorem close_gone (h : Gone w v) {x y : Int} (hx : InInt x) : Calls Try.prog 12 #[v, .int .i64 x, .int .i64 y] w fun e w' => e = .returned (.bool false) ∧ Below w.heap.size w w' := by
  have hnot := not_any
  go_enter Try.func12, Try.ntmps12
  go_wp2_with fail
  refine (right_gone h hx).mono ?_
  rintro e w1 ⟨rfl, b1⟩
  go_wp2
  go_ret
  exact ⟨rfl, b1⟩
theorem gen_gone (h : Gone w v) : Calls Try.prog 15 #[v, .int .i64 0] w fun e w' => e = .returned (.int .i64 (-1)) ∧ w = w' := by
  go_enter Try.func15, Try.ntmps15
  go_wp2_with fail
  refine (count_gone h).mono ?_
  rintro e w1 ⟨rfl, rfl⟩
  go_wp2
  go_ret
  exact ⟨rfl, rfl⟩
set_option maxHeartbeats 1000000 in
theorem places_gone (h : Gone w v) : Calls Try.prog 19 #[v] w fun e w' => e = .returned (.slice none 0 0) ∧ Below w.heap.size w w' := by
  rcases h with rfl | ⟨g, rfl, hr⟩
  · go_enter Try.func19, Try.ntmps19
    go_wp2
    go_ret
    exact ⟨rfl, Below.refl _ _⟩
  · have c3 := hr.cell (i := 3) (by omega)
    simp only [zeroF] at c3
    have cS := sorted_nil w
    clear hr
    refine (callsIn_wide (n := 6)).1 ?_
    have hfK : Fence.wide.fn 25 := trivial
    have hfS : Fence.wide.fn 24 := trivial
    refine callsIn_of_wp Try.func19 rfl trivial ?_ rfl
    simp only [Try.ntmps19, List.size_toArray, List.length_cons, List.length_nil, Nat.reduceAdd, Nat.reduceSub, Array.replicate_succ, Array.replicate_zero, List.push_toArray, List.append_toArray, List.nil_append, List.cons_append]
    gi_wp2_with (first
      | (gi_at_call 25; refine (keys_any _ _).mono ?_; rintro e w' ⟨rfl, rfl⟩)
      | (gi_at_call 24; refine cS.mono ?_; rintro e w' ⟨rfl, hb⟩))
    go_ret
    exact ⟨rfl, ((Below.refl _ w).alloc (Nat.le_refl _) _).trans (hb.mono (by simp))⟩
end
end Go.Proofs.Ytoocdngaimneoaa
