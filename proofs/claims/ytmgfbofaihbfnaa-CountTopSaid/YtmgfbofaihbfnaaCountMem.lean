/- Layer 14 (count): a book in memory; what New, row, has, raise, Add and Get return: contracts. -/
import Derived.Test.YtmgfbofaihbfnaaCountOnce
import Derived.Test.YtmgfbofaihbfnaaBaseFrom
namespace Go.Proofs.Ytmgfbofaihbfnaa
open Go.RowKit

/-! ### a book -/
def Two (q g : Nat) : Nat → Prop := fun k => k = q ∨ k = g
/-- A book of the counts L, which lie in g. -/
structure Laid (w : World) (q g : Nat) (L : List Nat) : Prop where
  head : BookRow w q L.length 1 0 (gS g L.length)
  row : Row w g L
  one : 1 ≤ L.length
  most : L.length ≤ 64
  low : Low L
/-- A book of the counts L at q, in blocks of S: its counts are laid or not yet. -/
def BookAt (w : World) (S : Nat → Prop) (q : Nat) (L : List Nat) : Prop :=
  (BookRow w q L.length 0 0 (.slice none 0 0) ∧ L = List.replicate L.length 0 ∧ 1 ≤ L.length ∧ L.length ≤ 64 ∧ S = fun k => k = q) ∨ ∃ g, Laid w q g L ∧ S = Two q g
theorem Laid.same {w w' : World} {q g : Nat} {L : List Nat} (h : Laid w q g L) (hq : w'.heap[q]? = w.heap[q]?) (hg : w'.heap[g]? = w.heap[g]?) : Laid w' q g L := ⟨h.head.same hq, h.row.same hg, h.one, h.most, h.low⟩
theorem Laid.below {w w' : World} {q g : Nat} {L : List Nat} (h : Laid w q g L) (hb : Below w.heap.size w w') : Laid w' q g L := h.same (hb.block q h.head.lt) (hb.block g h.row.lt)
theorem Laid.at_ {w : World} {q g : Nat} {L : List Nat} (h : Laid w q g L) : BookAt w (Two q g) q L := .inr ⟨g, h, rfl⟩
theorem Laid.cell {w : World} {q g : Nat} {L : List Nat} (h : Laid w q g L) {k : Nat} (hk : k < L.length) : w.cell? ⟨g, k, none⟩ = some (.int .i64 (L.getD k 0 : Nat)) ∧ w.frozen? ⟨g, k, none⟩ = false := ⟨World.rowIs.cell h.row hk, World.rowIs.frozen h.row k⟩
theorem Laid.set {w : World} {q g : Nat} {L : List Nat} (h : Laid w q g L) {k x : Nat} (hk : k < L.length) (hx : x ≤ 4611686018427387904) : Laid (w.setCell ⟨g, k, none⟩ (.int .i64 x)) q g (L.set k x) := by
  have hne := row_book h.head h.row
  refine ⟨?_, ?_, ?_, ?_, fun j => ?_⟩
  · rw [List.length_set]; exact h.head.same (Below.heap_setCell _ _ _ _ hne)
  · unfold Row
    rw [List.length_set]
    refine (World.rowIs.set h.row k _).congr fun i _ => ?_
    rw [getD_set _ _ _ _ hk]
    by_cases e : i = k
    · rw [if_pos e, if_pos e]
    · rw [if_neg e, if_neg e]
  · rw [List.length_set]; exact h.one
  · rw [List.length_set]; exact h.most
  · rw [getD_set _ _ _ _ hk]
    split
    · exact hx
    · exact h.low j
theorem BookAt.keep {w w' : World} {S : Nat → Prop} {q : Nat} {L : List Nat} (h : BookAt w S q L) (hs : Same S w w') : BookAt w' S q L := by
  rcases h with ⟨h1, h2, h3, h4, rfl⟩ | ⟨g, h1, rfl⟩
  · exact .inl ⟨h1.same (hs.block q rfl h1.lt), h2, h3, h4, rfl⟩
  · exact .inr ⟨g, h1.same (hs.block q (.inl rfl) h1.head.lt) (hs.block g (.inr rfl) h1.row.lt), rfl⟩
theorem BookAt.below {w w' : World} {S : Nat → Prop} {q : Nat} {L : List Nat} (h : BookAt w S q L) (hb : Below w.heap.size w w') : BookAt w' S q L := h.keep (.of_below _ hb)
theorem BookAt.heap {w : World} {S : Nat → Prop} {q : Nat} {L : List Nat} (h : BookAt w S q L) : InHeap S w := by
  rcases h with ⟨h1, h2, h3, h4, rfl⟩ | ⟨g, h1, rfl⟩
  · rintro k rfl; exact h1.lt
  · rintro k (rfl | rfl)
    · exact h1.head.lt
    · exact h1.row.lt
theorem BookAt.len {w : World} {S : Nat → Prop} {q : Nat} {L : List Nat} (h : BookAt w S q L) : 1 ≤ L.length ∧ L.length ≤ 64 ∧ Low L := by
  rcases h with ⟨h1, h2, h3, h4, rfl⟩ | ⟨g, h1, rfl⟩
  · exact ⟨h3, h4, by rw [h2]; exact Low.zero _⟩
  · exact ⟨h1.one, h1.most, h1.low⟩
/-- A book that New did not give: nil, or a zero one. -/
def NoBook (w : World) (v : Value) : Prop := v = .pointer none ∨ ∃ q, v = .pointer (some ⟨q, 0, none⟩) ∧ BookRow w q 0 0 0 (.slice none 0 0)
theorem NoBook.below {w w' : World} {v : Value} (h : NoBook w v) (hb : Below w.heap.size w w') : NoBook w' v := by
  rcases h with h | ⟨q, h1, h2⟩
  · exact .inl h
  · exact .inr ⟨q, h1, h2.same (hb.block q h2.lt)⟩
theorem book_lit (w : World) (n : Nat) : BookRow (w.alloc (.cells #[.int .i64 n, .int .u32 0, .int .i32 0, .int .u32 0, .slice none 0 0] 57)) w.heap.size n 0 0 (.slice none 0 0) :=
  World.rowIs_alloc w #[.int .i64 n, .int .u32 0, .int .i32 0, .int .u32 0, .slice none 0 0] 57 (bookF n 0 0 (.slice none 0 0)) (by
    intro i hi
    match i, hi with
    | 0, _ => rfl
    | 1, _ => rfl
    | 2, _ => rfl
    | 3, _ => rfl
    | 4, _ => rfl)

/-! ### New -/
theorem new_no (w : World) {n : Int} (h : n < 1 ∨ 64 < n) : Calls Try.prog 7 #[.int .i64 n] w fun e w' => e = .returned (.pointer none) ∧ w = w' := by
  rcases h with h | h
  · go_enter Try.func7, Try.ntmps7
    go_wp2
    go_ret
    exact ⟨rfl, rfl⟩
  · have h0 : ¬ n < 1 := by omega
    go_enter Try.func7, Try.ntmps7
    go_wp2
    go_ret
    exact ⟨rfl, rfl⟩
theorem new_is (w : World) {n : Nat} (h1 : 1 ≤ n) (h2 : n ≤ 64) : Calls Try.prog 7 #[.int .i64 n] w fun e w' => ∃ q, e = .returned (.pointer (some ⟨q, 0, none⟩)) ∧ w.heap.size ≤ q ∧ BookAt w' (fun k => k = q) q (List.replicate n 0) ∧ Below w.heap.size w w' := by
  have d1 : ¬ (n : Int) < 1 := by omega
  have d2 : ¬ 64 < (n : Int) := by omega
  have HB : Hid (BookAt (w.alloc (.cells #[.int .i64 n, .int .u32 0, .int .i32 0, .int .u32 0, .slice none 0 0] 57)) (fun k => k = w.heap.size) w.heap.size (List.replicate n 0)) := by
    refine .inl ⟨?_, ?_, ?_, ?_, rfl⟩
    · rw [List.length_replicate]; exact book_lit w n
    · rw [List.length_replicate]
    · rw [List.length_replicate]; exact h1
    · rw [List.length_replicate]; exact h2
  have HN := Lib.hid (new_below w (.cells #[.int .i64 n, .int .u32 0, .int .i32 0, .int .u32 0, .slice none 0 0] 57))
  clear h1 h2
  go_enter Try.func7, Try.ntmps7
  go_wp2
  go_ret
  exact ⟨w.heap.size, rfl, Nat.le_refl _, HB.out, HN.out⟩

/-! ### row, has -/
theorem row_is {w : World} {S : Nat → Prop} {q : Nat} {L : List Nat} (h : BookAt w S q L) : Calls Try.prog 17 #[.pointer (some ⟨q, 0, none⟩)] w fun e w' => ∃ g, e = .returned (gS g L.length) ∧ Laid w' q g L ∧ Moved S w (Two q g) w' := by
  have B1 := new_below w (.cells #[.pointer (some ⟨q, 0, none⟩)] 24)
  have hx : (w.alloc (.cells #[.pointer (some ⟨q, 0, none⟩)] 24)).cell? ⟨w.heap.size, 0, none⟩ = some (.pointer (some ⟨q, 0, none⟩)) := new_one w _ _ 0 _ rfl
  have hnot := not_any
  rcases h with ⟨hb, hL, h1, h2, rfl⟩ | ⟨g, hl, rfl⟩
  · have hql := hb.lt
    have hxq : w.heap.size ≠ q := by omega
    obtain ⟨n, hn⟩ : ∃ n, L.length = n := ⟨_, rfl⟩
    rw [hn] at hb hL h1 h2 ⊢
    subst hL
    have hb1 := hb.same (B1.block q hql)
    have hc0 : (w.alloc (.cells #[.pointer (some ⟨q, 0, none⟩)] 24)).cell? ⟨q, 0, none⟩ = some (.int .i64 n) := World.rowIs.cell hb1 (i := 0) (by omega)
    have hz : ((n : Int) == 0) = false := by simp; omega
    have HD := Lib.hid (do_first hb1 h2 hx hxq)
    have HB := Lib.hid B1
    have H1 := Lib.hid h1
    have H2 := Lib.hid h2
    have HQ := Lib.hid hql
    have HXQ : Hid (w.heap.size ≠ q) := hxq
    clear hb hb1 hn h1 h2 hql B1 hxq
    go_enter Try.func17, Try.ntmps17
    go_wp2_with fail
    refine HD.out.mono ?_
    rintro e w2 ⟨rfl, g, hg, hb2, hr2, hgr⟩
    have hx2 : w2.cell? ⟨w.heap.size, 0, none⟩ = some (.pointer (some ⟨q, 0, none⟩)) := hgr.cell hx (fun e => HXQ.out (by injection e))
    have hc4 : w2.cell? ⟨q, 4, none⟩ = some (gS g n) := World.rowIs.cell hb2 (i := 4) (by omega)
    unfold gS at hc4
    have HR : Hid (Laid w2 q g (List.replicate n 0) ∧ Moved (fun k => k = q) w (Two q g) w2) := by
      have hs := HB.out.size
      refine ⟨⟨?_, hr2, ?_, ?_, Low.zero n⟩, ⟨(Turn.of_below _ HB.out).trans (Turn.of_grown hgr fun k e => by injection e with e; exact e.symm), fun k hk => ?_⟩⟩
      · rw [List.length_replicate]; exact hb2
      · rw [List.length_replicate]; exact H1.out
      · rw [List.length_replicate]; exact H2.out
      · rcases hk with hk | hk
        · exact .inl hk
        · exact .inr (by omega)
    clear hb2 hr2 hgr HD hx hc0
    go_wp2
    go_ret
    exact ⟨g, rfl, HR.out.1, HR.out.2⟩
  · have hql := hl.head.lt
    have hl1 := hl.below B1
    obtain ⟨n, hn⟩ : ∃ n, L.length = n := ⟨_, rfl⟩
    have hb1 := hl1.head
    have h1 := hl1.one
    rw [hn] at hb1 h1 ⊢
    have hc0 : (w.alloc (.cells #[.pointer (some ⟨q, 0, none⟩)] 24)).cell? ⟨q, 0, none⟩ = some (.int .i64 n) := World.rowIs.cell hb1 (i := 0) (by omega)
    have hc4 : (w.alloc (.cells #[.pointer (some ⟨q, 0, none⟩)] 24)).cell? ⟨q, 4, none⟩ = some (gS g n) := World.rowIs.cell hb1 (i := 4) (by omega)
    unfold gS at hc4
    have hz : ((n : Int) == 0) = false := by simp; omega
    have HD := Lib.hid (do_done hb1 (.func (.func 25) #[] #[.pointer (some ⟨w.heap.size, 0, none⟩)]))
    have HR : Hid (Laid (w.alloc (.cells #[.pointer (some ⟨q, 0, none⟩)] 24)) q g L ∧ Moved (Two q g) w (Two q g) (w.alloc (.cells #[.pointer (some ⟨q, 0, none⟩)] 24))) := ⟨hl1, .of_below _ B1⟩
    clear hl hl1 hb1 hn h1 hql B1
    go_enter Try.func17, Try.ntmps17
    go_wp2_with fail
    refine HD.out.mono ?_
    rintro e w2 ⟨rfl, rfl⟩
    go_wp2
    go_ret
    exact ⟨g, rfl, HR.out.1, HR.out.2⟩
theorem row_no {w : World} {v : Value} (h : NoBook w v) : Calls Try.prog 17 #[v] w fun e w' => e = .returned (.slice none 0 0) ∧ Below w.heap.size w w' := by
  have hnot := not_any
  rcases h with rfl | ⟨q, rfl, hb⟩
  · have HB := Lib.hid (new_below w (.cells #[.pointer none] 24))
    go_enter Try.func17, Try.ntmps17
    go_wp2
    go_ret
    exact ⟨rfl, HB.out⟩
  · have B1 := new_below w (.cells #[.pointer (some ⟨q, 0, none⟩)] 24)
    have hb1 := hb.same (B1.block q hb.lt)
    have hc0 : (w.alloc (.cells #[.pointer (some ⟨q, 0, none⟩)] 24)).cell? ⟨q, 0, none⟩ = some (.int .i64 0) := World.rowIs.cell hb1 (i := 0) (by omega)
    have HB := Lib.hid B1
    clear hb hb1 B1
    go_enter Try.func17, Try.ntmps17
    go_wp2
    go_ret
    exact ⟨rfl, HB.out⟩
theorem has_is (w : World) {A : Option Addr} {n c : Nat} {i : Int} {r : Bool} (hr : decide (0 ≤ i ∧ i < (n : Int)) = r) : Calls Try.prog 18 #[.slice A n c, .int .i64 i] w fun e w' => e = .returned (.bool r) ∧ w = w' := by
  by_cases h0 : 0 ≤ i
  · by_cases h1 : i < (n : Int)
    · have e : true = r := by rw [← hr]; exact (decide_eq_true ⟨h0, h1⟩).symm
      subst e
      clear hr
      go_enter Try.func18, Try.ntmps18
      go_wp2
      go_ret
      exact ⟨rfl, rfl⟩
    · have e : false = r := by rw [← hr]; exact (decide_eq_false fun h => h1 h.2).symm
      subst e
      clear hr
      go_enter Try.func18, Try.ntmps18
      go_wp2
      go_ret
      exact ⟨rfl, rfl⟩
  · have e : false = r := by rw [← hr]; exact (decide_eq_false fun h => h0 h.1).symm
    subst e
    clear hr
    go_enter Try.func18, Try.ntmps18
    go_wp2
    go_ret
    exact ⟨rfl, rfl⟩

/-! ### a count -/
theorem load_is (w : World) (g k : Nat) (x : Int) (hc : w.cell? ⟨g, k, none⟩ = some (.int .i64 x)) :
    Calls Try.prog 20 #[.pointer (some ⟨g, k, none⟩)] w fun e w' => e = .returned (.int .i64 x) ∧ w = w' := by
  have hl := run_call_load (P := Try.prog) Try.func27 (by kernel_rfl) (by kernel_rfl) (by kernel_rfl) .i64 (by kernel_rfl) (w := w) (a := ⟨g, k, none⟩) (x := x) hc
  go_enter Try.func20, Try.ntmps20
  go_wp2
  go_ret
  exact ⟨rfl, rfl⟩
theorem cas_is (w : World) (g k : Nat) (x y : Int) (hc : w.cell? ⟨g, k, none⟩ = some (.int .i64 x)) (hz : w.frozen? ⟨g, k, none⟩ = false) :
    Calls Try.prog 26 #[.pointer (some ⟨g, k, none⟩), .int .i64 x, .int .i64 y] w fun e w' => e = .returned (.bool true) ∧ w.setCell ⟨g, k, none⟩ (.int .i64 y) = w' := by
  have hcas := run_call_cas_hit (P := Try.prog) Try.func30 (by kernel_rfl) (by kernel_rfl) (by kernel_rfl) .i64 (by kernel_rfl) (y := y) hc hz
  go_enter Try.func26, Try.ntmps26
  go_wp2
  go_ret
  exact ⟨rfl, rfl⟩
theorem raise_good (w : World) (g k x m : Nat) (hc : w.cell? ⟨g, k, none⟩ = some (.int .i64 x)) (hz : w.frozen? ⟨g, k, none⟩ = false) {s : Nat} (hs : x + m = s) (hm : s ≤ 4611686018427387904) :
    Calls Try.prog 19 #[.pointer (some ⟨g, k, none⟩), .int .i64 m] w fun e w' => e = .returned (.int .i64 0) ∧ w.setCell ⟨g, k, none⟩ (.int .i64 s) = w' := by
  have HL := Lib.hid (load_is w g k x hc)
  have HC := Lib.hid (cas_is w g k x s hc hz)
  obtain ⟨r, hr⟩ : ∃ r : Nat, 4611686018427387904 - x = r := ⟨_, rfl⟩
  have w1 : IntKind.i64.wrap (4611686018427387904 - (x : Int)) = (r : Int) := by rw [IntKind.wrap_i64]; omega
  have w2 : IntKind.i64.wrap ((x : Int) + (m : Int)) = (s : Int) := by rw [IntKind.wrap_i64]; omega
  have d1 : ¬ (r : Int) < (m : Int) := by omega
  clear hc hz hs hm hr
  go_enter Try.func19, Try.ntmps19
  go_wp2_with fail
  go_loopw [] (fun wr => w = wr) (fun _ => 0)
  case atStart => rfl
  case round =>
    subst hrel
    go_wp2_with fail
    refine HL.out.mono ?_
    rintro e w2 ⟨rfl, rfl⟩
    go_wp2_with fail
    refine HC.out.mono ?_
    rintro e w2 ⟨rfl, rfl⟩
    go_wp2
    go_ret
    exact ⟨rfl, rfl⟩
theorem raise_over (w : World) (g k x m : Nat) (hc : w.cell? ⟨g, k, none⟩ = some (.int .i64 x)) (hx : x ≤ 4611686018427387904) (hm : 4611686018427387904 < x + m) :
    Calls Try.prog 19 #[.pointer (some ⟨g, k, none⟩), .int .i64 m] w fun e w' => e = .returned (.int .i64 6) ∧ w = w' := by
  have HL := Lib.hid (load_is w g k x hc)
  obtain ⟨r, hr⟩ : ∃ r : Nat, 4611686018427387904 - x = r := ⟨_, rfl⟩
  have w1 : IntKind.i64.wrap (4611686018427387904 - (x : Int)) = (r : Int) := by rw [IntKind.wrap_i64]; omega
  have d1 : (r : Int) < (m : Int) := by omega
  clear hc hx hm hr
  go_enter Try.func19, Try.ntmps19
  go_wp2_with fail
  go_loopw [] (fun wr => w = wr) (fun _ => 0)
  case atStart => rfl
  case round =>
    subst hrel
    go_wp2_with fail
    refine HL.out.mono ?_
    rintro e w2 ⟨rfl, rfl⟩
    go_wp2
    go_ret
    exact ⟨rfl, rfl⟩
end Go.Proofs.Ytmgfbofaihbfnaa
