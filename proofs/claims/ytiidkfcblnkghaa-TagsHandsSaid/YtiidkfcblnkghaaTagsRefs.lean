/- What the document's own answers for layer 16 (copyholdref16) return: New, Put, Own, Leave, Raise: contracts. -/
import Derived.Test.YtiidkfcblnkghaaTagsTell
import Derived.Test.YtiidkfcblnkghaaBaseTwo
import Derived.Deep.RegionHeld3
namespace Go.Proofs.Ytiidkfcblnkghaa
open Go.RowKit

theorem vals_at {l : List Nat} {p x : Nat} (h : l[p]? = some x) : (vals l)[p]? = some (.int .i64 x) := by unfold vals; rw [List.getElem?_map, h]; rfl
theorem vals_one (l : List Nat) : ∀ u ∈ vals l, u.oneCell' = true := fun u hu => by
  obtain ⟨x, _, rfl⟩ := List.mem_map.1 hu
  rfl
theorem cellsV_of {w : World} {T : Nat → Prop} {A : Option Addr} {l : List Nat} (h : IntsF w T A (ints l)) : CellsF w T A (vals l) := by
  have := h.cells
  rwa [vals_ints] at this
theorem ListAt.f {w : World} {T : Nat → Prop} {lo : Nat} {A : Option Addr} {l : List Nat} {n m c : Nat} (h : ListAt w lo (.slice A n c) l) (hm : m = l.length) (hT : ∀ k, lo ≤ k → T k) : n = m ∧ IntsF w T A (ints l) := by
  obtain ⟨A', c', e, _, hi, hlo⟩ := h
  injection e with e1 e2 _
  subst e1
  refine ⟨e2.trans hm.symm, ?_⟩
  rcases hi with hi | ⟨b, off, e, hb, hc⟩
  · exact .inl hi
  · exact .inr ⟨b, off, e, hT b (hlo b off e), hb, hc⟩

/-! ### Put -/
set_option maxHeartbeats 800000 in
theorem put_is {w : World} {T : Nat → Prop} {A : Option Addr} {l : List Nat} {m c k : Nat} {x : Nat} (h : IntsF w T A (ints l)) (hm : m = l.length) (hs : m ≤ 1048576) (hk : k < m) {l' : List Nat} (hl : l.set k x = l') :
    Calls Try.prog 25 #[.slice A m c, .int .i64 k, .int .i64 x] w (MadeL w l') := by
  obtain ⟨i0, hi0, hz0, hz1, hz2⟩ := info_parts int_info
  have HI := Lib.hid hi0
  have HZ0 := Lib.hid hz0
  have HZ1 := Lib.hid hz1
  have HZ2 := Lib.hid hz2
  have HV := Lib.hid (cellsV_of h)
  have HM : Hid (m = (vals l).length) := by show _ = _; rw [vals_length]; exact hm
  have HL : Hid ((vals l).set k (.int .i64 (x : Int)) = vals l') := by
    show _ = _
    rw [← hl]
    unfold vals
    rw [List.map_set]
  have HLL : Hid (m = l'.length) := by show _ = _; rw [← hl, List.length_set]; exact hm
  have HG : Hid (∃ y, l[k]? = some y) := ⟨_, List.getElem?_eq_getElem (by omega)⟩
  have hki : 0 ≤ (k : Int) ∧ (k : Int) < (m : Int) := by omega
  clear h hm hl hi0 hz0 hz1 hz2
  go_enter Try.func25, Try.ntmps25
  go_wp2_with (at_builtin
               refine wpList_append_copy _ rfl (.tmp 8) (.tmp 9) 26 rfl 3 i0 (.int .i64 0) 8 Try.underlying26 HI.out HZ0.out HZ1.out HZ2.out rfl rfl T A m c (vals l) rfl HV.out HM.out (vals_one l) (by omega) (by omega) ?_
               intro v1 w1 hown1 b1 hsz1
               obtain ⟨g, cc, rfl, _, hg⟩ := own_some hown1 (by omega)
               obtain ⟨y, hy⟩ := HG.out
               have k1 := World.ownsRow.cellAt hown1 k (by omega)
               rw [vals_at hy] at k1
               have f1 := World.ownsRow.frozenAt hown1 k
               have O2 := Lib.hid (own_set hown1 k (.int .i64 (x : Int)))
               have hgl : w.heap.size ≤ g := (hown1.lt g rfl).1
               have B2 : Hid (Below w.heap.size w (w1.setCell ⟨g, k, none⟩ (.int .i64 (x : Int)))) := b1.setCell (p := ⟨g, k, none⟩) hgl _
               clear hown1 b1 hsz1 hy)
  go_ret
  have o := O2.out
  rw [HL.out] at o
  exact ⟨_, rfl, own_list o HLL.out, B2.out⟩

/-! ### New -/
def DocOne (w : World) (T : Nat → Prop) (n : Nat) (O G : List Nat) (e : Ending) (w' : World) : Prop := ∃ A c B d, e = .returned (.agg #[.slice A n c, .slice B n d]) ∧ IntsF w' T A (ints O) ∧ IntsF w' T B (ints G) ∧ Below w.heap.size w w'
def DocTo (w : World) (T : Nat → Prop) (n : Nat) (O G : List Nat) (r : Nat) (e : Ending) (w' : World) : Prop := ∃ A c B d, e = .returned (.tuple #[.agg #[.slice A n c, .slice B n d], .int .i64 r]) ∧ IntsF w' T A (ints O) ∧ IntsF w' T B (ints G) ∧ Below w.heap.size w w'
section
variable {w : World} {T : Nat → Prop} {A B : Option Addr} {O G : List Nat} {n c d : Nat}
theorem ints_cellF {w : World} {T : Nat → Prop} {A : Option Addr} {l : List Nat} {k y : Nat} (h : IntsF w T A (ints l)) (hy : l[k]? = some y) : ∃ b off, A = some ⟨b, off, none⟩ ∧ T b ∧ b < w.heap.size ∧ w.cell? ⟨b, off + k, none⟩ = some (.int .i64 y) := by
  have hi : (ints l)[k]? = some (y : Int) := by unfold ints; rw [List.getElem?_map, hy]; rfl
  rcases h with h | ⟨b, off, e, ht, hb, hc⟩
  · rw [h] at hi; cases hi
  · exact ⟨b, off, e, ht, hb, hc k y hi⟩

/-! ### Own -/
theorem rown_no1 (hA : IntsF w T A (ints O)) (hB : IntsF w T B (ints G)) {i x : Int} (h0 : i < 0) : Calls Try.prog 9 #[.agg #[.slice A n c, .slice B n d], .int .i64 i, .int .i64 x] w (DocTo w T n O G 2) := by
  obtain ⟨r0, s0, b0, z0⟩ := duo_start w (.slice A n c) (.slice B n d) (.slice none 0 0) (.slice none 0 0) 28
  have FA := Lib.hid hA
  have FB := Lib.hid hB
  clear hA hB 
  go_enter Try.func9, Try.ntmps9
  go_upto_region 1 with fail
  generalize (w.alloc (.cells #[.slice A n c, .slice B n d] 28)).alloc (.cells #[.slice none 0 0, .slice none 0 0] 28) = W at *
  obtain ⟨⟨e0, e1⟩, _⟩ := duo_any r0
  obtain ⟨⟨g0, g1⟩, t0, t1⟩ := duo_any s0
  have S0 := Lib.hid s0
  have B0 := Lib.hid b0
  clear r0 s0 b0 z0
  go_wp2
  refine bodyPost_ret_by (back_duo rfl _ _ (w.heap.size + 1) 28 _ (0, 0) _ rfl (duo_block (duo_all S0.out _ _)) Try.underlying28 rfl (by kernel_rfl) rfl) rfl ?_
  have bl := duo_below B0.out (g := w.heap.size + 1) (by omega) (.slice A n c) (.slice B n d)
  exact ⟨A, c, B, d, rfl, FA.out.keep (.of_below T bl), FB.out.keep (.of_below T bl), bl⟩
theorem rown_no2 (hA : IntsF w T A (ints O)) (hB : IntsF w T B (ints G)) {i x : Int} (h0 : ¬ i < 0) (h1 : (n : Int) ≤ i) : Calls Try.prog 9 #[.agg #[.slice A n c, .slice B n d], .int .i64 i, .int .i64 x] w (DocTo w T n O G 2) := by
  obtain ⟨r0, s0, b0, z0⟩ := duo_start w (.slice A n c) (.slice B n d) (.slice none 0 0) (.slice none 0 0) 28
  have FA := Lib.hid hA
  have FB := Lib.hid hB
  clear hA hB 
  go_enter Try.func9, Try.ntmps9
  go_upto_region 1 with fail
  generalize (w.alloc (.cells #[.slice A n c, .slice B n d] 28)).alloc (.cells #[.slice none 0 0, .slice none 0 0] 28) = W at *
  obtain ⟨⟨e0, e1⟩, _⟩ := duo_any r0
  obtain ⟨⟨g0, g1⟩, t0, t1⟩ := duo_any s0
  have S0 := Lib.hid s0
  have B0 := Lib.hid b0
  clear r0 s0 b0 z0
  go_wp2
  refine bodyPost_ret_by (back_duo rfl _ _ (w.heap.size + 1) 28 _ (0, 0) _ rfl (duo_block (duo_all S0.out _ _)) Try.underlying28 rfl (by kernel_rfl) rfl) rfl ?_
  have bl := duo_below B0.out (g := w.heap.size + 1) (by omega) (.slice A n c) (.slice B n d)
  exact ⟨A, c, B, d, rfl, FA.out.keep (.of_below T bl), FB.out.keep (.of_below T bl), bl⟩
theorem rown_no3 (hA : IntsF w T A (ints O)) (hB : IntsF w T B (ints G)) {k : Nat} {x : Int} (hk : k < n) (h2 : x < 1) : Calls Try.prog 9 #[.agg #[.slice A n c, .slice B n d], .int .i64 k, .int .i64 x] w (DocTo w T n O G 2) := by
  obtain ⟨r0, s0, b0, z0⟩ := duo_start w (.slice A n c) (.slice B n d) (.slice none 0 0) (.slice none 0 0) 28
  have h0 : ¬ (k : Int) < 0 := by omega
  have h1 : ¬ (n : Int) ≤ (k : Int) := by omega
  have FA := Lib.hid hA
  have FB := Lib.hid hB
  clear hA hB hk
  go_enter Try.func9, Try.ntmps9
  go_upto_region 1 with fail
  generalize (w.alloc (.cells #[.slice A n c, .slice B n d] 28)).alloc (.cells #[.slice none 0 0, .slice none 0 0] 28) = W at *
  obtain ⟨⟨e0, e1⟩, _⟩ := duo_any r0
  obtain ⟨⟨g0, g1⟩, t0, t1⟩ := duo_any s0
  have S0 := Lib.hid s0
  have B0 := Lib.hid b0
  clear r0 s0 b0 z0
  go_wp2
  refine bodyPost_ret_by (back_duo rfl _ _ (w.heap.size + 1) 28 _ (0, 0) _ rfl (duo_block (duo_all S0.out _ _)) Try.underlying28 rfl (by kernel_rfl) rfl) rfl ?_
  have bl := duo_below B0.out (g := w.heap.size + 1) (by omega) (.slice A n c) (.slice B n d)
  exact ⟨A, c, B, d, rfl, FA.out.keep (.of_below T bl), FB.out.keep (.of_below T bl), bl⟩
theorem rown_no4 (hA : IntsF w T A (ints O)) (hB : IntsF w T B (ints G)) {k y : Nat} {x : Int} (hk : k < n) (h2 : ¬ x < 1) (hy : O[k]? = some y) (h3 : 0 < y) : Calls Try.prog 9 #[.agg #[.slice A n c, .slice B n d], .int .i64 k, .int .i64 x] w (DocTo w T n O G 19) := by
  obtain ⟨r0, s0, b0, z0⟩ := duo_start w (.slice A n c) (.slice B n d) (.slice none 0 0) (.slice none 0 0) 28
  obtain ⟨bA, oA, rfl, _, hbbA, hcA⟩ := ints_cellF hA (hy)
  have hcA' := (World.cell?_of_block (w := w) (a := ⟨bA, oA + k, none⟩) (b0.block bA hbbA)).trans hcA
  have h0 : ¬ (k : Int) < 0 := by omega
  have h1 : ¬ (n : Int) ≤ (k : Int) := by omega
  have hki : 0 ≤ (k : Int) ∧ (k : Int) < (n : Int) := by omega
  have h4 : 0 < (y : Int) := by omega
  have FA := Lib.hid hA
  have FB := Lib.hid hB
  clear hA hB hk hcA hbbA hy h3
  go_enter Try.func9, Try.ntmps9
  go_upto_region 1 with fail
  generalize (w.alloc (.cells #[.slice (some ⟨bA, oA, none⟩) n c, .slice B n d] 28)).alloc (.cells #[.slice none 0 0, .slice none 0 0] 28) = W at *
  obtain ⟨⟨e0, e1⟩, _⟩ := duo_any r0
  obtain ⟨⟨g0, g1⟩, t0, t1⟩ := duo_any s0
  have S0 := Lib.hid s0
  have B0 := Lib.hid b0
  clear r0 s0 b0 z0
  go_wp2
  refine bodyPost_ret_by (back_duo rfl _ _ (w.heap.size + 1) 28 _ (0, 0) _ rfl (duo_block (duo_all S0.out _ _)) Try.underlying28 rfl (by kernel_rfl) rfl) rfl ?_
  have bl := duo_below B0.out (g := w.heap.size + 1) (by omega) (.slice (some ⟨bA, oA, none⟩) n c) (.slice B n d)
  exact ⟨(some ⟨bA, oA, none⟩), c, B, d, rfl, FA.out.keep (.of_below T bl), FB.out.keep (.of_below T bl), bl⟩

/-! ### Leave -/
theorem rleave_no1 (hA : IntsF w T A (ints O)) (hB : IntsF w T B (ints G)) {i : Int} (h0 : i < 0) : Calls Try.prog 11 #[.agg #[.slice A n c, .slice B n d], .int .i64 i] w (DocTo w T n O G 2) := by
  obtain ⟨r0, s0, b0, z0⟩ := duo_start w (.slice A n c) (.slice B n d) (.slice none 0 0) (.slice none 0 0) 28
  have FA := Lib.hid hA
  have FB := Lib.hid hB
  clear hA hB 
  go_enter Try.func11, Try.ntmps11
  go_upto_region 1 with fail
  generalize (w.alloc (.cells #[.slice A n c, .slice B n d] 28)).alloc (.cells #[.slice none 0 0, .slice none 0 0] 28) = W at *
  obtain ⟨⟨e0, e1⟩, _⟩ := duo_any r0
  obtain ⟨⟨g0, g1⟩, t0, t1⟩ := duo_any s0
  have S0 := Lib.hid s0
  have B0 := Lib.hid b0
  clear r0 s0 b0 z0
  go_wp2
  refine bodyPost_ret_by (back_duo rfl _ _ (w.heap.size + 1) 28 _ (0, 0) _ rfl (duo_block (duo_all S0.out _ _)) Try.underlying28 rfl (by kernel_rfl) rfl) rfl ?_
  have bl := duo_below B0.out (g := w.heap.size + 1) (by omega) (.slice A n c) (.slice B n d)
  exact ⟨A, c, B, d, rfl, FA.out.keep (.of_below T bl), FB.out.keep (.of_below T bl), bl⟩
theorem rleave_no2 (hA : IntsF w T A (ints O)) (hB : IntsF w T B (ints G)) {i : Int} (h0 : ¬ i < 0) (h1 : (n : Int) ≤ i) : Calls Try.prog 11 #[.agg #[.slice A n c, .slice B n d], .int .i64 i] w (DocTo w T n O G 2) := by
  obtain ⟨r0, s0, b0, z0⟩ := duo_start w (.slice A n c) (.slice B n d) (.slice none 0 0) (.slice none 0 0) 28
  have FA := Lib.hid hA
  have FB := Lib.hid hB
  clear hA hB 
  go_enter Try.func11, Try.ntmps11
  go_upto_region 1 with fail
  generalize (w.alloc (.cells #[.slice A n c, .slice B n d] 28)).alloc (.cells #[.slice none 0 0, .slice none 0 0] 28) = W at *
  obtain ⟨⟨e0, e1⟩, _⟩ := duo_any r0
  obtain ⟨⟨g0, g1⟩, t0, t1⟩ := duo_any s0
  have S0 := Lib.hid s0
  have B0 := Lib.hid b0
  clear r0 s0 b0 z0
  go_wp2
  refine bodyPost_ret_by (back_duo rfl _ _ (w.heap.size + 1) 28 _ (0, 0) _ rfl (duo_block (duo_all S0.out _ _)) Try.underlying28 rfl (by kernel_rfl) rfl) rfl ?_
  have bl := duo_below B0.out (g := w.heap.size + 1) (by omega) (.slice A n c) (.slice B n d)
  exact ⟨A, c, B, d, rfl, FA.out.keep (.of_below T bl), FB.out.keep (.of_below T bl), bl⟩
theorem rleave_no3 (hA : IntsF w T A (ints O)) (hB : IntsF w T B (ints G)) {k : Nat} (hk : k < n) (hy : O[k]? = some 0) : Calls Try.prog 11 #[.agg #[.slice A n c, .slice B n d], .int .i64 k] w (DocTo w T n O G 20) := by
  obtain ⟨r0, s0, b0, z0⟩ := duo_start w (.slice A n c) (.slice B n d) (.slice none 0 0) (.slice none 0 0) 28
  obtain ⟨bA, oA, rfl, _, hbbA, hcA⟩ := ints_cellF hA (hy)
  have hcA' := (World.cell?_of_block (w := w) (a := ⟨bA, oA + k, none⟩) (b0.block bA hbbA)).trans hcA
  have h0 : ¬ (k : Int) < 0 := by omega
  have h1 : ¬ (n : Int) ≤ (k : Int) := by omega
  have hki : 0 ≤ (k : Int) ∧ (k : Int) < (n : Int) := by omega
  have w1e : ((0 : Nat) : Int) = 0 := rfl
  simp only [w1e] at hcA'
  have FA := Lib.hid hA
  have FB := Lib.hid hB
  clear hA hB hk hcA hbbA hy w1e
  go_enter Try.func11, Try.ntmps11
  go_upto_region 1 with fail
  generalize (w.alloc (.cells #[.slice (some ⟨bA, oA, none⟩) n c, .slice B n d] 28)).alloc (.cells #[.slice none 0 0, .slice none 0 0] 28) = W at *
  obtain ⟨⟨e0, e1⟩, _⟩ := duo_any r0
  obtain ⟨⟨g0, g1⟩, t0, t1⟩ := duo_any s0
  have S0 := Lib.hid s0
  have B0 := Lib.hid b0
  clear r0 s0 b0 z0
  go_wp2
  refine bodyPost_ret_by (back_duo rfl _ _ (w.heap.size + 1) 28 _ (0, 0) _ rfl (duo_block (duo_all S0.out _ _)) Try.underlying28 rfl (by kernel_rfl) rfl) rfl ?_
  have bl := duo_below B0.out (g := w.heap.size + 1) (by omega) (.slice (some ⟨bA, oA, none⟩) n c) (.slice B n d)
  exact ⟨(some ⟨bA, oA, none⟩), c, B, d, rfl, FA.out.keep (.of_below T bl), FB.out.keep (.of_below T bl), bl⟩

/-! ### Raise -/
theorem rraise_no1 (hA : IntsF w T A (ints O)) (hB : IntsF w T B (ints G)) {i : Int} (h0 : i < 0) : Calls Try.prog 13 #[.agg #[.slice A n c, .slice B n d], .int .i64 i] w (DocTo w T n O G 2) := by
  obtain ⟨r0, s0, b0, z0⟩ := duo_start w (.slice A n c) (.slice B n d) (.slice none 0 0) (.slice none 0 0) 28
  have FA := Lib.hid hA
  have FB := Lib.hid hB
  clear hA hB 
  go_enter Try.func13, Try.ntmps13
  go_upto_region 1 with fail
  generalize (w.alloc (.cells #[.slice A n c, .slice B n d] 28)).alloc (.cells #[.slice none 0 0, .slice none 0 0] 28) = W at *
  obtain ⟨⟨e0, e1⟩, _⟩ := duo_any r0
  obtain ⟨⟨g0, g1⟩, t0, t1⟩ := duo_any s0
  have S0 := Lib.hid s0
  have B0 := Lib.hid b0
  clear r0 s0 b0 z0
  go_wp2
  refine bodyPost_ret_by (back_duo rfl _ _ (w.heap.size + 1) 28 _ (0, 0) _ rfl (duo_block (duo_all S0.out _ _)) Try.underlying28 rfl (by kernel_rfl) rfl) rfl ?_
  have bl := duo_below B0.out (g := w.heap.size + 1) (by omega) (.slice A n c) (.slice B n d)
  exact ⟨A, c, B, d, rfl, FA.out.keep (.of_below T bl), FB.out.keep (.of_below T bl), bl⟩
theorem rraise_no2 (hA : IntsF w T A (ints O)) (hB : IntsF w T B (ints G)) {i : Int} (h0 : ¬ i < 0) (h1 : (n : Int) ≤ i) : Calls Try.prog 13 #[.agg #[.slice A n c, .slice B n d], .int .i64 i] w (DocTo w T n O G 2) := by
  obtain ⟨r0, s0, b0, z0⟩ := duo_start w (.slice A n c) (.slice B n d) (.slice none 0 0) (.slice none 0 0) 28
  have FA := Lib.hid hA
  have FB := Lib.hid hB
  clear hA hB 
  go_enter Try.func13, Try.ntmps13
  go_upto_region 1 with fail
  generalize (w.alloc (.cells #[.slice A n c, .slice B n d] 28)).alloc (.cells #[.slice none 0 0, .slice none 0 0] 28) = W at *
  obtain ⟨⟨e0, e1⟩, _⟩ := duo_any r0
  obtain ⟨⟨g0, g1⟩, t0, t1⟩ := duo_any s0
  have S0 := Lib.hid s0
  have B0 := Lib.hid b0
  clear r0 s0 b0 z0
  go_wp2
  refine bodyPost_ret_by (back_duo rfl _ _ (w.heap.size + 1) 28 _ (0, 0) _ rfl (duo_block (duo_all S0.out _ _)) Try.underlying28 rfl (by kernel_rfl) rfl) rfl ?_
  have bl := duo_below B0.out (g := w.heap.size + 1) (by omega) (.slice A n c) (.slice B n d)
  exact ⟨A, c, B, d, rfl, FA.out.keep (.of_below T bl), FB.out.keep (.of_below T bl), bl⟩
theorem rraise_no3 (hA : IntsF w T A (ints O)) (hB : IntsF w T B (ints G)) {k y : Nat} (hk : k < n) (hy : O[k]? = some y) (h3 : 0 < y) : Calls Try.prog 13 #[.agg #[.slice A n c, .slice B n d], .int .i64 k] w (DocTo w T n O G 19) := by
  obtain ⟨r0, s0, b0, z0⟩ := duo_start w (.slice A n c) (.slice B n d) (.slice none 0 0) (.slice none 0 0) 28
  obtain ⟨bA, oA, rfl, _, hbbA, hcA⟩ := ints_cellF hA (hy)
  have hcA' := (World.cell?_of_block (w := w) (a := ⟨bA, oA + k, none⟩) (b0.block bA hbbA)).trans hcA
  have h0 : ¬ (k : Int) < 0 := by omega
  have h1 : ¬ (n : Int) ≤ (k : Int) := by omega
  have hki : 0 ≤ (k : Int) ∧ (k : Int) < (n : Int) := by omega
  have h4 : 0 < (y : Int) := by omega
  have FA := Lib.hid hA
  have FB := Lib.hid hB
  clear hA hB hk hcA hbbA hy h3
  go_enter Try.func13, Try.ntmps13
  go_upto_region 1 with fail
  generalize (w.alloc (.cells #[.slice (some ⟨bA, oA, none⟩) n c, .slice B n d] 28)).alloc (.cells #[.slice none 0 0, .slice none 0 0] 28) = W at *
  obtain ⟨⟨e0, e1⟩, _⟩ := duo_any r0
  obtain ⟨⟨g0, g1⟩, t0, t1⟩ := duo_any s0
  have S0 := Lib.hid s0
  have B0 := Lib.hid b0
  clear r0 s0 b0 z0
  go_wp2
  refine bodyPost_ret_by (back_duo rfl _ _ (w.heap.size + 1) 28 _ (0, 0) _ rfl (duo_block (duo_all S0.out _ _)) Try.underlying28 rfl (by kernel_rfl) rfl) rfl ?_
  have bl := duo_below B0.out (g := w.heap.size + 1) (by omega) (.slice (some ⟨bA, oA, none⟩) n c) (.slice B n d)
  exact ⟨(some ⟨bA, oA, none⟩), c, B, d, rfl, FA.out.keep (.of_below T bl), FB.out.keep (.of_below T bl), bl⟩
theorem rraise_no4 (hA : IntsF w T A (ints O)) (hB : IntsF w T B (ints G)) {k z : Nat} (hk : k < n) (hy : O[k]? = some 0) (hz : G[k]? = some z) (h3 : 1048575 ≤ z) : Calls Try.prog 13 #[.agg #[.slice A n c, .slice B n d], .int .i64 k] w (DocTo w T n O G 6) := by
  obtain ⟨r0, s0, b0, z0⟩ := duo_start w (.slice A n c) (.slice B n d) (.slice none 0 0) (.slice none 0 0) 28
  obtain ⟨bA, oA, rfl, _, hbbA, hcA⟩ := ints_cellF hA (hy)
  have hcA' := (World.cell?_of_block (w := w) (a := ⟨bA, oA + k, none⟩) (b0.block bA hbbA)).trans hcA
  obtain ⟨bB, oB, rfl, _, hbbB, hcB⟩ := ints_cellF hB (hz)
  have hcB' := (World.cell?_of_block (w := w) (a := ⟨bB, oB + k, none⟩) (b0.block bB hbbB)).trans hcB
  have h0 : ¬ (k : Int) < 0 := by omega
  have h1 : ¬ (n : Int) ≤ (k : Int) := by omega
  have hki : 0 ≤ (k : Int) ∧ (k : Int) < (n : Int) := by omega
  have h4 : 1048575 ≤ (z : Int) := by omega
  have w1e : ((0 : Nat) : Int) = 0 := rfl
  simp only [w1e] at hcA'
  have FA := Lib.hid hA
  have FB := Lib.hid hB
  clear hA hB hk hcA hbbA hy h3 hcB hbbB hz w1e
  go_enter Try.func13, Try.ntmps13
  go_upto_region 1 with fail
  generalize (w.alloc (.cells #[.slice (some ⟨bA, oA, none⟩) n c, .slice (some ⟨bB, oB, none⟩) n d] 28)).alloc (.cells #[.slice none 0 0, .slice none 0 0] 28) = W at *
  obtain ⟨⟨e0, e1⟩, _⟩ := duo_any r0
  obtain ⟨⟨g0, g1⟩, t0, t1⟩ := duo_any s0
  have S0 := Lib.hid s0
  have B0 := Lib.hid b0
  clear r0 s0 b0 z0
  go_wp2
  refine bodyPost_ret_by (back_duo rfl _ _ (w.heap.size + 1) 28 _ (0, 0) _ rfl (duo_block (duo_all S0.out _ _)) Try.underlying28 rfl (by kernel_rfl) rfl) rfl ?_
  have bl := duo_below B0.out (g := w.heap.size + 1) (by omega) (.slice (some ⟨bA, oA, none⟩) n c) (.slice (some ⟨bB, oB, none⟩) n d)
  exact ⟨(some ⟨bA, oA, none⟩), c, (some ⟨bB, oB, none⟩), d, rfl, FA.out.keep (.of_below T bl), FB.out.keep (.of_below T bl), bl⟩
end
end Go.Proofs.Ytiidkfcblnkghaa
