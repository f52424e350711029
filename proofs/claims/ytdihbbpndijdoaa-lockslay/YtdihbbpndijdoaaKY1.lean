/- room, kept. -/
import Derived.Test.YtdihbbpndijdoaaKS5
import Derived.Test.YtdihbbpndijdoaaKR8
namespace Go.Proofs.Ytdihbbpndijdoaa
open Go.RowKit Go.Maps

theorem make_cap (t e : TypeId) (z : Value) (size bytes : Nat) (ht : Try.prog.underlying t = some (.slice e)) (hi : (Try.prog.info? e).map (fun i => (i.zero, i.size, i.bytes)) = some (some z, size, bytes)) (n : Nat) (hb : bytes * n ≤ 281474976710656) (h63 : n ≤ maxLen) (W : World) :
    (Instr.makeSlice t (.int .i64 0) (.int .i64 (n : Int))).run Try.prog W = .ok (.slice (some ⟨W.heap.size, 0, none⟩) 0 n) (W.alloc (.cells (madeCells z.cells (n * size)) e)) := by
  obtain ⟨i, h1, h2, h3, h4⟩ := info_parts hi
  subst h3 h4
  have h63' : (n : Int) ≤ 9223372036854775807 := by
    have h := h63
    simp [maxLen] at h
    omega
  have hb' : (i.bytes : Int) * (n : Int) ≤ 281474976710656 := by
    have h : ((i.bytes * n : Nat) : Int) ≤ 281474976710656 := by omega
    rwa [Int.natCast_mul] at h
  have hr := run_make (P := Try.prog) W t e i z ht h1 h2 .i64 .i64 0 n (by omega) (by omega) hb' h63'
  simp only [Int.toNat_natCast, Int.toNat_zero] at hr
  exact hr

set_option maxRecDepth 100000 in
set_option maxHeartbeats 1000000 in
theorem room_any {w : World} {a : Option Addr} {n c : Nat} {l : List Int} (hR : Rd w a (iC l)) (hN : Hid (l.length = n)) (hn : n ≤ 1100000) :
    Calls Try.prog 12 #[.slice a n c] w fun e w' => ∃ a' c', e = .returned (.slice a' n c') ∧ Row w' 3 1 a' (n + 2) c' (iC (l ++ [-77, -78])) ∧ Below w.heap.size w w' ∧ ∀ k, blk a' = some k → w.heap.size ≤ k := by
  obtain ⟨i, k1, k2, k3, k4⟩ := info_parts infoN
  have hmk := make_cap 33 3 _ 1 8 Try.underlying33 infoN (n + 2) (by omega) (by unfold maxLen; omega) w
  obtain ⟨w1, hw1⟩ : ∃ W, Hid (w.alloc (.cells (madeCells (Value.int .i64 0).cells ((n + 2) * 1)) 3) = W) := ⟨_, rfl⟩
  rw [hw1.out] at hmk
  have hB1 : Below w.heap.size w w1 := by rw [← hw1.out]; exact below_al w _
  have hh := heap_alloc_new w (.cells (madeCells (Value.int .i64 0).cells ((n + 2) * 1)) 3)
  rw [hw1.out] at hh
  have hr := (row_new (size := 1) (n := n + 2) hh (by simp [madeCells]) (by unfold maxLen; omega)).cut 0 (n + 2) (Nat.zero_le _) (Nat.zero_le _) (Nat.le_refl _) (fun e => by cases e)
  simp only [Nat.zero_mul, List.take_zero] at hr
  obtain ⟨a2, c2, w2, m1, m2, m3, m4, _⟩ := run_append_row (P := Try.prog) w1 33 3 i _ 1 8 Try.underlying33 k1 k2 k3 k4 rfl hr (.slice a n c) n (iC l) ((hR.below hB1).src Try.underlying33 (by rw [iC_len, hN.out]) (by omega) (iC_one _)) (by unfold maxLen; omega) (by omega)
  simp only [Nat.zero_add, List.nil_append] at m1 m2
  have hB2 : Below w.heap.size w w2 := hB1.trans (m3.below hB1.size (fun k _ e => by cases e; exact Nat.le_refl _))
  have hN2 : ∀ k, blk a2 = some k → w.heap.size ≤ k := fun k hk => by
    rcases m4 k hk with h | h
    · cases h; exact Nat.le_refl _
    · exact Nat.le_trans hB1.size h
  have bA := below_al w2 (.cells #[.int .i64 (-77), .int .i64 (-78)] 3)
  have hhA := heap_alloc_new w2 (.cells #[.int .i64 (-77), .int .i64 (-78)] 3)
  have hs : Src Try.prog 1 33 (.slice (some ⟨w2.heap.size, 0, none⟩) 2 2) 2 (iC [-77, -78]) (w2.alloc (.cells #[.int .i64 (-77), .int .i64 (-78)] 3)) := by
    refine Src.ofSlice _ Try.underlying33 _ _ _ _ (by simp [iC]) (fun j u hj => ?_) (iC_one _)
    rw [addr_add, cell_of_row _ _ _ _ _ _ hhA, Nat.zero_add]
    simpa [iC] using hj
  obtain ⟨a3, c3, w3, p1, p2, p3, p4, _⟩ := run_append_row (P := Try.prog) _ 33 3 i _ 1 8 Try.underlying33 k1 k2 k3 k4 rfl (m2.below bA) _ 2 _ hs (by unfold maxLen; omega) (by omega)
  rw [← iC_app] at p2
  have hBA : Below w.heap.size w (w2.alloc (.cells #[.int .i64 (-77), .int .i64 (-78)] 3)) := hB2.trans (bA.mono hB2.size)
  have HB3 : Hid (Below w.heap.size w w3) := hd (hBA.trans (p3.below hBA.size (fun k _ hk => hN2 k hk)))
  have HN3 : Hid (∀ k, blk a3 = some k → w.heap.size ≤ k) := hd (fun k hk => by
    rcases p4 k hk with h | h
    · exact hN2 k h
    · exact Nat.le_trans hBA.size h)
  have HR3 := hd p2
  have hcap := p2.capLe
  have hcI : (n : Int) ≤ (c3 : Int) := by omega
  have A1 := hd m1
  have A2 := hd p1
  obtain ⟨G, hG⟩ : ∃ G, Hid (w.heap.size = G) := ⟨_, rfl⟩
  have hsum : (n : Int) + 2 = ((n + 2 : Nat) : Int) := by omega
  rw [hG.out, ← hsum] at hmk
  clear hsum
  have A1 : Hid (∀ ty, (Builtin.append_ #[33, 33] ty #[.slice (some ⟨G, 0, none⟩) 0 (n + 2), .slice a n c]).run Try.prog w1 = .ok (.slice a2 n c2) w2) := by rw [← hG.out]; exact A1
  clear hR hB1 hh hr m1 m2 m3 m4 hB2 hN2 bA hhA hs p1 p2 p3 p4 hBA hw1 k1 k2 k3 k4 hG
  go_enter Try.func12, Try.ntmps12
  go_wp2_with (first
    | (at_builtin; refine wpList_append_run rfl _ _ _ rfl _ _ _ _ rfl rfl A1.out ?_; clear A1)
    | (at_builtin; refine wpList_append_run rfl _ _ _ rfl _ _ _ _ rfl rfl A2.out ?_; clear A2))
  go_ret
  exact ⟨a3, c3, rfl, HR3.out, HB3.out, HN3.out⟩

set_option maxRecDepth 100000 in
set_option maxHeartbeats 1000000 in
theorem kept_any {w : World} {a1 a2 : Option Addr} {n c1 c2 : Nat} {l : List Int} (hR : Row w 3 1 a1 (n + 2) c1 (iC (l ++ [-77, -78]))) (h2 : Rd w a2 (iC l)) (hN : Hid (l.length = n)) (hn : n ≤ 1100000) :
    Calls Try.prog 14 #[.slice a1 n c1, .slice a2 n c2] w fun e w' => e = .returned (.bool true) ∧ Below w.heap.size w w' := by
  have hcap := hR.capLe
  obtain ⟨g, rfl, x0⟩ := hR.cell n (by omega)
  obtain ⟨g', e, x1⟩ := hR.cell (n + 1) (by omega)
  cases e
  rw [iC_at _ n (by simp [hN.out]) 0] at x0
  rw [iC_at _ (n + 1) (by simp [hN.out]) 0] at x1
  have e0 : (l ++ [-77, -78]).getD n 0 = -77 := by
    rw [List.getD_eq_getElem?_getD, List.getElem?_append_right (by rw [hN.out]; omega), hN.out, Nat.sub_self]; rfl
  have e1 : (l ++ [-77, -78]).getD (n + 1) 0 = -78 := by
    rw [List.getD_eq_getElem?_getD, List.getElem?_append_right (by rw [hN.out]; omega), hN.out, show n + 1 - n = 1 by omega]; rfl
  rw [e0] at x0
  rw [e1] at x1
  have hrd : Rd w (some ⟨g, 0, none⟩) (iC l) := by
    have h3 := hR.rd
    rw [iC_app] at h3
    intro j u hj
    exact h3 j u (by rw [List.getElem?_append_left (by
      rcases Nat.lt_or_ge j (iC l).length with h | h
      · exact h
      · rw [List.getElem?_eq_none h] at hj; cases hj)]; exact hj)
  have hin := ints_b (c1 := c1) (c2 := c2) hrd h2 hN (by omega)
  have HC : Hid (∀ W, Below w.heap.size w W → W.cell? ⟨g, n, none⟩ = some (.int .i64 (-77)) ∧ W.cell? ⟨g, n + 1, none⟩ = some (.int .i64 (-78))) := hd (fun W hb => ⟨(hb.cell (p := ⟨g, n, none⟩) (World.block_lt_of_cell? w _ x0)).trans x0, (hb.cell (p := ⟨g, n + 1, none⟩) (World.block_lt_of_cell? w _ x1)).trans x1⟩)
  have hcI : (n : Int) + 2 ≤ (c1 : Int) := by omega
  clear hR h2 hrd e0 e1
  go_enter Try.func14, Try.ntmps14
  go_wp2_with (first | (go_at_call 25; refine hin.mono ?_; rintro e1 w1 ⟨rfl, b1⟩
                        obtain ⟨y0, y1⟩ := HC.out w1 b1))
  go_ret
  exact ⟨rfl, b1⟩
end Go.Proofs.Ytdihbbpndijdoaa
