/- The document's side: Copy, Same. -/
import Derived.Test.YtknklbojcnhjcaaLR4
namespace Go.Proofs.Ytknklbojcnhjcaa
open Go.RowKit

/-- How a lane stands, in memory that is new since w. -/
structure OwnAL (w w' : World) (vs : List Int) (ws : List (Int × Int)) (a1 : Option Addr) (c1 : Nat) (a2 : Option Addr) (c2 : Nat) : Prop where
  vals : Row w' 2 1 a1 vs.length c1 (iC vs)
  wts : Row w' 52 2 a2 ws.length c2 (wC ws)
  n1 : ∀ k, blk a1 = some k → w.heap.size ≤ k
  n2 : ∀ k, blk a2 = some k → w.heap.size ≤ k
  ne : ∀ k, blk a2 = some k → blk a1 ≠ some k
  bel : Below w.heap.size w w'
theorem Told.own {w w' : World} {s : LS} {g1 g2 : Nat} (h : Told w w' s g1 g2) : OwnAL w w' s.vs s.ws (some ⟨g1, 0, none⟩) s.vs.length (some ⟨g2, 0, none⟩) s.ws.length :=
  ⟨h.vals, h.wts, fun k hk => by cases hk; exact h.n1, fun k hk => by cases hk; exact h.n2, fun k hk e => by cases hk; cases e; exact h.ne rfl, h.bel⟩

/-- Four cells at a block of the call's own. -/
structure Box4 (w : World) (t : TypeId) (G : Nat) (v0 v1 v2 v3 : Value) : Prop where
  obj : w.heap[G]? = some (.cells #[v0, v1, v2, v3] t (0, 0))
section
variable {w w' : World} {t : TypeId} {G : Nat} {v0 v1 v2 v3 : Value}
theorem Box4.cells (h : Box4 w t G v0 v1 v2 v3) : w.cell? ⟨G, 0, none⟩ = some v0 ∧ w.cell? ⟨G, 1, none⟩ = some v1 ∧ w.cell? ⟨G, 2, none⟩ = some v2 ∧ w.cell? ⟨G, 3, none⟩ = some v3 := by
  refine ⟨?_, ?_, ?_, ?_⟩ <;> (rw [cell_of_row _ _ _ _ _ _ h.obj]; rfl)
theorem Box4.fr (h : Box4 w t G v0 v1 v2 v3) (i : Nat) : w.frozen? ⟨G, i, none⟩ = false := by simp [World.frozen?, h.obj]
theorem Box4.lt (h : Box4 w t G v0 v1 v2 v3) : G < w.heap.size := (Array.getElem?_eq_some_iff.1 h.obj).1
theorem Box4.mod {S : Nat → Prop} (h : Box4 w t G v0 v1 v2 v3) (hm : Mod S w w') (hn : ¬ S G) : Box4 w' t G v0 v1 v2 v3 := ⟨by rw [hm.block G h.lt hn]; exact h.obj⟩
theorem Box4.bel (h : Box4 w t G v0 v1 v2 v3) (hm : Below w.heap.size w w') : Box4 w' t G v0 v1 v2 v3 := ⟨by rw [hm.block G h.lt]; exact h.obj⟩
theorem Box4.set (h : Box4 w t G v0 v1 v2 v3) {b : Nat} (hb : G ≠ b) (i : Nat) (u : Value) : Box4 (w.setCell ⟨b, i, none⟩ u) t G v0 v1 v2 v3 := ⟨by rw [Below.heap_setCell _ _ _ _ hb]; exact h.obj⟩
theorem Box4.put0 (h : Box4 w t G v0 v1 v2 v3) (u : Value) : Box4 (w.setCell ⟨G, 0, none⟩ u) t G u v1 v2 v3 := ⟨by rw [heap_setCell_self h.obj]; rfl⟩
theorem Box4.put1 (h : Box4 w t G v0 v1 v2 v3) (u : Value) : Box4 (w.setCell ⟨G, 1, none⟩ u) t G v0 u v2 v3 := ⟨by rw [heap_setCell_self h.obj]; rfl⟩
theorem Box4.put2 (h : Box4 w t G v0 v1 v2 v3) (u : Value) : Box4 (w.setCell ⟨G, 2, none⟩ u) t G v0 v1 u v3 := ⟨by rw [heap_setCell_self h.obj]; rfl⟩
theorem Box4.put3 (h : Box4 w t G v0 v1 v2 v3) (u : Value) : Box4 (w.setCell ⟨G, 3, none⟩ u) t G v0 v1 v2 u := ⟨by rw [heap_setCell_self h.obj]; rfl⟩
theorem box4_new (w : World) (t : TypeId) (v0 v1 v2 v3 : Value) : Box4 (w.alloc (.cells #[v0, v1, v2, v3] t)) t w.heap.size v0 v1 v2 v3 := ⟨heap_alloc_new _ _⟩
end

theorem size_al (w : World) (o : Obj) : (w.alloc o).heap.size = w.heap.size + 1 := by simp

set_option maxRecDepth 100000 in
set_option maxHeartbeats 2000000 in
theorem copy_any {vs : List Int} {ws : List (Int × Int)} {tk dr : Int} {a1 a2 : Option Addr} {c1 c2 : Nat} {w : World} (hA : AL w vs ws a1 a2) (hv : vs.length ≤ 8000000000000) (hw : ws.length ≤ 8000000000000) :
    Calls Try.prog 7 #[.agg #[.slice a1 vs.length c1, .slice a2 ws.length c2, .int .i64 tk, .int .i64 dr]] w fun e w' => ∃ a1' c1' a2' c2', e = .returned (.agg #[.slice a1' vs.length c1', .slice a2' ws.length c2', .int .i64 tk, .int .i64 dr]) ∧ OwnAL w w' vs ws a1' c1' a2' c2' := by
  obtain ⟨Q, hQ⟩ : ∃ Q : Ending → World → Prop, Hid ((fun e w' => ∃ a1' c1' a2' c2', e = .returned (.agg #[.slice a1' vs.length c1', .slice a2' ws.length c2', .int .i64 tk, .int .i64 dr]) ∧ OwnAL w w' vs ws a1' c1' a2' c2') = Q) := ⟨_, rfl⟩
  rw [hQ.out]
  have b0 := below_al w (.cells #[.slice a1 vs.length c1, .slice a2 ws.length c2, .int .i64 tk, .int .i64 dr] 29)
  have b1 := below_al (w.alloc (.cells #[.slice a1 vs.length c1, .slice a2 ws.length c2, .int .i64 tk, .int .i64 dr] 29)) (.cells #[.slice none 0 0, .slice none 0 0, .int .i64 0, .int .i64 0] 29)
  have b2 := below_al ((w.alloc (.cells #[.slice a1 vs.length c1, .slice a2 ws.length c2, .int .i64 tk, .int .i64 dr] 29)).alloc (.cells #[.slice none 0 0, .slice none 0 0, .int .i64 0, .int .i64 0] 29)) (.cells #[.slice none 0 0, .slice none 0 0, .int .i64 tk, .int .i64 dr] 29)
  have X0 := ((box4_new w 29 (.slice a1 vs.length c1) (.slice a2 ws.length c2) (.int .i64 tk) (.int .i64 dr)).bel b1).bel b2
  have X1 := (box4_new (w.alloc (.cells #[.slice a1 vs.length c1, .slice a2 ws.length c2, .int .i64 tk, .int .i64 dr] 29)) 29 (.slice none 0 0) (.slice none 0 0) (.int .i64 0) (.int .i64 0)).bel b2
  have X2 := box4_new ((w.alloc (.cells #[.slice a1 vs.length c1, .slice a2 ws.length c2, .int .i64 tk, .int .i64 dr] 29)).alloc (.cells #[.slice none 0 0, .slice none 0 0, .int .i64 0, .int .i64 0] 29)) 29 (.slice none 0 0) (.slice none 0 0) (.int .i64 tk) (.int .i64 dr)
  have hb3 : Below w.heap.size w (((w.alloc (.cells #[.slice a1 vs.length c1, .slice a2 ws.length c2, .int .i64 tk, .int .i64 dr] 29)).alloc (.cells #[.slice none 0 0, .slice none 0 0, .int .i64 0, .int .i64 0] 29)).alloc (.cells #[.slice none 0 0, .slice none 0 0, .int .i64 tk, .int .i64 dr] 29)) := (b0.trans (b1.mono b0.size)).trans (b2.mono (by simp; omega))
  simp only [size_al] at X1 X2
  have HX0 := hd X0
  have HX1 := hd X1
  have HX2 := hd X2
  have HB3 := hd hb3
  clear b0 b1 b2 X0 X1 X2 hb3
  go_enter Try.func7, Try.ntmps7
  go_upto_region 2 with fail
  obtain ⟨w3, hw3⟩ : ∃ W, Hid ((((w.alloc (.cells #[.slice a1 vs.length c1, .slice a2 ws.length c2, .int .i64 tk, .int .i64 dr] 29)).alloc (.cells #[.slice none 0 0, .slice none 0 0, .int .i64 0, .int .i64 0] 29)).alloc (.cells #[.slice none 0 0, .slice none 0 0, .int .i64 tk, .int .i64 dr] 29)) = W) := ⟨_, rfl⟩
  rw [hw3.out] at HX0 HX1 HX2 HB3 ⊢
  obtain ⟨G0, hG0⟩ : ∃ G, Hid (w.heap.size = G) := ⟨_, rfl⟩
  obtain ⟨G1, hG1⟩ : ∃ G, Hid (w.heap.size + 1 = G) := ⟨_, rfl⟩
  obtain ⟨G2, hG2⟩ : ∃ G, Hid (w.heap.size + 1 + 1 = G) := ⟨_, rfl⟩
  rw [hG2.out, hG1.out, hG0.out]
  rw [hG2.out] at HX2
  rw [hG1.out] at HX1
  rw [hG0.out] at HX0
  have hn02 : G0 ≠ G2 := by have := hG0.out; have := hG2.out; omega
  have hn12 : G1 ≠ G2 := by have := hG1.out; have := hG2.out; omega
  -- the messages
  obtain ⟨a1', c1', w4, hap, R4, b4, B4⟩ := clone_i (c := c1) (hA.below HB3.out).r1 hv
  have q0 := (HX0.out.bel (below_al w3 (.cells #[] 2))).cells.1
  obtain ⟨u0, -, -, -⟩ := (HX2.out.bel b4).cells
  have u1 := (HX2.out.bel b4).fr 0
  have hap := hd hap
  go_upto_region 3 with (first | (at_builtin; refine wpList_append_run rfl _ _ _ rfl _ _ _ _ rfl rfl hap.out ?_; clear hap))
  obtain ⟨w5, hw5⟩ : ∃ W, Hid (w4.setCell ⟨G2, 0, none⟩ (.slice a1' vs.length c1') = W) := ⟨_, rfl⟩
  rw [hw5.out]
  have h12 : ∀ k, blk a1' = some k → k ≠ G2 := fun k hk e => by have := B4 k hk; have := HX2.out.lt; omega
  have HX0' : Hid (Box4 w5 29 G0 (.slice a1 vs.length c1) (.slice a2 ws.length c2) (.int .i64 tk) (.int .i64 dr)) := hd (by rw [← hw5.out]; exact (HX0.out.bel b4).set hn02 _ _)
  have HX1' : Hid (Box4 w5 29 G1 (.slice none 0 0) (.slice none 0 0) (.int .i64 0) (.int .i64 0)) := hd (by rw [← hw5.out]; exact (HX1.out.bel b4).set hn12 _ _)
  have HX2' : Hid (Box4 w5 29 G2 (.slice a1' vs.length c1') (.slice none 0 0) (.int .i64 tk) (.int .i64 dr)) := hd (by rw [← hw5.out]; exact (HX2.out.bel b4).put0 _)
  have HR5 : Hid (Row w5 2 1 a1' vs.length c1' (iC vs)) := hd (by rw [← hw5.out]; exact R4.kept (fun k hk => Below.heap_setCell _ _ _ _ (h12 k hk)))
  have HB5 : Hid (Below w.heap.size w w5) := hd (by rw [← hw5.out]; exact (HB3.out.trans (b4.mono HB3.out.size)).setCell (by have := hG2.out; simp only; omega) _)
  have HN5 : Hid (∀ k, blk a1' = some k → G2 < k) := hd (fun k hk => Nat.lt_of_lt_of_le HX2.out.lt (B4 k hk))
  clear HX0 HX1 HX2 HB3 R4 b4 B4 hap q0 u0 u1 hw5 hw3 h12
  -- those who wait
  obtain ⟨a2', c2', w6, hap, R6, b6, B6⟩ := clone_w (c := c2) (hA.below HB5.out).r2 hw
  have q1 := (HX0'.out.bel (below_al w5 (.cells #[] 52))).cells.2.1
  obtain ⟨-, u0, -, -⟩ := (HX2'.out.bel b6).cells
  have u1 := (HX2'.out.bel b6).fr 1
  have hap := hd hap
  go_upto_region 4 with (first | (at_builtin; refine wpList_append_run rfl _ _ _ rfl _ _ _ _ rfl rfl hap.out ?_; clear hap))
  obtain ⟨w7, hw7⟩ : ∃ W, Hid (w6.setCell ⟨G2, 1, none⟩ (.slice a2' ws.length c2') = W) := ⟨_, rfl⟩
  rw [hw7.out]
  have X1 : Box4 w7 29 G1 (.slice none 0 0) (.slice none 0 0) (.int .i64 0) (.int .i64 0) := by rw [← hw7.out]; exact (HX1'.out.bel b6).set hn12 _ _
  have X2 : Box4 w7 29 G2 (.slice a1' vs.length c1') (.slice a2' ws.length c2') (.int .i64 tk) (.int .i64 dr) := by rw [← hw7.out]; exact (HX2'.out.bel b6).put1 _
  have hlt2 := HX2'.out.lt
  have hR1 : Row w7 2 1 a1' vs.length c1' (iC vs) := by
    rw [← hw7.out]
    refine (HR5.out.below b6).kept (fun k hk => Below.heap_setCell _ _ _ _ (fun e => ?_))
    have := HN5.out k hk
    simp only at e
    omega
  have hR2 : Row w7 52 2 a2' ws.length c2' (wC ws) := by
    rw [← hw7.out]
    refine R6.kept (fun k hk => Below.heap_setCell _ _ _ _ (fun e => ?_))
    have := B6 k hk
    simp only at e
    omega
  have hB7 : Below w.heap.size w w7 := by rw [← hw7.out]; exact (HB5.out.trans (b6.mono HB5.out.size)).setCell (by have := hG2.out; simp only; omega) _
  obtain ⟨s0, s1, s2, s3⟩ := X2.cells
  obtain ⟨r0, r1, r2, r3⟩ := X1.cells
  have rf := X1.fr
  have X9 := (((X1.put0 (.slice a1' vs.length c1')).put1 (.slice a2' ws.length c2')).put2 (.int .i64 tk)).put3 (.int .i64 dr)
  have hk : ∀ k, k ≠ G1 → ((((w7.setCell ⟨G1, 0, none⟩ (.slice a1' vs.length c1')).setCell ⟨G1, 1, none⟩ (.slice a2' ws.length c2')).setCell ⟨G1, 2, none⟩ (.int .i64 tk)).setCell ⟨G1, 3, none⟩ (.int .i64 dr)).heap[k]? = w7.heap[k]? := fun k hk => by
    rw [Below.heap_setCell _ _ _ _ hk, Below.heap_setCell _ _ _ _ hk, Below.heap_setCell _ _ _ _ hk, Below.heap_setCell _ _ _ _ hk]
  have HFI : Hid (Q (.returned (.agg #[.slice a1' vs.length c1', .slice a2' ws.length c2', .int .i64 tk, .int .i64 dr])) ((((w7.setCell ⟨G1, 0, none⟩ (.slice a1' vs.length c1')).setCell ⟨G1, 1, none⟩ (.slice a2' ws.length c2')).setCell ⟨G1, 2, none⟩ (.int .i64 tk)).setCell ⟨G1, 3, none⟩ (.int .i64 dr))) := hd (by
    rw [← hQ.out]
    have hg1 := hG1.out
    have hg2 := hG2.out
    have hs5 := HB5.out.size
    refine ⟨a1', c1', a2', c2', rfl, hR1.kept (fun k hk' => hk k ?_), hR2.kept (fun k hk' => hk k ?_), fun k hk' => ?_, fun k hk' => ?_, fun k hk' e => ?_, ?_⟩
    · have := HN5.out k hk'; omega
    · have := B6 k hk'; omega
    · have := HN5.out k hk'; omega
    · have := B6 k hk'; omega
    · have := B6 k hk'
      have := HR5.out.lt k e
      omega
    · refine ((((hB7.setCell (p := ⟨G1, 0, none⟩) ?_ _).setCell (p := ⟨G1, 1, none⟩) ?_ _).setCell (p := ⟨G1, 2, none⟩) ?_ _).setCell (p := ⟨G1, 3, none⟩) ?_ _) <;> simp only <;> omega)
  obtain ⟨f0, f1, f2, f3⟩ := X9.cells
  clear X1 X2 X9 hk hR1 hR2 hB7 R6 b6 B6 HR5 HB5 HN5 HX0' HX1' HX2' hap q1 u0 u1 hw7
  go_wp2_with fail
  refine bodyPost_ret (by simp [results, Try.results7, go_sem, f0, f1, f2, f3]) rfl HFI.out
end Go.Proofs.Ytknklbojcnhjcaa
