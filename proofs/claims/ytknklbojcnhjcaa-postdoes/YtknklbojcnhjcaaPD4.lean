/- The law's step. -/
import Derived.Test.YtknklbojcnhjcaaPD3
namespace Go.Proofs.Ytknklbojcnhjcaa
open Go.RowKit

/-- What a step leaves. -/
def StepP (B : Nat) (w0 : World) (bl br : Nat) (ss' : List LS) (c' : Nat) (E : Ending) (w' : World) : Prop := E = .returned (.bool true) ∧ ∃ Fl Fr, PPair B w0 w' bl br ss' c' ss' c' Fl Fr
theorem below_same' {w w1 : World} (h : w1 = w) : Below w.heap.size w w1 := by rw [h]; exact below_same w

set_option maxRecDepth 100000 in
set_option maxHeartbeats 2000000 in
theorem step_put {B : Nat} {w0 w : World} {bl br : Nat} {ss : List LS} {cur : Nat} {Fl Fr : Nat → Prop} (h : PPair B w0 w bl br ss cur ss cur Fl Fr) (hg : GoodP ss cur) (_hn : totW ss ≤ 7000000000000) (lane p v : Int) :
    Calls Try.prog 15 #[.pointer (some ⟨bl, 0, none⟩), .pointer (some ⟨br, 0, none⟩), .agg #[.int .i64 1, .int .i64 lane, .int .i64 p, .int .i64 v]] w (StepP B w0 bl br (putP ss lane v).2 cur) := by
  have hb := below_al w (.cells #[.int .i64 1, .int .i64 lane, .int .i64 p, .int .i64 v] 43)
  have HP0 := hd (h.after hb)
  have HX0 : Hid (Box4 (w.alloc (.cells #[.int .i64 1, .int .i64 lane, .int .i64 p, .int .i64 v] 43)) 43 w.heap.size (.int .i64 1) (.int .i64 lane) (.int .i64 p) (.int .i64 v)) := hd ⟨heap_alloc_new _ _⟩
  have hgl : Hid (¬ Fl w.heap.size) := hd (fun hf => by have := h.l.lt _ hf; omega)
  have HG := hd hg
  have hn9 := hg.n2
  clear h hb hg
  obtain ⟨q0, q1, q2, q3⟩ := HX0.out.cells
  have hc1 := pput_any HP0.out.l HG.out lane v
  go_enter Try.func15, Try.ntmps15
  go_upto_region 4 with (first | (go_at_call 17; refine hc1.mono ?_; rintro e1 w1 ⟨rfl, O1⟩))
  obtain ⟨Fl1, P1, -⟩ := HP0.out.outL O1
  have X1 : Box4 w1 43 w.heap.size (.int .i64 1) (.int .i64 lane) (.int .i64 p) (.int .i64 v) := ⟨O1.box hgl.out HX0.out.obj⟩
  obtain ⟨r0, r1, r2, r3⟩ := X1.cells
  have hc2 := rpput_any P1.r HG.out lane v
  have HP1 := hd P1
  clear O1 P1 X1 q0 q1 q2 q3 hc1 HX0
  go_wp2_with (first | (go_at_call 25; refine hc2.mono ?_; rintro e2 w2 ⟨rfl, O2⟩))
  obtain ⟨Fr2, P2, -⟩ := HP1.out.outR O2
  go_ret
  exact ⟨by first | rfl | simp, _, _, P2⟩

set_option maxRecDepth 100000 in
set_option maxHeartbeats 2000000 in
theorem step_drop {B : Nat} {w0 w : World} {bl br : Nat} {ss : List LS} {cur : Nat} {Fl Fr : Nat → Prop} (h : PPair B w0 w bl br ss cur ss cur Fl Fr) (hg : GoodP ss cur) (_hn : totW ss ≤ 7000000000000) (lane p v : Int) :
    Calls Try.prog 15 #[.pointer (some ⟨bl, 0, none⟩), .pointer (some ⟨br, 0, none⟩), .agg #[.int .i64 2, .int .i64 lane, .int .i64 p, .int .i64 v]] w (StepP B w0 bl br (dropP ss lane) cur) := by
  have hb := below_al w (.cells #[.int .i64 2, .int .i64 lane, .int .i64 p, .int .i64 v] 43)
  have HP0 := hd (h.after hb)
  have HX0 : Hid (Box4 (w.alloc (.cells #[.int .i64 2, .int .i64 lane, .int .i64 p, .int .i64 v] 43)) 43 w.heap.size (.int .i64 2) (.int .i64 lane) (.int .i64 p) (.int .i64 v)) := hd ⟨heap_alloc_new _ _⟩
  have hgl : Hid (¬ Fl w.heap.size) := hd (fun hf => by have := h.l.lt _ hf; omega)
  have HG := hd hg
  have hn9 := hg.n2
  clear h hb hg
  obtain ⟨q0, q1, q2, q3⟩ := HX0.out.cells
  have hc1 := pdrop_any HP0.out.l HG.out lane
  go_enter Try.func15, Try.ntmps15
  go_upto_region 7 with (first | (go_at_call 26; refine hc1.mono ?_; rintro e1 w1 ⟨rfl, O1⟩))
  obtain ⟨Fl1, P1, -⟩ := HP0.out.outL O1
  have X1 : Box4 w1 43 w.heap.size (.int .i64 2) (.int .i64 lane) (.int .i64 p) (.int .i64 v) := ⟨O1.box hgl.out HX0.out.obj⟩
  obtain ⟨r0, r1, r2, r3⟩ := X1.cells
  have hc2 := rpdrop_any P1.r HG.out lane
  have HP1 := hd P1
  clear O1 P1 X1 q0 q1 q2 q3 hc1 HX0
  go_wp2_with (first | (go_at_call 27; refine hc2.mono ?_; rintro e2 w2 ⟨rfl, O2⟩))
  obtain ⟨Fr2, P2, -⟩ := HP1.out.outR O2
  go_ret
  exact ⟨by first | rfl | simp, _, _, P2⟩

set_option maxRecDepth 100000 in
set_option maxHeartbeats 2000000 in
theorem step_wait {B : Nat} {w0 w : World} {bl br : Nat} {ss : List LS} {cur : Nat} {Fl Fr : Nat → Prop} (h : PPair B w0 w bl br ss cur ss cur Fl Fr) (hg : GoodP ss cur) (hn : totW ss ≤ 7000000000000) (lane p v : Int) :
    Calls Try.prog 15 #[.pointer (some ⟨bl, 0, none⟩), .pointer (some ⟨br, 0, none⟩), .agg #[.int .i64 4, .int .i64 lane, .int .i64 p, .int .i64 v]] w (StepP B w0 bl br (waitP ss lane p v).2 cur) := by
  have hb := below_al w (.cells #[.int .i64 4, .int .i64 lane, .int .i64 p, .int .i64 v] 43)
  have HP0 := hd (h.after hb)
  have HX0 : Hid (Box4 (w.alloc (.cells #[.int .i64 4, .int .i64 lane, .int .i64 p, .int .i64 v] 43)) 43 w.heap.size (.int .i64 4) (.int .i64 lane) (.int .i64 p) (.int .i64 v)) := hd ⟨heap_alloc_new _ _⟩
  have hgl : Hid (¬ Fl w.heap.size) := hd (fun hf => by have := h.l.lt _ hf; omega)
  have HG := hd hg
  have hn9 := hg.n2
  clear h hb hg
  obtain ⟨q0, q1, q2, q3⟩ := HX0.out.cells
  have hc1 := pwait_any HP0.out.l HG.out (tot_few hn) lane p v
  go_enter Try.func15, Try.ntmps15
  go_upto_region 15 with (first | (go_at_call 29; refine hc1.mono ?_; rintro e1 w1 ⟨rfl, O1⟩))
  obtain ⟨Fl1, P1, -⟩ := HP0.out.outL O1
  have X1 : Box4 w1 43 w.heap.size (.int .i64 4) (.int .i64 lane) (.int .i64 p) (.int .i64 v) := ⟨O1.box hgl.out HX0.out.obj⟩
  obtain ⟨r0, r1, r2, r3⟩ := X1.cells
  have hc2 := rpwait_any P1.r HG.out (tot_few hn) lane p v
  have HP1 := hd P1
  clear O1 P1 X1 q0 q1 q2 q3 hc1 HX0
  go_wp2_with (first | (go_at_call 30; refine hc2.mono ?_; rintro e2 w2 ⟨rfl, O2⟩))
  obtain ⟨Fr2, P2, -⟩ := HP1.out.outR O2
  go_ret
  exact ⟨by first | rfl | simp, _, _, P2⟩

set_option maxRecDepth 100000 in
set_option maxHeartbeats 2000000 in
theorem step_leave {B : Nat} {w0 w : World} {bl br : Nat} {ss : List LS} {cur : Nat} {Fl Fr : Nat → Prop} (h : PPair B w0 w bl br ss cur ss cur Fl Fr) (hg : GoodP ss cur) (hn : totW ss ≤ 7000000000000) (lane p v : Int) :
    Calls Try.prog 15 #[.pointer (some ⟨bl, 0, none⟩), .pointer (some ⟨br, 0, none⟩), .agg #[.int .i64 5, .int .i64 lane, .int .i64 p, .int .i64 v]] w (StepP B w0 bl br (leaveP ss p).2 cur) := by
  have hb := below_al w (.cells #[.int .i64 5, .int .i64 lane, .int .i64 p, .int .i64 v] 43)
  have HP0 := hd (h.after hb)
  have HX0 : Hid (Box4 (w.alloc (.cells #[.int .i64 5, .int .i64 lane, .int .i64 p, .int .i64 v] 43)) 43 w.heap.size (.int .i64 5) (.int .i64 lane) (.int .i64 p) (.int .i64 v)) := hd ⟨heap_alloc_new _ _⟩
  have hgl : Hid (¬ Fl w.heap.size) := hd (fun hf => by have := h.l.lt _ hf; omega)
  have HG := hd hg
  have hn9 := hg.n2
  clear h hb hg
  obtain ⟨q0, q1, q2, q3⟩ := HX0.out.cells
  have hc1 := pleave_any HP0.out.l hn9 hn p
  go_enter Try.func15, Try.ntmps15
  go_upto_region 18 with (first | (go_at_call 31; refine hc1.mono ?_; rintro e1 w1 ⟨rfl, O1⟩))
  obtain ⟨Fl1, P1, -⟩ := HP0.out.outL O1
  have X1 : Box4 w1 43 w.heap.size (.int .i64 5) (.int .i64 lane) (.int .i64 p) (.int .i64 v) := ⟨O1.box hgl.out HX0.out.obj⟩
  obtain ⟨r0, r1, r2, r3⟩ := X1.cells
  have hc2 := rpleave_any P1.r hn9 hn p
  have HP1 := hd P1
  clear O1 P1 X1 q0 q1 q2 q3 hc1 HX0
  go_wp2_with (first | (go_at_call 32; refine hc2.mono ?_; rintro e2 w2 ⟨rfl, O2⟩))
  obtain ⟨Fr2, P2, -⟩ := HP1.out.outR O2
  go_ret
  exact ⟨by first | rfl | simp, _, _, P2⟩

set_option maxRecDepth 100000 in
set_option maxHeartbeats 2000000 in
theorem step_take {B : Nat} {w0 w : World} {bl br : Nat} {ss : List LS} {cur : Nat} {Fl Fr : Nat → Prop} (h : PPair B w0 w bl br ss cur ss cur Fl Fr) (hg : GoodP ss cur) (hn : totW ss ≤ 7000000000000) (lane p v : Int) :
    Calls Try.prog 15 #[.pointer (some ⟨bl, 0, none⟩), .pointer (some ⟨br, 0, none⟩), .agg #[.int .i64 3, .int .i64 lane, .int .i64 p, .int .i64 v]] w (StepP B w0 bl br (takeP ss cur).2.1 (takeP ss cur).2.2) := by
  have hb := below_al w (.cells #[.int .i64 3, .int .i64 lane, .int .i64 p, .int .i64 v] 43)
  have HP0 := hd (h.after hb)
  have HX0 : Hid (Box4 (w.alloc (.cells #[.int .i64 3, .int .i64 lane, .int .i64 p, .int .i64 v] 43)) 43 w.heap.size (.int .i64 3) (.int .i64 lane) (.int .i64 p) (.int .i64 v)) := hd ⟨heap_alloc_new _ _⟩
  have hgl : Hid (¬ Fl w.heap.size) := hd (fun hf => by have := h.l.lt _ hf; omega)
  have HG := hd hg
  have hn9 := hg.n2
  clear h hb hg
  obtain ⟨q0, q1, q2, q3⟩ := HX0.out.cells
  have hc1 := ptake_any HP0.out.l HG.out (tot_few (by omega))
  unfold ptkV at hc1
  obtain ⟨⟨tv, tl, ⟨tp, tx⟩, tt, te⟩, ht⟩ : ∃ t, Hid ((takeP ss cur).1 = t) := ⟨_, rfl⟩
  rw [ht.out] at hc1
  simp only at hc1
  go_enter Try.func15, Try.ntmps15
  go_upto_region 11 with (first | (go_at_call 18; refine hc1.mono ?_; rintro e1 w1 ⟨rfl, O1⟩))
  obtain ⟨Fl1, P1, -⟩ := HP0.out.outL O1
  have b1 := below_al w1 (.cells #[.int .i64 tp, .int .i64 tx] 52)
  have HP1 := hd (P1.after b1)
  have HY1 : Hid (Box2 (w1.alloc (.cells #[.int .i64 tp, .int .i64 tx] 52)) 52 w1.heap.size tp tx) := hd (box_new _ _ _ _)
  have hgr : Hid (¬ Fr w1.heap.size) := hd (fun hf => by have := P1.r.lt _ hf; omega)
  obtain ⟨wA, hwA⟩ : ∃ W, Hid (w1.alloc (.cells #[.int .i64 tp, .int .i64 tx] 52) = W) := ⟨_, rfl⟩
  obtain ⟨G, hG⟩ : ∃ G, Hid (w1.heap.size = G) := ⟨_, rfl⟩
  rw [hwA.out] at HP1 HY1 ⊢
  rw [hG.out] at HY1 hgr ⊢
  clear O1 P1 q0 q1 q2 q3 hc1 HX0 b1 hwA hG
  have hc2 := rptake_any HP1.out.r HG.out (tot_few (by omega))
  unfold ptkV at hc2
  rw [ht.out] at hc2
  simp only at hc2
  go_upto_region 12 with (first | (go_at_call 28; refine hc2.mono ?_; rintro e2 w2 ⟨rfl, O2⟩))
  obtain ⟨Fr2, P2, -⟩ := HP1.out.outR O2
  have b2 := below_al w2 (.cells #[.int .i64 tp, .int .i64 tx] 52)
  have HY2 : Hid (Box2 w2 52 G tp tx) := hd ⟨O2.box hgr.out HY1.out.obj⟩
  have HP2 := hd (P2.after b2)
  have Y2 := HY2.out.bel b2
  have u0 := Y2.c0
  have u1 := Y2.c1
  clear O2 P2 hc2 HY1 Y2 b2
  go_wp2_with fail
  go_ret
  exact ⟨by first | rfl | simp, _, _, HP2.out⟩

set_option maxRecDepth 100000 in
set_option maxHeartbeats 2000000 in
theorem step_some {B : Nat} {w0 w : World} {bl br : Nat} {ss : List LS} {cur : Nat} {Fl Fr : Nat → Prop} (h : PPair B w0 w bl br ss cur ss cur Fl Fr) (hg : GoodP ss cur) (_hn : totW ss ≤ 7000000000000) (k lane p v : Int) (hk : ¬ (1 ≤ k ∧ k ≤ 6)) :
    Calls Try.prog 15 #[.pointer (some ⟨bl, 0, none⟩), .pointer (some ⟨br, 0, none⟩), .agg #[.int .i64 k, .int .i64 lane, .int .i64 p, .int .i64 v]] w (StepP B w0 bl br ss cur) := by
  have hb := below_al w (.cells #[.int .i64 k, .int .i64 lane, .int .i64 p, .int .i64 v] 43)
  have HP0 := hd (h.after hb)
  have HX0 : Hid (Box4 (w.alloc (.cells #[.int .i64 k, .int .i64 lane, .int .i64 p, .int .i64 v] 43)) 43 w.heap.size (.int .i64 k) (.int .i64 lane) (.int .i64 p) (.int .i64 v)) := hd ⟨heap_alloc_new _ _⟩
  have hgl : Hid (¬ Fl w.heap.size) := hd (fun hf => by have := h.l.lt _ hf; omega)
  have HG := hd hg
  have hn9 := hg.n2
  have n1 : (k == 1) = false := by simp; omega
  have n2 : (k == 2) = false := by simp; omega
  have n3 : (k == 3) = false := by simp; omega
  have n4 : (k == 4) = false := by simp; omega
  have n5 : (k == 5) = false := by simp; omega
  have n6 : (k == 6) = false := by simp; omega
  clear h hb hg hk
  obtain ⟨q0, q1, q2, q3⟩ := HX0.out.cells
  have hc1 := psome_any HP0.out.l hn9
  obtain ⟨S, hS⟩ : ∃ S, Hid (someP ss = S) := ⟨_, rfl⟩
  rw [hS.out] at hc1
  go_enter Try.func15, Try.ntmps15
  go_upto_region 30 with (first | (go_at_call 19; refine hc1.mono ?_; rintro e1 w1 ⟨rfl, b1⟩))
  have HP1 := hd (HP0.out.after b1)
  have hc2 := rpsome_any HP1.out.r hn9
  rw [hS.out] at hc2
  clear b1 q0 q1 q2 q3 hc1 HX0
  go_wp2_with (first | (go_at_call 35; refine hc2.mono ?_; rintro e2 w1 ⟨rfl, rfl⟩))
  go_ret
  exact ⟨by first | rfl | simp, _, _, HP1.out⟩

/-- A row of one's own beside the lanes. -/
structure PRow (B : Nat) (w0 w : World) (bl br : Nat) (ss : List LS) (cur : Nat) (Fl Fr : Nat → Prop) (a : Option Addr) (n c : Nat) (xs : List Value) : Prop where
  two : PPair B w0 w bl br ss cur ss cur Fl Fr
  row : Row w 52 2 a n c xs
  nl : ∀ k, blk a = some k → ¬ Fl k ∧ ¬ Fr k ∧ B ≤ k
theorem PRow.put {B : Nat} {w0 w : World} {bl br : Nat} {ss : List LS} {cur : Nat} {Fl Fr : Nat → Prop} {g n c : Nat} {xs : List Value} (h : PRow B w0 w bl br ss cur Fl Fr (some ⟨g, 0, none⟩) n c xs) (j : Nat) (u : Value) : PRow B w0 (w.setCell ⟨g, j, none⟩ u) bl br ss cur Fl Fr (some ⟨g, 0, none⟩) n c (xs.set j u) := by
  obtain ⟨h1, h2, h3⟩ := h.nl g rfl
  exact ⟨h.two.mod (S := fun k => k = g) ⟨rfl, rfl, rfl, by simp [World.setCell], fun k _ hk => Below.heap_setCell _ _ _ _ hk⟩ (fun k e => e ▸ h1) (fun k e => e ▸ h2) (fun k e => e ▸ h3), h.row.put j u, h.nl⟩
theorem PRow.bel {B : Nat} {w0 w w' : World} {bl br : Nat} {ss : List LS} {cur : Nat} {Fl Fr : Nat → Prop} {a : Option Addr} {n c : Nat} {xs : List Value} (h : PRow B w0 w bl br ss cur Fl Fr a n c xs) (hb : Below w.heap.size w w') : PRow B w0 w' bl br ss cur Fl Fr a n c xs := ⟨h.two.after hb, h.row.below hb, h.nl⟩
theorem wset_at (xs : List Value) (i : Nat) (u v : Value) (j : Nat) (h : i < j) : ((xs.set (i * 2) u).set (i * 2 + 1) v)[j * 2]? = xs[j * 2]? ∧ ((xs.set (i * 2) u).set (i * 2 + 1) v)[j * 2 + 1]? = xs[j * 2 + 1]? := by
  rw [List.getElem?_set_ne (by omega), List.getElem?_set_ne (by omega), List.getElem?_set_ne (by omega), List.getElem?_set_ne (by omega)]
  exact ⟨rfl, rfl⟩

set_option maxRecDepth 100000 in
set_option maxHeartbeats 2000000 in
theorem step_end {B : Nat} {w0 w : World} {bl br : Nat} {ss : List LS} {cur : Nat} {Fl Fr : Nat → Prop} (h : PPair B w0 w bl br ss cur ss cur Fl Fr) (hg : GoodP ss cur) (hn : totW ss ≤ 7000000000000) (lane p v : Int) :
    Calls Try.prog 15 #[.pointer (some ⟨bl, 0, none⟩), .pointer (some ⟨br, 0, none⟩), .agg #[.int .i64 6, .int .i64 lane, .int .i64 p, .int .i64 v]] w (StepP B w0 bl br (endP ss).2 cur) := by
  have hb := below_al w (.cells #[.int .i64 6, .int .i64 lane, .int .i64 p, .int .i64 v] 43)
  have HP0 := hd (h.after hb)
  have HX0 : Hid (Box4 (w.alloc (.cells #[.int .i64 6, .int .i64 lane, .int .i64 p, .int .i64 v] 43)) 43 w.heap.size (.int .i64 6) (.int .i64 lane) (.int .i64 p) (.int .i64 v)) := hd ⟨heap_alloc_new _ _⟩
  have hgl : Hid (¬ Fl w.heap.size) := hd (fun hf => by have := h.l.lt _ hf; omega)
  have HG := hd hg
  have hn9 := hg.n2
  clear h hb hg
  obtain ⟨q0, q1, q2, q3⟩ := HX0.out.cells
  have hc1 := pend_any HP0.out.l hn9 hn
  have hM7 : (endP ss).1.length ≤ 7000000000000 := hn
  obtain ⟨EW, hEW⟩ : ∃ EW, Hid ((endP ss).1 = EW) := ⟨_, rfl⟩
  obtain ⟨M, hM⟩ : ∃ M, Hid (EW.length = M) := ⟨_, rfl⟩
  rw [hEW.out, hM.out] at hM7
  go_enter Try.func15, Try.ntmps15
  go_upto_region 20 with fail
  obtain ⟨wA, hwA⟩ : ∃ W, Hid (w.alloc (.cells #[.int .i64 6, .int .i64 lane, .int .i64 p, .int .i64 v] 43) = W) := ⟨_, rfl⟩
  rw [hwA.out] at HP0 hc1 ⊢
  clear q0 q1 q2 q3 HX0 hwA
  go_upto_region 21 with (first | (go_at_call 33; refine hc1.mono ?_; rintro e1 w1 ⟨a1, c1, rfl, R1, G1, M1, F1, P1, N1, D1⟩))
  have hPP : PPair B w0 w1 bl br (endP ss).2 cur ss cur F1 Fr := by
    obtain ⟨Fl2, h2, h3⟩ := HP0.out.outL (s' := (endP ss).2) (c' := cur) (w' := w1) ⟨M1, F1, P1, N1⟩
    refine ⟨P1, h2.r, fun k hk hf => ?_, fun k hk => ?_, HP0.out.nr, h2.bel, h2.le⟩
    · rcases N1 k hk with h4 | h4
      · exact HP0.out.ap k h4 hf
      · have := HP0.out.r.lt k hf; omega
    · rcases N1 k hk with h4 | h4
      · exact HP0.out.nl k h4
      · exact Nat.le_trans HP0.out.le h4
  have HPP := hd hPP
  have HR1 := hd R1
  have HG1 := hd G1
  have HD1 := hd D1
  have hc2 := rpend_any hPP.r hn9 hn
  rw [hEW.out, hM.out] at HR1 ⊢
  clear R1 G1 M1 P1 N1 D1 hc1 hPP
  go_upto_region 22 with (first | (go_at_call 34; refine hc2.mono ?_; rintro e2 w2 ⟨a2, c2, rfl, R2, G2, M2, F2, P2, N2, D2⟩))
  have HRR : Hid (PRow B w0 w2 bl br (endP ss).2 cur F1 F2 a1 M c1 (wC EW)) := hd (by
    have ha : ∀ k, blk a1 = some k → ¬ Fr k := fun k hk hf => by have := HG1.out k hk; have := HP0.out.r.lt k hf; omega
    have hlt : ∀ k, blk a1 = some k → k < w1.heap.size := fun k hk => HR1.out.lt k hk
    refine ⟨⟨HPP.out.l.mod M2 (fun k hk hf => HPP.out.ap k hk hf), P2, fun k hk hf => ?_, HPP.out.nl, fun k hk => ?_, HPP.out.bel.trans (M2.below HPP.out.le (fun k _ hk => HPP.out.nr k hk)), Nat.le_trans HPP.out.le M2.size⟩, HR1.out.mod M2 (fun k hk hf => ha k hk hf), fun k hk => ⟨HD1.out k hk, fun hf => ?_, Nat.le_trans HP0.out.le (HG1.out k hk)⟩⟩
    · rcases N2 k hf with h4 | h4
      · exact HPP.out.ap k hk h4
      · have := HPP.out.l.lt k hk; omega
    · rcases N2 k hk with h4 | h4
      · exact HPP.out.nr k h4
      · exact Nat.le_trans HPP.out.le h4
    · rcases N2 k hf with h4 | h4
      · exact ha k hk h4
      · have := hlt k hk; omega)
  have HD2 : Hid (Rd w2 a2 (wC EW)) := hd (by rw [← hEW.out]; exact R2.rd)
  have hdg : Hid (∀ k, blk a2 = some k → blk a1 ≠ some k) := hd (fun k hk e => by have := HR1.out.lt k e; have := G2 k hk; omega)
  rw [hEW.out, hM.out]
  clear R2 G2 M2 P2 N2 D2 HR1 HPP hc2
  go_wp2_with fail
  go_loopg [22, 23] M (fun k v22 v23 wr => ∃ i : Nat, v23 = .int .i64 (i : Int) ∧ v22 = .bool true ∧ i + k = M ∧ Hid (Rd wr a2 (wC EW) ∧ ∃ xs, PRow B w0 wr bl br (endP ss).2 cur F1 F2 a1 M c1 xs ∧ ∀ j, i ≤ j → j < M → xs[j * 2]? = some (.int .i64 (EW.getD j (0, 0)).1) ∧ xs[j * 2 + 1]? = some (.int .i64 (EW.getD j (0, 0)).2)))
  case atStart => exact ⟨0, rfl, by first | rfl | simp, by omega, hd ⟨HD2.out, _, HRR.out, fun j _ hj => wC_at EW j (by have := hM.out; omega)⟩⟩
  case round =>
    obtain ⟨i, rfl, rfl, hik, HH⟩ := hrel
    clear HRR HD2
    obtain ⟨HR, xs, HX, HE⟩ := HH.out
    replace HR := hd HR
    replace HX := hd HX
    replace HE := hd HE
    clear HH
    by_cases hlt : i < M
    · have hlt' : (i : Int) < (M : Int) := by omega
      obtain ⟨bb, oo, rfl, y0, y1⟩ := rd_w HR.out i (by have := hM.out; omega)
      obtain ⟨g, rfl⟩ := HX.out.row.head (by omega)
      obtain ⟨g', eg, x0⟩ := HX.out.row.cell (i * 2) (by omega)
      cases eg
      obtain ⟨g', eg, x1⟩ := HX.out.row.cell (i * 2 + 1) (by omega)
      cases eg
      rw [(HE.out i (Nat.le_refl _) hlt).1] at x0
      rw [(HE.out i (Nat.le_refl _) hlt).2] at x1
      obtain ⟨⟨zp, zv⟩, hz⟩ : ∃ z, Hid (EW.getD i (0, 0) = z) := ⟨_, rfl⟩
      rw [hz.out] at x0 x1 y0 y1
      simp only at x0 x1 y0 y1
      have xf := fun j => HX.out.row.free j g rfl
      have hbg : bb ≠ g := fun e => hdg.out bb rfl (by rw [e]; rfl)
      go_wp2_with fail
      go_quiet (fail)
      obtain ⟨w3, hw3⟩ : ∃ W, Hid (wr.drewN nq = W) := ⟨_, rfl⟩
      have b3 : Below wr.heap.size wr w3 := by rw [← hw3.out]; exact below_drewN (below_same wr) _
      rw [hw3.out]
      have hgl2 : g < wr.heap.size := HX.out.row.lt g rfl
      have x0' := (b3.cell (p := ⟨g, i * 2, none⟩) hgl2).trans x0
      have x1' := (b3.cell (p := ⟨g, i * 2 + 1, none⟩) hgl2).trans x1
      have xf' : ∀ j, w3.frozen? ⟨g, j, none⟩ = false := fun j => (b3.frozen (p := ⟨g, j, none⟩) hgl2).trans (xf j)
      have HX' := hd (((HX.out.bel b3).put (i * 2) (.int .i64 (-9))).put (i * 2 + 1) (.int .i64 0))
      have HR' : Hid (Rd ((w3.setCell ⟨g, i * 2, none⟩ (.int .i64 (-9))).setCell ⟨g, i * 2 + 1, none⟩ (.int .i64 0)) (some ⟨bb, oo, none⟩) (wC EW)) := hd ((HR.out.below b3).mod (S := fun k => k = g) (fun k hk _ e => hdg.out k hk (by rw [e]; rfl)) (((Mod.refl (fun k => k = g) w3).setCell (.inl rfl) _).setCell (.inl rfl) _))
      have HE' : Hid (∀ j, i + 1 ≤ j → j < M → ((xs.set (i * 2) (.int .i64 (-9))).set (i * 2 + 1) (.int .i64 0))[j * 2]? = some (.int .i64 (EW.getD j (0, 0)).1) ∧ ((xs.set (i * 2) (.int .i64 (-9))).set (i * 2 + 1) (.int .i64 0))[j * 2 + 1]? = some (.int .i64 (EW.getD j (0, 0)).2)) := hd (fun j hj hjM => by
        obtain ⟨k1, k2⟩ := wset_at xs i (.int .i64 (-9)) (.int .i64 0) j (by omega)
        rw [k1, k2]
        exact HE.out j (by omega) hjM)
      clear x0 x1 y0 y1 xf HX HE HR b3 hw3
      go_wp2_with fail
      go_roundg (gk - 1)
      case measure => omega
      case rel => exact ⟨i + 1, by go_num, rfl, by omega, hd ⟨HR'.out, _, HX'.out, HE'.out⟩⟩
    · have hltd : decide ((i : Int) < (M : Int)) = false := by simp; omega
      have hle : (M : Int) ≤ (i : Int) := by omega
      clear HR HE
      go_wp2_with fail
      go_ret
      exact ⟨by first | rfl | simp, _, _, HX.out.two⟩

def stepS (ss : List LS) (cur : Nat) (k lane p v : Int) : List LS × Nat :=
  if k = 1 then ((putP ss lane v).2, cur) else if k = 2 then (dropP ss lane, cur) else if k = 3 then ((takeP ss cur).2.1, (takeP ss cur).2.2) else if k = 4 then ((waitP ss lane p v).2, cur) else if k = 5 then ((leaveP ss p).2, cur) else if k = 6 then ((endP ss).2, cur) else (ss, cur)
theorem GoodP.step {ss : List LS} {cur : Nat} (h : GoodP ss cur) (k lane : Int) {p : Int} (hp : Fit64 p) (v : Int) : GoodP (stepS ss cur k lane p v).1 (stepS ss cur k lane p v).2 := by
  unfold stepS
  split
  · exact h.put lane v
  · split
    · exact h.drop lane
    · split
      · exact h.take
      · split
        · exact h.wait lane hp v
        · split
          · exact h.leave p
          · split
            · exact h.over
            · exact h

theorem tot_set {ss : List LS} {i : Nat} {s : LS} {d : Nat} (hi : i < ss.length) (h : s.ws.length ≤ (lnOf ss i).ws.length + d) : totW (ss.set i s) ≤ totW ss + d := by
  unfold totW
  induction ss generalizing i with
  | nil => simp at hi
  | cons x r ih =>
    cases i with
    | zero =>
      simp only [List.set_cons_zero, List.flatMap_cons, List.length_append]
      simp only [lnOf, List.getD_cons_zero] at h
      omega
    | succ i =>
      have := ih (i := i) (by simpa using hi) (by simpa [lnOf] using h)
      simp only [List.set_cons_succ, List.flatMap_cons, List.length_append]
      omega
theorem tot_map {ss : List LS} {f : LS → LS} (h : ∀ s, (f s).ws.length ≤ s.ws.length) : totW (ss.map f) ≤ totW ss := by
  unfold totW
  induction ss with
  | nil => simp
  | cons x r ih =>
    simp only [List.map_cons, List.flatMap_cons, List.length_append]
    have := h x
    omega
theorem tot_step (ss : List LS) (cur : Nat) (k lane p v : Int) : totW (stepS ss cur k lane p v).1 ≤ totW ss + 1 := by
  unfold stepS
  split
  · unfold putP
    split
    · rename_i hi
      have hi : 0 ≤ lane ∧ lane < (ss.length : Int) := by simpa [isP] using hi
      have := tot_set (ss := ss) (i := lane.toNat) (s := (putL (lnOf ss lane.toNat) v).2) (d := 0) (by omega) (by rw [(put_ws _ v).1]; omega)
      simp only
      omega
    · simp
  · split
    · unfold dropP
      split
      · rename_i hi
        have hi : 0 ≤ lane ∧ lane < (ss.length : Int) := by simpa [isP] using hi
        have := tot_set (ss := ss) (i := lane.toNat) (s := dropL (lnOf ss lane.toNat)) (d := 0) (by omega) (by simp [dropL])
        simp only
        omega
      · simp
    · split
      · rcases takeP_cases ss cur with hnn | ⟨m, hm, hne, hb⟩
        · rw [takeP_none hnn]; simp
        · rw [takeP_some rfl hm hne hb]
          have := tot_set (ss := ss) (i := rnd ss.length cur m) (s := (takeL (lnOf ss (rnd ss.length cur m))).2) (d := 0) (rnd_lt (by omega)) (take_ws _).1
          simp only
          omega
      · split
        · unfold waitP
          split
          · rename_i hi
            have hi : 0 ≤ lane ∧ lane < (ss.length : Int) := by simpa [isP] using hi
            split
            · simp
            · exact tot_set (ss := ss) (i := lane.toNat) (by omega) (wait_ws _ p v).1
          · simp
        · split
          · have := tot_map (ss := ss) (f := fun s => (leaveL s p).2) (fun s => (leave_ws s p).1)
            unfold leaveP
            simp only
            omega
          · split
            · have := tot_map (ss := ss) (f := endL) (fun s => by simp [endL])
              unfold endP
              simp only
              omega
            · simp

theorem pstep_any {B : Nat} {w0 w : World} {bl br : Nat} {ss : List LS} {cur : Nat} {Fl Fr : Nat → Prop} (h : PPair B w0 w bl br ss cur ss cur Fl Fr) (hg : GoodP ss cur) (hn : totW ss ≤ 7000000000000) (k lane p v : Int) :
    Calls Try.prog 15 #[.pointer (some ⟨bl, 0, none⟩), .pointer (some ⟨br, 0, none⟩), .agg #[.int .i64 k, .int .i64 lane, .int .i64 p, .int .i64 v]] w (StepP B w0 bl br (stepS ss cur k lane p v).1 (stepS ss cur k lane p v).2) := by
  unfold stepS
  split
  · rename_i e; subst e; exact step_put h hg hn lane p v
  · split
    · rename_i e; subst e; exact step_drop h hg hn lane p v
    · split
      · rename_i e; subst e; exact step_take h hg hn lane p v
      · split
        · rename_i e; subst e; exact step_wait h hg hn lane p v
        · split
          · rename_i e; subst e; exact step_leave h hg hn lane p v
          · split
            · rename_i e; subst e; exact step_end h hg hn lane p v
            · exact step_some h hg hn k lane p v (by omega)
end Go.Proofs.Ytknklbojcnhjcaa
