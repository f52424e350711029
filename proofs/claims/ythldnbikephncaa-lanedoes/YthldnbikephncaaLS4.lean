/- The law's own: step. -/
import Derived.Test.YthldnbikephncaaLS3
namespace Go.Proofs.Ythldnbikephncaa
open Go.RowKit

/-- Two lanes, each as it stands; they share nothing. -/
structure Pair (B : Nat) (w0 w : World) (bl br : Nat) (sl sr : LS) (Fl Fr : Nat → Prop) : Prop where
  l : Ln w 60 bl Fl sl
  r : Ln w 62 br Fr sr
  ap : ∀ k, Fl k → ¬ Fr k
  nl : ∀ k, Fl k → B ≤ k
  nr : ∀ k, Fr k → B ≤ k
  bel : Below B w0 w
  le : B ≤ w.heap.size
section
variable {B : Nat} {w0 w w' : World} {bl br : Nat} {s sl sr : LS} {Fl Fr : Nat → Prop}
theorem Two.pair (h : Two B w0 w bl br s Fl Fr) : Pair B w0 w bl br s s Fl Fr := ⟨h.l, h.r, h.ap, h.nl, h.nr, h.bel, h.le⟩
theorem Pair.two (h : Pair B w0 w bl br s s Fl Fr) : Two B w0 w bl br s Fl Fr := ⟨h.l, h.r, h.ap, h.nl, h.nr, h.bel, h.le⟩
theorem Pair.after (h : Pair B w0 w bl br sl sr Fl Fr) (hb : Below w.heap.size w w') : Pair B w0 w' bl br sl sr Fl Fr :=
  ⟨h.l.below hb, h.r.below hb, h.ap, h.nl, h.nr, h.bel.trans (hb.mono h.le), Nat.le_trans h.le hb.size⟩
theorem Pair.outL (h : Pair B w0 w bl br sl sr Fl Fr) {s' : LS} (ho : LnOut w 60 bl Fl s' w') : ∃ Fl', Pair B w0 w' bl br s' sr Fl' Fr := by
  obtain ⟨hm, F', h1, h2⟩ := ho
  refine ⟨F', h1, h.r.mod hm (fun k hk hf => h.ap k hf hk), fun k hk hf => ?_, fun k hk => ?_, h.nr, h.bel.trans (hm.below h.le (fun k _ hk => h.nl k hk)), Nat.le_trans h.le hm.size⟩
  · rcases h2 k hk with h3 | h3
    · exact h.ap k h3 hf
    · have := h.r.lt k hf; omega
  · rcases h2 k hk with h3 | h3
    · exact h.nl k h3
    · exact Nat.le_trans h.le h3
theorem Pair.outR (h : Pair B w0 w bl br sl sr Fl Fr) {s' : LS} (ho : LnOut w 62 br Fr s' w') : ∃ Fr', Pair B w0 w' bl br sl s' Fl Fr' := by
  obtain ⟨hm, F', h1, h2⟩ := ho
  refine ⟨F', h.l.mod hm (fun k hk hf => h.ap k hk hf), h1, fun k hk hf => ?_, h.nl, fun k hk => ?_, h.bel.trans (hm.below h.le (fun k _ hk => h.nr k hk)), Nat.le_trans h.le hm.size⟩
  · rcases h2 k hf with h3 | h3
    · exact h.ap k hk h3
    · have := h.l.lt k hk; omega
  · rcases h2 k hk with h3 | h3
    · exact h.nr k h3
    · exact Nat.le_trans h.le h3
/-- A block that is new beside the lanes stays as it is while they are changed. -/
theorem LnOut.box {T : TypeId} {b : Nat} {F : Nat → Prop} {s' : LS} {G : Nat} {t : TypeId} {cs : Array Value} (ho : LnOut w T b F s' w') (hg : ¬ F G) (hx : w.heap[G]? = some (.cells cs t (0, 0))) : w'.heap[G]? = some (.cells cs t (0, 0)) := by
  rw [ho.1.block G (Array.getElem?_eq_some_iff.1 hx).1 hg]
  exact hx
end

def stepL (s : LS) (k p v : Int) : LS :=
  if k = 1 then (putL s v).2 else if k = 2 then dropL s else if k = 3 then (takeL s).2 else if k = 4 then (waitL s p v).2 else if k = 5 then (leaveL s p).2 else if k = 6 then endL s else s
theorem Good.step {s : LS} (h : Good s) (k : Int) {p : Int} (hp : Fit64 p) (v : Int) : Good (stepL s k p v) := by
  unfold stepL
  split
  · exact h.put v
  split
  · exact h.drop
  split
  · exact h.take
  split
  · exact h.wait hp v
  split
  · exact h.leave p
  split
  · exact h.over
  · exact h
theorem step_ws (s : LS) (k p v : Int) : (stepL s k p v).ws.length ≤ s.ws.length + 1 ∧ (stepL s k p v).room = s.room := by
  unfold stepL
  split
  · rw [(put_ws s v).1, (put_ws s v).2]; exact ⟨by omega, rfl⟩
  split
  · exact ⟨by simp [dropL], rfl⟩
  split
  · have := take_ws s; exact ⟨by omega, this.2⟩
  split
  · exact wait_ws s p v
  split
  · have := leave_ws s p; exact ⟨by omega, this.2⟩
  split
  · exact ⟨by simp [endL], rfl⟩
  · exact ⟨by omega, rfl⟩

/-- Three cells of a step at a block. -/
structure Box3 (w : World) (t : TypeId) (G : Nat) (x y z : Int) : Prop where
  obj : w.heap[G]? = some (.cells #[.int .i64 x, .int .i64 y, .int .i64 z] t (0, 0))
theorem Box3.cells {w : World} {t : TypeId} {G : Nat} {x y z : Int} (h : Box3 w t G x y z) : w.cell? ⟨G, 0, none⟩ = some (.int .i64 x) ∧ w.cell? ⟨G, 1, none⟩ = some (.int .i64 y) ∧ w.cell? ⟨G, 2, none⟩ = some (.int .i64 z) := by
  refine ⟨?_, ?_, ?_⟩ <;> (rw [cell_of_row _ _ _ _ _ _ h.obj]; rfl)

/-- What a step leaves. -/
def StepOut (B : Nat) (w0 : World) (bl br : Nat) (s' : LS) (E : Ending) (w' : World) : Prop := E = .returned (.bool true) ∧ ∃ Fl Fr, Two B w0 w' bl br s' Fl Fr

set_option maxRecDepth 100000 in
set_option maxHeartbeats 2000000 in
theorem step_put {B : Nat} {w0 w : World} {bl br : Nat} {s : LS} {Fl Fr : Nat → Prop} (h : Two B w0 w bl br s Fl Fr) (hg : Good s) (_hn : s.ws.length ≤ 7000000000000) (p v : Int) :
    Calls Try.prog 14 #[.pointer (some ⟨bl, 0, none⟩), .pointer (some ⟨br, 0, none⟩), .agg #[.int .i64 1, .int .i64 p, .int .i64 v]] w (StepOut B w0 bl br (putL s v).2) := by
  have hb := below_al w (.cells #[.int .i64 1, .int .i64 p, .int .i64 v] 41)
  have HP0 := hd (h.after hb).pair
  have HX0 : Hid (Box3 (w.alloc (.cells #[.int .i64 1, .int .i64 p, .int .i64 v] 41)) 41 w.heap.size 1 p v) := hd ⟨heap_alloc_new _ _⟩
  have hgl : Hid (¬ Fl w.heap.size) := hd (fun hf => by have := h.l.lt _ hf; omega)
  have HG := hd hg
  clear h hb hg
  obtain ⟨q0, q1, q2⟩ := HX0.out.cells
  have hc1 := put_any HP0.out.l HG.out v
  go_enter Try.func14, Try.ntmps14
  go_upto_region 4 with (first | (go_at_call 16; refine hc1.mono ?_; rintro e1 w1 ⟨rfl, O1⟩))
  obtain ⟨Fl1, P1⟩ := HP0.out.outL O1
  have X1 : Box3 w1 41 w.heap.size 1 p v := ⟨O1.box hgl.out HX0.out.obj⟩
  obtain ⟨r0, r1, r2⟩ := X1.cells
  have hc2 := rput_any P1.r HG.out v
  have HP1 := hd P1
  clear O1 P1 X1 q0 q1 q2 hc1 HX0
  go_wp2_with (first | (go_at_call 25; refine hc2.mono ?_; rintro e2 w2 ⟨rfl, O2⟩))
  obtain ⟨Fr2, P2⟩ := HP1.out.outR O2
  go_ret
  exact ⟨rfl, _, _, P2.two⟩

set_option maxRecDepth 100000 in
set_option maxHeartbeats 2000000 in
theorem step_drop {B : Nat} {w0 w : World} {bl br : Nat} {s : LS} {Fl Fr : Nat → Prop} (h : Two B w0 w bl br s Fl Fr) (hg : Good s) (_hn : s.ws.length ≤ 7000000000000) (p v : Int) :
    Calls Try.prog 14 #[.pointer (some ⟨bl, 0, none⟩), .pointer (some ⟨br, 0, none⟩), .agg #[.int .i64 2, .int .i64 p, .int .i64 v]] w (StepOut B w0 bl br (dropL s)) := by
  have hb := below_al w (.cells #[.int .i64 2, .int .i64 p, .int .i64 v] 41)
  have HP0 := hd (h.after hb).pair
  have HX0 : Hid (Box3 (w.alloc (.cells #[.int .i64 2, .int .i64 p, .int .i64 v] 41)) 41 w.heap.size 2 p v) := hd ⟨heap_alloc_new _ _⟩
  have hgl : Hid (¬ Fl w.heap.size) := hd (fun hf => by have := h.l.lt _ hf; omega)
  have HG := hd hg
  clear h hb hg
  obtain ⟨q0, q1, q2⟩ := HX0.out.cells
  have hc1 := drop_any HP0.out.l HG.out
  go_enter Try.func14, Try.ntmps14
  go_upto_region 7 with (first | (go_at_call 26; refine hc1.mono ?_; rintro e1 w1 ⟨rfl, O1⟩))
  obtain ⟨Fl1, P1⟩ := HP0.out.outL O1
  have X1 : Box3 w1 41 w.heap.size 2 p v := ⟨O1.box hgl.out HX0.out.obj⟩
  obtain ⟨r0, r1, r2⟩ := X1.cells
  have hc2 := rdrop_any P1.r HG.out
  have HP1 := hd P1
  clear O1 P1 X1 q0 q1 q2 hc1 HX0
  go_wp2_with (first | (go_at_call 27; refine hc2.mono ?_; rintro e2 w2 ⟨rfl, O2⟩))
  obtain ⟨Fr2, P2⟩ := HP1.out.outR O2
  go_ret
  exact ⟨rfl, _, _, P2.two⟩

set_option maxRecDepth 100000 in
set_option maxHeartbeats 2000000 in
theorem step_wait {B : Nat} {w0 w : World} {bl br : Nat} {s : LS} {Fl Fr : Nat → Prop} (h : Two B w0 w bl br s Fl Fr) (hg : Good s) (hn : s.ws.length ≤ 7000000000000) (p v : Int) :
    Calls Try.prog 14 #[.pointer (some ⟨bl, 0, none⟩), .pointer (some ⟨br, 0, none⟩), .agg #[.int .i64 4, .int .i64 p, .int .i64 v]] w (StepOut B w0 bl br (waitL s p v).2) := by
  have hb := below_al w (.cells #[.int .i64 4, .int .i64 p, .int .i64 v] 41)
  have HP0 := hd (h.after hb).pair
  have HX0 : Hid (Box3 (w.alloc (.cells #[.int .i64 4, .int .i64 p, .int .i64 v] 41)) 41 w.heap.size 4 p v) := hd ⟨heap_alloc_new _ _⟩
  have hgl : Hid (¬ Fl w.heap.size) := hd (fun hf => by have := h.l.lt _ hf; omega)
  have HG := hd hg
  clear h hb hg
  obtain ⟨q0, q1, q2⟩ := HX0.out.cells
  have hc1 := wait_any HP0.out.l p v hn
  go_enter Try.func14, Try.ntmps14
  go_upto_region 15 with (first | (go_at_call 17; refine hc1.mono ?_; rintro e1 w1 ⟨rfl, O1⟩))
  obtain ⟨Fl1, P1⟩ := HP0.out.outL O1
  have X1 : Box3 w1 41 w.heap.size 4 p v := ⟨O1.box hgl.out HX0.out.obj⟩
  obtain ⟨r0, r1, r2⟩ := X1.cells
  have hc2 := rwait_any P1.r HG.out p v hn
  have HP1 := hd P1
  clear O1 P1 X1 q0 q1 q2 hc1 HX0
  go_wp2_with (first | (go_at_call 29; refine hc2.mono ?_; rintro e2 w2 ⟨rfl, O2⟩))
  obtain ⟨Fr2, P2⟩ := HP1.out.outR O2
  go_ret
  exact ⟨rfl, _, _, P2.two⟩

set_option maxRecDepth 100000 in
set_option maxHeartbeats 2000000 in
theorem step_leave {B : Nat} {w0 w : World} {bl br : Nat} {s : LS} {Fl Fr : Nat → Prop} (h : Two B w0 w bl br s Fl Fr) (hg : Good s) (hn : s.ws.length ≤ 7000000000000) (p v : Int) :
    Calls Try.prog 14 #[.pointer (some ⟨bl, 0, none⟩), .pointer (some ⟨br, 0, none⟩), .agg #[.int .i64 5, .int .i64 p, .int .i64 v]] w (StepOut B w0 bl br (leaveL s p).2) := by
  have hb := below_al w (.cells #[.int .i64 5, .int .i64 p, .int .i64 v] 41)
  have HP0 := hd (h.after hb).pair
  have HX0 : Hid (Box3 (w.alloc (.cells #[.int .i64 5, .int .i64 p, .int .i64 v] 41)) 41 w.heap.size 5 p v) := hd ⟨heap_alloc_new _ _⟩
  have hgl : Hid (¬ Fl w.heap.size) := hd (fun hf => by have := h.l.lt _ hf; omega)
  have HG := hd hg
  clear h hb hg
  obtain ⟨q0, q1, q2⟩ := HX0.out.cells
  have hc1 := leave_any HP0.out.l p (by omega)
  go_enter Try.func14, Try.ntmps14
  go_upto_region 18 with (first | (go_at_call 30; refine hc1.mono ?_; rintro e1 w1 ⟨rfl, O1⟩))
  obtain ⟨Fl1, P1⟩ := HP0.out.outL O1
  have X1 : Box3 w1 41 w.heap.size 5 p v := ⟨O1.box hgl.out HX0.out.obj⟩
  obtain ⟨r0, r1, r2⟩ := X1.cells
  have hc2 := rleave_any P1.r p (by omega)
  have HP1 := hd P1
  clear O1 P1 X1 q0 q1 q2 hc1 HX0
  go_wp2_with (first | (go_at_call 31; refine hc2.mono ?_; rintro e2 w2 ⟨rfl, O2⟩))
  obtain ⟨Fr2, P2⟩ := HP1.out.outR O2
  go_ret
  exact ⟨rfl, _, _, P2.two⟩

set_option maxRecDepth 100000 in
set_option maxHeartbeats 2000000 in
theorem step_take {B : Nat} {w0 w : World} {bl br : Nat} {s : LS} {Fl Fr : Nat → Prop} (h : Two B w0 w bl br s Fl Fr) (hg : Good s) (hn : s.ws.length ≤ 7000000000000) (p v : Int) :
    Calls Try.prog 14 #[.pointer (some ⟨bl, 0, none⟩), .pointer (some ⟨br, 0, none⟩), .agg #[.int .i64 3, .int .i64 p, .int .i64 v]] w (StepOut B w0 bl br (takeL s).2) := by
  have hb := below_al w (.cells #[.int .i64 3, .int .i64 p, .int .i64 v] 41)
  have HP0 := hd (h.after hb).pair
  have HX0 : Hid (Box3 (w.alloc (.cells #[.int .i64 3, .int .i64 p, .int .i64 v] 41)) 41 w.heap.size 3 p v) := hd ⟨heap_alloc_new _ _⟩
  have hgl : Hid (¬ Fl w.heap.size) := hd (fun hf => by have := h.l.lt _ hf; omega)
  have HG := hd hg
  clear h hb hg
  obtain ⟨q0, q1, q2⟩ := HX0.out.cells
  have hc1 := take_any HP0.out.l HG.out (by omega)
  unfold tkV at hc1
  obtain ⟨⟨tv, ⟨tp, tx⟩, tb, te⟩, ht⟩ : ∃ t, Hid ((takeL s).1 = t) := ⟨_, rfl⟩
  rw [ht.out] at hc1
  simp only at hc1
  go_enter Try.func14, Try.ntmps14
  go_upto_region 11 with (first | (go_at_call 18; refine hc1.mono ?_; rintro e1 w1 ⟨rfl, O1⟩))
  obtain ⟨Fl1, P1⟩ := HP0.out.outL O1
  have b1 := below_al w1 (.cells #[.int .i64 tp, .int .i64 tx] 50)
  have HP1 := hd (P1.after b1)
  have HY1 : Hid (Box2 (w1.alloc (.cells #[.int .i64 tp, .int .i64 tx] 50)) 50 w1.heap.size tp tx) := hd (box_new _ _ _ _)
  have hgr : Hid (¬ Fr w1.heap.size) := hd (fun hf => by have := P1.r.lt _ hf; omega)
  obtain ⟨wA, hwA⟩ : ∃ W, Hid (w1.alloc (.cells #[.int .i64 tp, .int .i64 tx] 50) = W) := ⟨_, rfl⟩
  obtain ⟨G, hG⟩ : ∃ G, Hid (w1.heap.size = G) := ⟨_, rfl⟩
  rw [hwA.out] at HP1 HY1 ⊢
  rw [hG.out] at HY1 hgr ⊢
  clear O1 P1 q0 q1 q2 hc1 HX0 b1 hwA hG
  have hc2 := rtake_any HP1.out.r HG.out (by omega)
  unfold tkV at hc2
  rw [ht.out] at hc2
  simp only at hc2
  go_upto_region 12 with (first | (go_at_call 28; refine hc2.mono ?_; rintro e2 w2 ⟨rfl, O2⟩))
  obtain ⟨Fr2, P2⟩ := HP1.out.outR O2
  have b2 := below_al w2 (.cells #[.int .i64 tp, .int .i64 tx] 50)
  have HY2 : Hid (Box2 w2 50 G tp tx) := hd ⟨O2.box hgr.out HY1.out.obj⟩
  have HP2 := hd (P2.after b2)
  have Y2 := HY2.out.bel b2
  have u0 := Y2.c0
  have u1 := Y2.c1
  clear O2 P2 hc2 HY1 Y2 b2
  go_wp2_with fail
  go_ret
  exact ⟨rfl, _, _, HP2.out.two⟩

set_option maxRecDepth 100000 in
set_option maxHeartbeats 2000000 in
theorem step_end {B : Nat} {w0 w : World} {bl br : Nat} {s : LS} {Fl Fr : Nat → Prop} (h : Two B w0 w bl br s Fl Fr) (hg : Good s) (hn : s.ws.length ≤ 7000000000000) (p v : Int) :
    Calls Try.prog 14 #[.pointer (some ⟨bl, 0, none⟩), .pointer (some ⟨br, 0, none⟩), .agg #[.int .i64 6, .int .i64 p, .int .i64 v]] w (StepOut B w0 bl br (endL s)) := by
  have hb := below_al w (.cells #[.int .i64 6, .int .i64 p, .int .i64 v] 41)
  have HP0 := hd (h.after hb).pair
  have HX0 : Hid (Box3 (w.alloc (.cells #[.int .i64 6, .int .i64 p, .int .i64 v] 41)) 41 w.heap.size 6 p v) := hd ⟨heap_alloc_new _ _⟩
  have hgl : Hid (¬ Fl w.heap.size) := hd (fun hf => by have := h.l.lt _ hf; omega)
  have HG := hd hg
  clear h hb hg
  obtain ⟨q0, q1, q2⟩ := HX0.out.cells
  have hc1 := ended_any HP0.out.two hn
  go_enter Try.func14, Try.ntmps14
  go_wp2_with (first | (go_at_call 32; refine hc1.mono ?_; rintro e1 w1 ⟨rfl, O1⟩))
  go_ret
  exact ⟨rfl, _, _, O1⟩

set_option maxRecDepth 100000 in
set_option maxHeartbeats 2000000 in
theorem step_len {B : Nat} {w0 w : World} {bl br : Nat} {s : LS} {Fl Fr : Nat → Prop} (h : Two B w0 w bl br s Fl Fr) (hg : Good s) (_hn : s.ws.length ≤ 7000000000000) (k p v : Int) (hk : ¬ (1 ≤ k ∧ k ≤ 6)) :
    Calls Try.prog 14 #[.pointer (some ⟨bl, 0, none⟩), .pointer (some ⟨br, 0, none⟩), .agg #[.int .i64 k, .int .i64 p, .int .i64 v]] w (StepOut B w0 bl br s) := by
  have hb := below_al w (.cells #[.int .i64 k, .int .i64 p, .int .i64 v] 41)
  have HP0 := hd (h.after hb).pair
  have HX0 : Hid (Box3 (w.alloc (.cells #[.int .i64 k, .int .i64 p, .int .i64 v] 41)) 41 w.heap.size k p v) := hd ⟨heap_alloc_new _ _⟩
  have hgl : Hid (¬ Fl w.heap.size) := hd (fun hf => by have := h.l.lt _ hf; omega)
  have HG := hd hg
  clear h hb hg
  obtain ⟨q0, q1, q2⟩ := HX0.out.cells
  have k1 : (k == 1) = false := by simp; omega
  have k2 : (k == 2) = false := by simp; omega
  have k3 : (k == 3) = false := by simp; omega
  have k4 : (k == 4) = false := by simp; omega
  have k5 : (k == 5) = false := by simp; omega
  have k6 : (k == 6) = false := by simp; omega
  have hln := fun n => len_any (w := (w.alloc (.cells #[.int .i64 k, .int .i64 p, .int .i64 v] 41)).drewN n) (HP0.out.l.below (below_drewN (below_same _) n))
  obtain ⟨d1, e1, d2, e2, -, r1, -, -, -⟩ := rcells HP0.out.r
  obtain ⟨N, hN⟩ : ∃ N, Hid (s.vs.length = N) := ⟨_, rfl⟩
  rw [hN.out] at r1 hln
  clear hk HX0
  go_enter Try.func14, Try.ntmps14
  go_upto_region 21 with fail
  go_quiet ((go_at_call 19; exact Calls.quiet_of_same (hln _)))
  go_wp2_with fail
  go_ret
  exact ⟨rfl, _, _, (HP0.out.after (below_drewN (below_same _) _)).two⟩

theorem step_any {B : Nat} {w0 w : World} {bl br : Nat} {s : LS} {Fl Fr : Nat → Prop} (h : Two B w0 w bl br s Fl Fr) (hg : Good s) (hn : s.ws.length ≤ 7000000000000) (k p v : Int) :
    Calls Try.prog 14 #[.pointer (some ⟨bl, 0, none⟩), .pointer (some ⟨br, 0, none⟩), .agg #[.int .i64 k, .int .i64 p, .int .i64 v]] w (StepOut B w0 bl br (stepL s k p v)) := by
  unfold stepL
  split
  · rename_i e; subst e; exact step_put h hg hn p v
  split
  · rename_i e; subst e; exact step_drop h hg hn p v
  split
  · rename_i e; subst e; exact step_take h hg hn p v
  split
  · rename_i e; subst e; exact step_wait h hg hn p v
  split
  · rename_i e; subst e; exact step_leave h hg hn p v
  split
  · rename_i e; subst e; exact step_end h hg hn p v
  · exact step_len h hg hn k p v (by omega)
end Go.Proofs.Ythldnbikephncaa
