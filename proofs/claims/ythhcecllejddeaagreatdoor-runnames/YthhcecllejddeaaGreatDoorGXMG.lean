/- One instruction of a process. -/
import Derived.Test.YthhcecllejddeaaGreatDoorGMh
namespace Go.Proofs.YthhcecllejddeaaGreatDoor
open Go.RowKit
def stepOn (c : Cfg) (m1 : MS) (p : Nat) (k : Int) : MS := if k = 1 then endM c m1 p 5 else m1
section
variable {w w' : World} {l : Lay} {m : MS} {U : Nat → Prop} {p q i j : Nat}
def StI (w : World) (l : Lay) (U : Nat → Prop) (m1 : MS) (gw : Nat) (k t v : Int) (wy : World) : Prop :=
 ∃ U1, To w U wy U1 ∧ Mk wy l U1 m1 ∧ wy.cell? ⟨gw, 0, none⟩ = some (.int .i64 k) ∧ wy.cell? ⟨gw, 1, none⟩ = some (.int .i64 t) ∧ wy.cell? ⟨gw, 2, none⟩ = some (.int .i64 v) ∧ gw < wy.heap.size ∧ ¬ U1 gw
set_option maxRecDepth 100000 in
set_option maxHeartbeats 8000000 in
theorem step_m (h : Mk w l U m) (hs : Shp l.c m) (hc : CfgOk l.c) (hp : p < l.c.procs.length) (ht : m.tick ≤ 6917529027641081856) : Calls Tryz.prog 110 #[.pointer (some ⟨l.bm, 0, none⟩), .pointer (some ⟨l.bq p, 0, none⟩)] w fun e w' => e = .returned (.tuple #[]) ∧ MkOut w l U (stepM l.c m p) w' := by
 have hp' : p < m.pr.length := by rw [hs.nq]; exact hp
 have HB : Hid (∀ w1, Below w.heap.size w w1 → PrC w1 l p (prOf m p)) := hd (fun w1 hb => (h.below hb).prC hp)
 have m9 := h.maC.2.2.2.2.1
 have HK := hd h
 have HS := hd hs
 have HC := hd hc
 have HP := hd hp
 obtain ⟨r, hr⟩ : ∃ r, Hid (Cpu.stepL (prOf m p).core (cd l.c p) m.tick p = r) := ⟨_, rfl⟩
 have hb0 := below_al w (.cells #[.int .i64 0, .int .i64 0, .int .i64 0] 246)
 have hb1 : Below w.heap.size w (w.alloc (.cells #[.int .i64 0, .int .i64 0, .int .i64 0] 246)).drew := hb0.drew
 have hst := Cpu.step_any (prOf m p).core (prM l p).a (cd l.c p) (prM l p).c m.tick p (w.alloc (.cells #[.int .i64 0, .int .i64 0, .int .i64 0] 246)).drew ((h.below hb1).prg hp) (h.below hb1).base.fld (hc.jmp p hp)
 have hk01 := Cpu.step_two (prOf m p).core (cd l.c p) m.tick p
 rw [hr.out] at hst hk01
 have em : stepM l.c m p = stepOn l.c (m.modP p fun x => { x with core := r.1 }) p r.2.1 := by rw [← hr.out]; rfl
 obtain ⟨M, hM⟩ : ∃ M, Hid (stepM l.c m p = M) := ⟨_, rfl⟩
 rw [hM.out] at em ⊢
 have HS1 : Hid (Shp l.c (m.modP p fun x => { x with core := r.1 })) := hd (hs.modS hp (fun _ => rfl) (fun _ => rfl) (fun _ => rfl) (fun _ => rfl))
 have ht1 : (m.modP p fun x => { x with core := r.1 }).tick ≤ 6917529027641081856 := ht
 obtain ⟨m1, hm1⟩ : ∃ x, Hid ((m.modP p fun x => { x with core := r.1 }) = x) := ⟨_, rfl⟩
 have HE : Hid (∀ w1, Below (w.alloc (.cells #[.int .i64 0, .int .i64 0, .int .i64 0] 246)).drew.heap.size (w.alloc (.cells #[.int .i64 0, .int .i64 0, .int .i64 0] 246)).drew w1 →
   PrC w1 l p (prOf m p) ∧ w1.heap[w.heap.size]? = some (.cells #[.int .i64 0, .int .i64 0, .int .i64 0] 246 (0, 0)) ∧ l.bq p ≠ w.heap.size ∧ StI w l U m1 w.heap.size r.2.1 r.2.2.1 r.2.2.2 (Cpu.put3 (put9 w1 (l.bq p) r.1) w.heap.size r.2.1 r.2.2.1 r.2.2.2)) := hd (fun w1 hb => by
  have hbw : Below w.heap.size w w1 := hb1.trans (hb.mono hb1.size)
  have hgw : w1.heap[w.heap.size]? = some (.cells #[.int .i64 0, .int .i64 0, .int .i64 0] 246 (0, 0)) := by
   rw [hb.block _ (by simp [World.drew])]
   exact heap_alloc_new w _
  have hne : l.bq p ≠ w.heap.size := by
   have := (Array.getElem?_eq_some_iff.1 (h.procAt hp)).1
   omega
  refine ⟨HB.out w1 hbw, hgw, hne, ?_⟩
  have hk1 := h.below hbw
  obtain ⟨U1, t1, k1⟩ := (hk1.putProc hs hp (f := fun x => { x with core := r.1 }) (fun _ => rfl) (fun _ => rfl) (fun _ => rfl) (fun _ => rfl) (put9_mod _ _ _) (put9_at (hk1.procAt hp) r.1)).get
  rw [hm1.out] at k1
  have hnU : ¬ U1 w.heap.size := fun e => by
   rcases t1.2 _ e with h2 | h2
   ·have := h.lt _ h2; omega
   ·have := (Array.getElem?_eq_some_iff.1 hgw).1; omega
  have hmd : Mod (fun k => k = w.heap.size) (put9 w1 (l.bq p) r.1) (Cpu.put3 (put9 w1 (l.bq p) r.1) w.heap.size r.2.1 r.2.2.1 r.2.2.2) := mod_sets (mod_sets (mod_set _ _ _ _) _ _) _ _
  have hgw2 : (put9 w1 (l.bq p) r.1).heap[w.heap.size]? = some (.cells #[.int .i64 0, .int .i64 0, .int .i64 0] 246 (0, 0)) := by
   rw [(put9_mod w1 (l.bq p) r.1).block _ (Array.getElem?_eq_some_iff.1 hgw).1 (fun e => hne e.symm)]
   exact hgw
  have hbx := Cpu.Box.three (w := put9 w1 (l.bq p) r.1) (t := 246) (b := w.heap.size) ⟨hgw2⟩ r.2.1 r.2.2.1 r.2.2.2
  have k2 : Mk (Cpu.put3 (put9 w1 (l.bq p) r.1) w.heap.size r.2.1 r.2.2.1 r.2.2.2) l U1 m1 := k1.mod hmd (fun k hk e => hnU (by rw [← e]; exact hk)) (fun k hk e => by
   have := h.base.klt k hk
   omega)
  refine ⟨U1, ?_, k2, hbx.cell 0, hbx.cell 1, hbx.cell 2, hbx.lt, hnU⟩
  have tt := (To.of_bel (U := U) hbw).trans t1
  exact ⟨tt.1.trans hmd (fun k e => .inr (by rw [e]; exact Nat.le_refl _)), tt.2⟩)
 rw [hm1.out] at HS1 ht1
 rw [hm1.out] at em
 replace em := hd em
 have HB1 := hd (HB.out _ hb0)
 have m9' : (w.alloc (.cells #[.int .i64 0, .int .i64 0, .int .i64 0] 246)).cell? ⟨l.bm, 9, none⟩ = some (.int .i64 m.tick) := ((h.below hb0).maC).2.2.2.2.1
 obtain ⟨c0, c1, c2, c3, c4, c5, c6, c7, c8, c9, c10, c11, c12, c13, c14, fr⟩ := HB1.out
 obtain ⟨r1, k, t, v⟩ := r
 generalize prOf m p = x at *
 generalize m.tick = T at *
 unfold Cpu.coreV Cpu.coreA Cpu.wantT Cpu.wantV Cpu.wantA at hst
 try dsimp only at hst
 try dsimp only at HE
 try dsimp only at em
 unfold put9 Cpu.put3 at HE
 try dsimp only at HE
 try dsimp only at hk01
 clear h hs hc hp hp' hb0 hb1 hr hm1 HB m9 HB1
 go_enter Tryz.func110, Tryz.ntmps110
 go_upto_region 1 with fail
 go_cut [5] (fun v5 wy => Hid (StI w l U m1 w.heap.size k t v wy))
 case first =>
  go_region_law (first | (go_simp; (with_reducible refine hst.mono ?_); rintro e w1 ⟨rfl, b1⟩; clear hst c0 c1 c2 c3 c4 c5 c6 c7 c8 c9 c10 c11 c12 c13 c14 fr; obtain ⟨⟨c0, c1, c2, c3, c4, c5, c6, c7, c8, c9, c10, c11, c12, c13, c14, fr⟩, hgw, hne, HI⟩ := HE.out w1 b1; have y0 := cell_of_row w1 _ 0 _ _ _ hgw; have y1 := cell_of_row w1 _ 1 _ _ _ hgw; have y2 := cell_of_row w1 _ 2 _ _ _ hgw; have yf : ∀ i, w1.frozen? ⟨w.heap.size, i, none⟩ = false := (fun i => by simp [World.frozen?, hgw]); replace HI := hd HI; clear hgw))
  all_goals (
   go_wp2_with fail
   go_meet
   case rel => exact HI)
 case rest =>
  obtain ⟨U1, t1, k1, y0, y1, y2, hgl, hgU⟩ := hcut.out
  clear hcut hst c0 c1 c2 c3 c4 c5 c6 c7 c8 c9 c10 c11 c12 c13 c14 fr HE m9'
  obtain ⟨gw, hgw⟩ : ∃ g, Hid (w.heap.size = g) := ⟨_, rfl⟩
  rw [hgw.out] at y0 y1 y2 hgl hgU ⊢
  clear hgw
  replace t1 := hd t1
  have HK1 := hd k1
  by_cases e1 : k = 1
  ·subst e1
   have he := end_m k1 HS1.out HC.out HP.out 5
   have em1 : M = endM l.c m1 p 5 := em.out
   clear k1 em hk01
   go_wp2_with (go_at_call 114; refine he.mono ?_; rintro e w2 ⟨rfl, ho⟩; clear he)
   go_end0
   exact ⟨rfl, by rw [em1]; exact t1.out.out ho⟩
  obtain rfl : k = 0 := by
   rcases hk01 with h | h
   ·exact h
   ·exact absurd h e1
  have em1 : M = m1 := by
   rw [em.out]
   rfl
  have HO := hd (t1.out.mk k1)
  clear k1 em e1 hk01
  go_wp2_with fail
  go_end0
  exact ⟨rfl, by rw [em1]; exact HO.out⟩
end
end Go.Proofs.YthhcecllejddeaaGreatDoor
