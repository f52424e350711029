/- One instruction of a process. -/
import Derived.Test.YthnjeejnnhadeaaGreatDoorGMd
import Derived.Test.YthnjeejnnhadeaaGreatDoorGXMF
namespace Go.Proofs.YthnjeejnnhadeaaGreatDoor
open Go.RowKit
def stepOn (c : Cfg) (m1 : MS) (p : Nat) (k t v : Int) : MS :=
 if k = 1 then endM c m1 p 5 else if k = 2 then sendM c m1 p t v else if k = 3 then takeM c m1 p true else if k = 4 then takeM c m1 p false else if k = 5 then timerM m1 p v else
 if k = 6 then sleepM m1 p v else if k = 7 then lockM c m1 p t else if k = 8 then unlockM c m1 p t else if k = 9 then outM c m1 p v else m1
section
variable {w w' : World} {l : Lay} {m : MS} {U : Nat → Prop} {p q i j : Nat}
def StI (w : World) (l : Lay) (U : Nat → Prop) (m1 : MS) (gw : Nat) (k t v : Int) (wy : World) : Prop :=
 ∃ U1, To w U wy U1 ∧ Mk wy l U1 m1 ∧ wy.cell? ⟨gw, 0, none⟩ = some (.int .i64 k) ∧ wy.cell? ⟨gw, 1, none⟩ = some (.int .i64 t) ∧ wy.cell? ⟨gw, 2, none⟩ = some (.int .i64 v) ∧ gw < wy.heap.size ∧ ¬ U1 gw
set_option maxRecDepth 100000 in
set_option maxHeartbeats 8000000 in
theorem step_m (h : Mk w l U m) (hs : Shp l.c m) (hc : CfgOk l.c) (hp : p < l.c.procs.length) (ht : m.tick ≤ 6917529027641081856) : Calls Tryz.prog 51 #[.pointer (some ⟨l.bm, 0, none⟩), .pointer (some ⟨l.bq p, 0, none⟩)] w fun e w' => e = .returned (.tuple #[]) ∧ MkOut w l U (stepM l.c m p) w' := by
 have hp' : p < m.pr.length := by rw [hs.nq]; exact hp
 have HB : Hid (∀ w1, Below w.heap.size w w1 → PrC w1 l p (prOf m p)) := hd (fun w1 hb => (h.below hb).prC hp)
 have m9 := h.maC.2.2.2.2.1
 have HK := hd h
 have HS := hd hs
 have HC := hd hc
 have HP := hd hp
 obtain ⟨r, hr⟩ : ∃ r, Hid (Cpu.stepL (prOf m p).core (cd l.c p) m.tick p = r) := ⟨_, rfl⟩
 have hb0 := below_al w (.cells #[.int .i64 0, .int .i64 0, .int .i64 0] 178)
 have hb1 : Below w.heap.size w (w.alloc (.cells #[.int .i64 0, .int .i64 0, .int .i64 0] 178)).drew := hb0.drew
 have hst := Cpu.step_any (prOf m p).core (prM l p).a (cd l.c p) (prM l p).c m.tick p (w.alloc (.cells #[.int .i64 0, .int .i64 0, .int .i64 0] 178)).drew ((h.below hb1).prg hp) (h.below hb1).base.fld
 rw [hr.out] at hst
 have em : stepM l.c m p = stepOn l.c (m.modP p fun x => { x with core := r.1 }) p r.2.1 r.2.2.1 r.2.2.2 := by rw [← hr.out]; rfl
 obtain ⟨M, hM⟩ : ∃ M, Hid (stepM l.c m p = M) := ⟨_, rfl⟩
 rw [hM.out] at em ⊢
 have HS1 : Hid (Shp l.c (m.modP p fun x => { x with core := r.1 })) := hd (hs.modS hp (fun _ => rfl) (fun _ => rfl) (fun _ => rfl) (fun _ => rfl))
 have ht1 : (m.modP p fun x => { x with core := r.1 }).tick ≤ 6917529027641081856 := ht
 obtain ⟨m1, hm1⟩ : ∃ x, Hid ((m.modP p fun x => { x with core := r.1 }) = x) := ⟨_, rfl⟩
 have HE : Hid (∀ w1, Below (w.alloc (.cells #[.int .i64 0, .int .i64 0, .int .i64 0] 178)).drew.heap.size (w.alloc (.cells #[.int .i64 0, .int .i64 0, .int .i64 0] 178)).drew w1 →
   PrC w1 l p (prOf m p) ∧ w1.heap[w.heap.size]? = some (.cells #[.int .i64 0, .int .i64 0, .int .i64 0] 178 (0, 0)) ∧ l.bq p ≠ w.heap.size ∧ StI w l U m1 w.heap.size r.2.1 r.2.2.1 r.2.2.2 (Cpu.put3 (put9 w1 (l.bq p) r.1) w.heap.size r.2.1 r.2.2.1 r.2.2.2)) := hd (fun w1 hb => by
  have hbw : Below w.heap.size w w1 := hb1.trans (hb.mono hb1.size)
  have hgw : w1.heap[w.heap.size]? = some (.cells #[.int .i64 0, .int .i64 0, .int .i64 0] 178 (0, 0)) := by
   rw [hb.block _ (by simp [World.drew])]
   exact heap_alloc_new w _
  have hne : l.bq p ≠ w.heap.size := by
   have := (Array.getElem?_eq_some_iff.1 (h.procAt hp)).1
   omega
  refine ⟨HB.out w1 hbw, hgw, hne, ?_⟩
  have hk1 := h.below hbw
  obtain ⟨U1, t1, k1⟩ := (hk1.putProc hs hp (f := fun x => { x with core := r.1 }) (fun _ => rfl) (fun _ => rfl) (fun _ => rfl) (fun _ => rfl) (put9_mod _ _ _) (put9_at (hk1.procAt hp) r.1)).get
  rw [hm1.out] at k1
  have hnU : ¬ U1 w.heap.size := fun e => by
   rcases t1.2 _ e with h2 | h2
   ·have := h.lt _ h2; omega
   ·have := (Array.getElem?_eq_some_iff.1 hgw).1; omega
  have hmd : Mod (fun k => k = w.heap.size) (put9 w1 (l.bq p) r.1) (Cpu.put3 (put9 w1 (l.bq p) r.1) w.heap.size r.2.1 r.2.2.1 r.2.2.2) := mod_sets (mod_sets (mod_set _ _ _ _) _ _) _ _
  have hgw2 : (put9 w1 (l.bq p) r.1).heap[w.heap.size]? = some (.cells #[.int .i64 0, .int .i64 0, .int .i64 0] 178 (0, 0)) := by
   rw [(put9_mod w1 (l.bq p) r.1).block _ (Array.getElem?_eq_some_iff.1 hgw).1 (fun e => hne e.symm)]
   exact hgw
  have hbx := Cpu.Box.three (w := put9 w1 (l.bq p) r.1) (t := 178) (b := w.heap.size) ⟨hgw2⟩ r.2.1 r.2.2.1 r.2.2.2
  have k2 : Mk (Cpu.put3 (put9 w1 (l.bq p) r.1) w.heap.size r.2.1 r.2.2.1 r.2.2.2) l U1 m1 := k1.mod hmd (fun k hk e => hnU (by rw [← e]; exact hk)) (fun k hk e => by
   have := h.base.klt k hk
   omega)
  refine ⟨U1, ?_, k2, hbx.cell 0, hbx.cell 1, hbx.cell 2, hbx.lt, hnU⟩
  have tt := (To.of_bel (U := U) hbw).trans t1
  exact ⟨tt.1.trans hmd (fun k e => .inr (by rw [e]; exact Nat.le_refl _)), tt.2⟩)
 rw [hm1.out] at HS1 ht1
 rw [hm1.out] at em
 replace em := hd em
 have HB1 := hd (HB.out _ hb0)
 have m9' : (w.alloc (.cells #[.int .i64 0, .int .i64 0, .int .i64 0] 178)).cell? ⟨l.bm, 9, none⟩ = some (.int .i64 m.tick) := ((h.below hb0).maC).2.2.2.2.1
 obtain ⟨c0, c1, c2, c3, c4, c5, c6, c7, c8, c9, c10, c11, c12, c13, c14, fr⟩ := HB1.out
 obtain ⟨r1, k, t, v⟩ := r
 generalize prOf m p = x at *
 generalize m.tick = T at *
 unfold Cpu.coreV Cpu.coreA Cpu.wantT Cpu.wantV Cpu.wantA at hst
 try dsimp only at hst
 try dsimp only at HE
 try dsimp only at em
 unfold put9 Cpu.put3 at HE
 try dsimp only at HE
 clear h hs hc hp hp' hb0 hb1 hr hm1 HB m9 HB1
 go_enter Tryz.func51, Tryz.ntmps51
 go_upto_region 1 with fail
 go_cut [5] (fun v5 wy => Hid (StI w l U m1 w.heap.size k t v wy))
 case first =>
  go_region_law (first | (go_simp; (with_reducible refine hst.mono ?_); rintro e w1 ⟨rfl, b1⟩; clear hst c0 c1 c2 c3 c4 c5 c6 c7 c8 c9 c10 c11 c12 c13 c14 fr; obtain ⟨⟨c0, c1, c2, c3, c4, c5, c6, c7, c8, c9, c10, c11, c12, c13, c14, fr⟩, hgw, hne, HI⟩ := HE.out w1 b1; have y0 := cell_of_row w1 _ 0 _ _ _ hgw; have y1 := cell_of_row w1 _ 1 _ _ _ hgw; have y2 := cell_of_row w1 _ 2 _ _ _ hgw; have yf : ∀ i, w1.frozen? ⟨w.heap.size, i, none⟩ = false := (fun i => by simp [World.frozen?, hgw]); replace HI := hd HI; clear hgw))
  all_goals (
   go_wp2_with fail
   go_meet
   case rel => exact HI)
 case rest =>
  obtain ⟨U1, t1, k1, y0, y1, y2, hgl, hgU⟩ := hcut.out
  clear hcut hst c0 c1 c2 c3 c4 c5 c6 c7 c8 c9 c10 c11 c12 c13 c14 fr HE m9'
  obtain ⟨gw, hgw⟩ : ∃ g, Hid (w.heap.size = g) := ⟨_, rfl⟩
  rw [hgw.out] at y0 y1 y2 hgl hgU ⊢
  clear hgw
  replace t1 := hd t1
  have HK1 := hd k1
  by_cases e1 : k = 1
  ·subst e1
   have he := end_m k1 HS1.out HC.out HP.out 5
   have em1 : M = endM l.c m1 p 5 := em.out
   clear k1 em
   go_wp2_with (go_at_call 55; refine he.mono ?_; rintro e w2 ⟨rfl, ho⟩; clear he)
   go_end0
   exact ⟨rfl, by rw [em1]; exact t1.out.out ho⟩
  by_cases e2 : k = 2
  ·subst e2
   have he := send_m k1 HS1.out HC.out HP.out t v
   have em1 : M = sendM l.c m1 p t v := em.out
   clear k1 em e1
   go_wp2_with (go_at_call 105; refine he.mono ?_; rintro e w2 ⟨rfl, ho⟩; clear he)
   go_end0
   exact ⟨rfl, by rw [em1]; exact t1.out.out ho⟩
  by_cases e3 : k = 3
  ·subst e3
   have he := take_m k1 HS1.out HC.out HP.out true
   have em1 : M = takeM l.c m1 p true := em.out
   clear k1 em e1 e2
   go_wp2_with (go_at_call 106; refine he.mono ?_; rintro e w2 ⟨rfl, ho⟩; clear he)
   go_end0
   exact ⟨rfl, by rw [em1]; exact t1.out.out ho⟩
  by_cases e4 : k = 4
  ·subst e4
   have he := take_m k1 HS1.out HC.out HP.out false
   have em1 : M = takeM l.c m1 p false := em.out
   clear k1 em e1 e2 e3
   go_wp2_with (go_at_call 106; refine he.mono ?_; rintro e w2 ⟨rfl, ho⟩; clear he)
   go_end0
   exact ⟨rfl, by rw [em1]; exact t1.out.out ho⟩
  by_cases e5 : k = 5
  ·subst e5
   have he := setTimer_m k1 HS1.out HC.out HP.out ht1 v
   have em1 : M = timerM m1 p v := em.out
   clear k1 em e1 e2 e3 e4
   go_wp2_with (go_at_call 107; refine he.mono ?_; rintro e w2 ⟨rfl, ho⟩; clear he)
   go_end0
   exact ⟨rfl, by rw [em1]; exact t1.out.out ho⟩
  by_cases e6 : k = 6
  ·subst e6
   have em1 : M = sleepM m1 p v := em.out
   have hq1 : p < m1.pr.length := by rw [HS1.out.nq]; exact HP.out
   have hp32 := HC.out.p32
   have hpn := HP.out
   obtain ⟨V, hV⟩ : ∃ V, max v 1 = V := ⟨_, rfl⟩
   have hV0 : 0 < V := by omega
   have x3 := (k1.prC HP.out).c3
   have xf := (k1.prC HP.out).fr
   obtain ⟨U2, t2, k2⟩ := (k1.setSt HS1.out HP.out 4).get
   have HS2 : Hid (Shp l.c (m1.modP p fun x => { x with st := 4 })) := hd (HS1.out.modS HP.out (fun _ => rfl) (fun _ => rfl) (fun _ => rfl) (fun _ => rfl))
   have hq2 : p < (m1.modP p fun x => { x with st := 4 }).pr.length := by rw [len_modP]; exact hq1
   have z2 : (wc.setCell ⟨l.bq p, 3, none⟩ (.int .i64 4)).cell? ⟨gw, 2, none⟩ = some (.int .i64 v) := (t2.cell hgl hgU).trans y2
   have hsn := snum_any k2.drew HC.out HP.out
   have hsd := setDue_m k2.drew HS2.out HC.out HP.out ht1 (2 * (p : Int) + 1) V hV0 (fun x => { x with wake := dueM m1 V }) (by omega) ⟨fun _ => rfl, fun _ => rfl, fun _ => rfl, fun _ => rfl, fun _ => rfl⟩ (fun L hL => wok_wake hL (HC.out.mem HP.out) hq2 (by unfold dueM; have := HS1.out.t0; omega))
   have em2 : M = (m1.modP p fun x => { x with st := 4 }).modP p fun x => { x with wake := dueM m1 V } := by
    rw [em1, modP_modP hq1]
    unfold sleepM
    rw [hV]
   rw [← em2] at hsd
   have t3 := hd (to_drew (t1.out.trans t2))
   clear em1 em2 em HS2 hq1 hq2 e1 e2 e3 e4 e5 HK1 k1
   go_upto_region 14 with fail
   obtain ⟨W2, hW2⟩ : ∃ W, Hid (wc.setCell ⟨l.bq p, 3, none⟩ (.int .i64 4) = W) := ⟨_, rfl⟩
   rw [hW2.out] at z2 hsn hsd t3 ⊢
   clear hW2 x3 xf k2 t2 y0 y1 y2
   go_region_law (first
    | (go_simp; (with_reducible refine hsn.mono ?_); rintro e w1 ⟨rfl, rfl⟩)
    | (go_simp; (with_reducible refine hsd.mono ?_); rintro e w2 ⟨rfl, ho⟩))
   all_goals (
    go_wp2_with fail
    go_end0
    exact ⟨rfl, t3.out.out ho⟩)
  by_cases e7 : k = 7
  ·subst e7
   have he := lock_m k1 HS1.out HC.out HP.out t
   have em1 : M = lockM l.c m1 p t := em.out
   clear k1 em e1 e2 e3 e4 e5 e6
   go_wp2_with (go_at_call 109; refine he.mono ?_; rintro e w2 ⟨rfl, ho⟩; clear he)
   go_end0
   exact ⟨rfl, by rw [em1]; exact t1.out.out ho⟩
  by_cases e8 : k = 8
  ·subst e8
   have he := unlock_m k1 HS1.out HC.out HP.out t
   have em1 : M = unlockM l.c m1 p t := em.out
   clear k1 em e1 e2 e3 e4 e5 e6 e7
   go_wp2_with (go_at_call 110; refine he.mono ?_; rintro e w2 ⟨rfl, ho⟩; clear he)
   go_end0
   exact ⟨rfl, by rw [em1]; exact t1.out.out ho⟩
  by_cases e9 : k = 9
  ·subst e9
   have he := write_m k1 HS1.out HC.out HP.out v
   have em1 : M = outM l.c m1 p v := em.out
   clear k1 em e1 e2 e3 e4 e5 e6 e7 e8
   go_wp2_with (go_at_call 111; refine he.mono ?_; rintro e w2 ⟨rfl, ho⟩; clear he)
   go_end0
   exact ⟨rfl, by rw [em1]; exact t1.out.out ho⟩
  have em1 : M = m1 := by
   rw [em.out]
   unfold stepOn
   rw [if_neg e1, if_neg e2, if_neg e3, if_neg e4, if_neg e5, if_neg e6, if_neg e7, if_neg e8, if_neg e9]
  have HO := hd (t1.out.mk k1)
  have f1 : (k == 1) = false := by simpa using e1
  have f2 : (k == 2) = false := by simpa using e2
  have f3 : (k == 3) = false := by simpa using e3
  have f4 : (k == 4) = false := by simpa using e4
  have f5 : (k == 5) = false := by simpa using e5
  have f6 : (k == 6) = false := by simpa using e6
  have f7 : (k == 7) = false := by simpa using e7
  have f8 : (k == 8) = false := by simpa using e8
  have f9 : (k == 9) = false := by simpa using e9
  clear k1 em e1 e2 e3 e4 e5 e6 e7 e8 e9
  go_wp2_with fail
  go_end0
  exact ⟨rfl, by rw [em1]; exact HO.out⟩
end
end Go.Proofs.YthnjeejnnhadeaaGreatDoor
