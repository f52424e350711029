/- New. -/
import Derived.Test.YthnjeejnnhadeaaGreatDoorGMj
import Derived.Test.YthnjeejnnhadeaaGreatDoorGNb
import Derived.Test.YthnjeejnnhadeaaGreatDoorGNc
import Derived.Test.YthnjeejnnhadeaaGreatDoorGQd
import Derived.Test.YthnjeejnnhadeaaGreatDoorGXN4
namespace Go.Proofs.YthnjeejnnhadeaaGreatDoor
open Go.RowKit
theorem code_len {l : List Ins} {k : Int} (h : (mayL l k).1 = 0) : l.length ≤ 256 := by
 unfold mayL at h
 split at h
 ·cases h
 ·split at h
  ·cases h
  ·omega
theorem CfgOk.small {c : Cfg} (h : CfgOk c) : CfS c :=
 ⟨by have := h.n8; omega, by have := h.t64; omega, by have := h.p32; omega, fun p hp => by have := code_len (h.code p hp); unfold cd at this; omega⟩
theorem CfO.klt {B : Nat} {w : World} {c : Cfg} {q : Loc} (h : CfO B w c q) : ∀ k, cfB q k → B ≤ k ∧ k < w.heap.size := by
 intro k hk
 rcases hk with hk | hk | hk | ⟨m, hm, hk⟩
 ·exact ⟨h.own.new (laD c q) (by simp [laD, cfD]) k hk, h.own.lt (laD c q) (by simp [laD, cfD]) k hk⟩
 ·exact ⟨h.own.new (taD c q) (by simp [taD, cfD]) k hk, h.own.lt (taD c q) (by simp [taD, cfD]) k hk⟩
 ·exact ⟨h.own.new (psD c q) (by simp [psD, cfD]) k hk, h.own.lt (psD c q) (by simp [psD, cfD]) k hk⟩
 ·have hp : prD m ∈ (q.ms.map prD) := List.mem_map_of_mem hm
  exact ⟨h.own.new (prD m) (List.mem_cons_of_mem _ (List.mem_cons_of_mem _ (List.mem_cons_of_mem _ hp))) k hk, h.own.lt (prD m) (List.mem_cons_of_mem _ (List.mem_cons_of_mem _ (List.mem_cons_of_mem _ hp))) k hk⟩
def NwOut (w : World) (c : Cfg) (E : Ending) (w' : World) : Prop := ∃ l U, E = .returned (.tuple #[.pointer (some ⟨l.bm, 0, none⟩), .int .i64 0]) ∧ Mk w' l U (firstM c) ∧ l.c = c ∧ (∀ k, U k → w.heap.size ≤ k) ∧ (∀ k, l.K k → w.heap.size ≤ k ∨ k = 1 ∨ k = 0) ∧ Below w.heap.size w w'
set_option maxRecDepth 100000 in
set_option maxHeartbeats 4000000 in
theorem new_ok (c : Cfg) (g : Loc) (w : World) (hR : CfR w c g) (hF : Fld w) (hL : Lim w) (hm : (mayC c).1 = 0) (hlab : ∀ x ∈ c.labels, x < 18446744073709551616) : Calls Tryz.prog 10 #[cfV c g] w (NwOut w c) := by
 have HLO := hd (layOk_first hm hlab)
 have HR := hd hR
 have HF := hd hF
 have HL := hd hL
 obtain ⟨Q, hQ⟩ : ∃ Q, Hid (NwOut w c = Q) := ⟨_, rfl⟩
 rw [hQ.out]
 have HF1 : Hid (∀ W, Below w.heap.size w W → Fld W) := hd (fun W hb => Fld.mod HF.out (Mod.of_below (fun _ => False) hb) (fun h => h))
 have HL1 : Hid (∀ W, Below w.heap.size w W → Lim W) := hd (fun W hb => Lim.mod HL.out (Mod.of_below (fun _ => False) hb) (fun h => h))
 have hb0 := below_al w (.cells (cfA c g) 27)
 have hbx := heap_alloc_new w (.cells (cfA c g) 27)
 obtain ⟨W0, hW0⟩ : ∃ W, Hid (w.alloc (.cells (cfA c g) 27) = W) := ⟨_, rfl⟩
 rw [hW0.out] at hb0 hbx
 obtain ⟨B, hB⟩ : ∃ B, Hid (w.heap.size = B) := ⟨_, rfl⟩
 have hWs : W0.heap.size = B + 1 := by rw [← hW0.out, ← hB.out]; simp
 have HD : Hid (∀ W, Below W0.heap.size W0 W → W.cell? ⟨B, 0, none⟩ = some (.slice g.la c.labels.length g.lc) ∧ W.cell? ⟨B, 1, none⟩ = some (.slice g.ta c.table.length g.tc) ∧ W.cell? ⟨B, 2, none⟩ = some (.int .i64 c.fuel) ∧ W.cell? ⟨B, 3, none⟩ = some (.int .i64 c.lane) ∧ W.cell? ⟨B, 4, none⟩ = some (.int .i64 c.locks) ∧ W.cell? ⟨B, 5, none⟩ = some (.int .i64 c.log) ∧ W.cell? ⟨B, 6, none⟩ = some (.slice g.pa c.procs.length g.pc)) := hd (fun W hb => by
  have hk : W.heap[B]? = some (.cells (cfA c g) 27 (0, 0)) := by rw [hb.block _ (by omega), ← hB.out]; exact hbx
  refine ⟨?_, ?_, ?_, ?_, ?_, ?_, ?_⟩ <;> (rw [cell_of_row _ _ _ _ _ _ hk]; rfl))
 have HB0 := hd hb0
 have HBW : Hid (∀ W, Below W0.heap.size W0 W → Below w.heap.size w W) := hd (fun W hb => HB0.out.trans (hb.mono HB0.out.size))
 have hmay := cmay_any c g W0 (hR.below hb0) (HF1.out W0 hb0) (HL1.out W0 hb0)
 rw [hm] at hmay
 unfold cfV cfA at hmay
 obtain ⟨v0, v1, v2, v3, v4, v5, v6⟩ := HD.out W0 (Below.refl _ _)
 have HCP : Hid (∀ W, Below W0.heap.size W0 W → Calls Tryz.prog 32 #[cfV c g] W (CpOut W c)) := hd (fun W hb => copied_any c g W (HR.out.below (HBW.out W hb)) HLO.out.cfg.small)
 have HFI : Hid (∀ W, Calls Tryz.prog 33 #[cfV c g] W (StOut W (firstM c))) := hd (fun W => first_any c g W HLO.out.cfg)
 have HLD : Hid (∀ (q : Loc) (w2 w3 : World) (B2 : Nat) ps a ca qs b cb Fs, CfO B2 w2 c q → Below w.heap.size w w2 → Below w2.heap.size w2 w3 → ST w2.heap.size w3 (firstM c) ps a ca qs b cb Fs → Calls Tryz.prog 31 #[cfV c q, stV (firstM c) a ca b cb] w3 (LdOut w3 c q (kOf q) (firstM c))) := hd (fun q w2 w3 B2 ps a ca qs b cb Fs hq hb2 hb3 hst => by
  have hb4 := hb2.trans (hb3.mono hb2.size)
  refine laid_any c q (firstM c) ps a ca qs b cb w3 (hq.rd.below hb3) (HF1.out w3 hb4) (HL1.out w3 hb4) (fun k hk => ?_) (hst.rd HLO.out.shp) HLO.out
  rcases hk with hk | rfl | rfl
  ·exact Nat.lt_of_lt_of_le (hq.klt k hk).2 hb3.size
  ·exact World.block_lt_of_cell? w3 ⟨1, 0, none⟩ (HF1.out w3 hb4 0 (by decide))
  ·exact World.block_lt_of_cell? w3 ⟨0, 0, none⟩ (HL1.out w3 hb4 0 (by decide)))
 clear hR hF hL hm hlab hb0 hbx hWs
 unfold cfV cfA at HCP HFI
 unfold cfA at hW0
 unfold cfV cfA
 go_enter Tryz.func10, Tryz.ntmps10
 go_upto_region 1 with fail
 rw [hW0.out, hB.out]
 clear hW0
 go_upto_region 4 with (go_at_call 30; (with_reducible refine hmay.mono ?_); rintro e w1 ⟨rfl, hb1⟩)
 clear v0 v1 v2 v3 v4 v5 v6 hmay
 obtain ⟨v0, v1, v2, v3, v4, v5, v6⟩ := HD.out w1 hb1
 have hcp := HCP.out w1.drew hb1.drew
 go_region_held3 (fun w' => w'.cell? ⟨B, 0, none⟩ = some (.slice g.la c.labels.length g.lc) ∧ w'.cell? ⟨B, 1, none⟩ = some (.slice g.ta c.table.length g.tc) ∧ w'.cell? ⟨B, 2, none⟩ = some (.int .i64 c.fuel) ∧ w'.cell? ⟨B, 3, none⟩ = some (.int .i64 c.lane) ∧ w'.cell? ⟨B, 4, none⟩ = some (.int .i64 c.locks) ∧ w'.cell? ⟨B, 5, none⟩ = some (.int .i64 c.log) ∧ w'.cell? ⟨B, 6, none⟩ = some (.slice g.pa c.procs.length g.pc)) (go_keep)
  (first
   | (go_at_call 32; (with_reducible refine hcp.mono ?_); rintro e w2 ⟨q, rfl, hq, hb2⟩; have hb2' := bel_dr hb2; have hbb2 := hb1.trans (hb2'.mono hb1.size); obtain ⟨s0, s1, s2, s3, s4, s5, s6⟩ := HD.out w2 hbb2; have hfi := HFI.out w2)
   | (go_at_call 33; (with_reducible refine hfi.mono ?_); rintro e w3 ⟨ps, a, ca, qs, b, cb, Fs, rfl, hst, hb3⟩; have hbb3 := hbb2.trans (hb3.mono hbb2.size); obtain ⟨t0, t1, t2, t3, t4, t5, t6⟩ := HD.out w3 hbb3; have hld := HLD.out q w2 w3 _ ps a ca qs b cb Fs hq (HBW.out w2 hbb2) hb3 hst)
   | (go_at_call 31; (with_reducible refine hld.mono ?_); rintro e w4 ⟨l, U, rfl, k1, k2, k3, k4, k5, k6⟩; have hbb4 := hbb3.trans (k6.mono hbb3.size); obtain ⟨r0, r1, r2, r3, r4, r5, r6⟩ := HD.out w4 hbb4))
 have HO : Hid (Q (.returned (.tuple #[.pointer (some ⟨l.bm, 0, none⟩), .int .i64 0])) w4) := hd (by
  rw [← hQ.out]
  have g1 := (HBW.out w1 hb1).size
  have g3 := (HBW.out w3 hbb3).size
  refine ⟨l, U, rfl, k1, k2, fun k hk => Nat.le_trans g3 (k5 k hk), fun k hk => ?_, HBW.out w4 hbb4⟩
  rw [k4] at hk
  rcases hk with hk | hk
  ·have : w1.heap.size ≤ k := (hq.klt k hk).1
   exact .inl (by omega)
  ·exact .inr hk)
 clear k1 k2 k3 k4 k5 k6 hq hst hld hfi hcp
 go_wp2_with fail
 exact HO.out
end Go.Proofs.YthnjeejnnhadeaaGreatDoor

namespace Go.Proofs.YthnjeejnnhadeaaGreatDoor
open Go.RowKit
def ExOut (w : World) (e : Ending) (w' : World) : Prop := ∃ g, e = .returned (cfV exC g) ∧ CfR w' exC g ∧ Below w.heap.size w w'
theorem al_old {w : World} {o x : Obj} {b : Nat} (h : w.heap[b]? = some x) : (w.alloc o).heap[b]? = some x := ((below_al w o).block b (Array.getElem?_eq_some_iff.1 h).1).trans h
theorem al_new {w : World} {n : Nat} (hn : w.heap.size = n) (cs : Array Value) (T : TypeId) : (w.alloc (.cells cs T)).heap[n]? = some (.cells cs T (0, 0)) ∧ (w.alloc (.cells cs T)).heap.size = n + 1 := by
 subst hn
 exact ⟨heap_alloc_new w _, by simp⟩
theorem rd_heap {w : World} {b : Nat} {cs : Array Value} {T : TypeId} {xs : List Value} (h : w.heap[b]? = some (.cells cs T (0, 0))) (e : cs.toList = xs) : Rd w (some ⟨b, 0, none⟩) xs := fun j u hj => by
 refine ⟨b, 0, rfl, ?_⟩
 rw [cell_of_row _ _ _ _ _ _ h, Nat.zero_add]
 rw [← e] at hj
 simpa using hj
def exA (n : Nat) : Array Value := #[.slice (some ⟨n + 1 + 1 + 1, 0, none⟩) 2 2, .slice (some ⟨n + 1 + 1 + 1 + 1, 0, none⟩) 2 2, .int .i64 2, .int .i64 1, .int .i64 1, .int .i64 4, .slice (some ⟨n + 1 + 1 + 1 + 1 + 1, 0, none⟩) 2 2]
def exP (n : Nat) : Array Value := #[.int .i64 0, .slice (some ⟨n + 1, 0, none⟩) 4 4, .int .i64 1, .slice (some ⟨n + 1 + 1, 0, none⟩) 3 3]
def exG (n : Nat) : Loc := ⟨some ⟨n + 1 + 1 + 1, 0, none⟩, 2, some ⟨n + 1 + 1 + 1 + 1, 0, none⟩, 2, some ⟨n + 1 + 1 + 1 + 1 + 1, 0, none⟩, 2, [⟨⟨0, exO⟩, some ⟨n + 1, 0, none⟩, 4⟩, ⟨⟨1, exT⟩, some ⟨n + 1 + 1, 0, none⟩, 3⟩]⟩
def exW (w : World) (n : Nat) : World := (((((w.alloc (.cells (exA n) 27)).alloc (.cells (pCells exO).toArray 84)).alloc (.cells (pCells exT).toArray 84)).alloc (.cells #[.int .u64 0, .int .u64 1] 82)).alloc (.cells #[.int .i64 0, .int .i64 1] 3)).alloc (.cells (exP n) 79)
theorem exW_ok (w : World) (n : Nat) (hn : w.heap.size = n) : (exW w n).heap[n]? = some (.cells (exA n) 27 (0, 0)) ∧ CfR (exW w n) exC (exG n) ∧ Below n w (exW w n) := by
 obtain ⟨a0, s0⟩ := al_new hn (exA n) 27
 obtain ⟨a1, s1⟩ := al_new s0 (pCells exO).toArray 84
 obtain ⟨a2, s2⟩ := al_new s1 (pCells exT).toArray 84
 obtain ⟨a3, s3⟩ := al_new s2 #[.int .u64 0, .int .u64 1] 82
 obtain ⟨a4, s4⟩ := al_new s3 #[.int .i64 0, .int .i64 1] 3
 obtain ⟨a5, s5⟩ := al_new s4 (exP n) 79
 refine ⟨al_old (al_old (al_old (al_old (al_old a0)))), ⟨?_, ?_, ?_, ?_, rfl⟩, ?_⟩
 ·exact rd_heap (al_old (al_old a3)) rfl
 ·exact rd_heap (al_old a4) rfl
 ·exact rd_heap a5 rfl
 ·intro m hm
  rcases List.mem_cons.1 hm with rfl | hm
  ·exact rd_heap (al_old (al_old (al_old (al_old a1)))) (by simp)
  ·rcases List.mem_singleton.1 hm with rfl
   exact rd_heap (al_old (al_old (al_old a2))) (by simp)
 ·subst hn
  exact (((((below_al w _).alloc (by omega) _).alloc (by omega) _).alloc (by omega) _).alloc (by omega) _).alloc (by omega) _
set_option maxRecDepth 100000 in
set_option maxHeartbeats 4000000 in
theorem ex_any (w : World) : Calls Tryz.prog 28 #[] w (ExOut w) := by
 obtain ⟨Q, hQ⟩ : ∃ Q, Hid (ExOut w = Q) := ⟨_, rfl⟩
 rw [hQ.out]
 obtain ⟨n, hn⟩ : ∃ n, Hid (w.heap.size = n) := ⟨_, rfl⟩
 obtain ⟨h1, h2, h3⟩ := exW_ok w n hn.out
 have HO : Hid (Q (.returned (cfV exC (exG n))) (exW w n)) := hd (by
  rw [← hQ.out]
  exact ⟨exG n, rfl, h2, by rw [hn.out]; exact h3⟩)
 have H1 := hd h1
 clear h1 h2 h3
 go_enter Tryz.func28, Tryz.ntmps28
 go_wp2_with fail
 rw [hn.out]
 change bodyPost _ _ _ _ _ (exW w n)
 refine bodyPost_ret (v := cfV exC (exG n)) ?_ rfl HO.out
 have y0 := cell_of_row _ n 0 _ _ _ H1.out
 have y1 := cell_of_row _ n 1 _ _ _ H1.out
 have y2 := cell_of_row _ n 2 _ _ _ H1.out
 have y3 := cell_of_row _ n 3 _ _ _ H1.out
 have y4 := cell_of_row _ n 4 _ _ _ H1.out
 have y5 := cell_of_row _ n 5 _ _ _ H1.out
 have y6 := cell_of_row _ n 6 _ _ _ H1.out
 clear HO H1 hQ
 generalize exW w n = Wf at *
 simp [exA] at y0 y1 y2 y3 y4 y5 y6
 simp [results, Tryz.results28, go_sem, y0, y1, y2, y3, y4, y5, y6, cfV, cfA, exC, exG]
end Go.Proofs.YthnjeejnnhadeaaGreatDoor

namespace Go.Proofs.YthnjeejnnhadeaaGreatDoor
open Go.RowKit
def exOw : Nat → Int
 | 0 => 0
 | 1 => 0
 | 2 => 1
 | 3 => 2
 | _ => 5
theorem ex_shp : ∀ i, Shp exC (exM i)
 | 0 => (layOk_first ex_may (by decide)).shp
 | i + 1 => (ex_shp i).ticks (layOk_first ex_may (by decide)).cfg
theorem ex_step {i : Nat} (h : i < 4) : (exM i).tick ≤ 6917529027641081856 ∧ 2 * exOw i + (ownerM exC (exM i) : Int) = exOw (i + 1) ∧ 0 ≤ exOw i ∧ exOw i ≤ 5 ∧ ownerM exC (exM i) ≤ 8 := by
 have : i = 0 ∨ i = 1 ∨ i = 2 ∨ i = 3 := by omega
 rcases this with rfl | rfl | rfl | rfl
 ·rw [ex_tick0, ex_own0]; decide
 ·rw [ex_tick1, ex_own1]; decide
 ·rw [ex_tick2, ex_own2]; decide
 ·rw [ex_tick3, ex_own3]; decide
theorem ex_np : (exM 4).pt.length = 2 := by kernel_rfl
theorem ex_nq : (exM 4).pr.length = 2 := by kernel_rfl
theorem ex_told {w : World} {E : Ending} {w' : World} (h : StOut w (exM 4) E w') : ∃ ba c bb d bl lc, E = .returned (.agg #[.int .i64 4, .slice (some ⟨ba, 0, none⟩) 2 c, .slice (some ⟨bb, 0, none⟩) 2 d]) ∧ Below w.heap.size w w' ∧
  ∀ W, Below w'.heap.size w' W → W.cell? ⟨ba, 7, none⟩ = some (.slice (some ⟨bl, 0, none⟩) 1 lc) ∧ (W.cell? ⟨bl, 0, none⟩ = some (.int .i64 3) ∧ W.cell? ⟨bl, 1, none⟩ = some (.int .i64 1) ∧ W.cell? ⟨bl, 2, none⟩ = some (.int .i64 5)) ∧ W.cell? ⟨bb, 0, none⟩ = some (.int .i64 5) := by
 obtain ⟨ps, a, c, qs, b, d, Fs, rfl, hS, hb⟩ := h
 have hpl : ps.length = 2 := by have := hS.np; have e := congrArg List.length this; rw [List.length_map, ex_np] at e; exact e
 have hql : qs.length = 2 := by have := hS.nq; have e := congrArg List.length this; rw [List.length_map, ex_nq] at e; exact e
 have rp := hS.rp
 have rq := hS.rq
 rw [ex_np] at rp
 rw [ex_nq] at rq
 obtain ⟨ba, rfl⟩ := rp.head (by omega)
 obtain ⟨bb, rfl⟩ := rq.head (by omega)
 have htx : (ps.getD 1 default).x = ptOf (exM 4) 1 := ptx_at hS.np (by omega)
 have hqx : (qs.getD 0 default).x = prOf (exM 4) 0 := prx_at hS.nq (by omega)
 have ht := hS.bag.at' 1 (by rw [things_len]; omega)
 have e : (ps.map Thg.pt ++ qs.map Thg.pr).getD 1 default = .pt (ps.getD 1 default) := by
  rw [List.getD_eq_getElem?_getD, List.getElem?_append_left (by simp; omega), List.getElem?_map, List.getD_eq_getElem?_getD, List.getElem?_eq_getElem (by omega)]
  rfl
 rw [e] at ht
 have hlog : Row w' 68 3 (ps.getD 1 default).la 1 (ps.getD 1 default).lc (enC [(3, 1, 5)]) := by
  have h1 := PtTAt.log ht
  rw [htx, ex_log] at h1
  exact h1
 obtain ⟨bl, hbl⟩ := hlog.head (by omega)
 rw [hbl] at hlog
 refine ⟨ba, c, bb, d, bl, (ps.getD 1 default).lc, by rw [stV, ex_np, ex_nq, ex_tick4], hb, fun W hW => ?_⟩
 have r1 := rp.below hW
 have r2 := rq.below hW
 have r3 := hlog.below hW
 refine ⟨?_, ⟨?_, ?_, ?_⟩, ?_⟩
 ·obtain ⟨g, e1, h1⟩ := r1.cell 7 (by omega)
  cases e1
  rw [h1, show (7 : Nat) = 1 * 6 + 1 from rfl, ptsC_at ps 1 1 (by omega) (by omega)]
  show some (Value.slice (ps.getD 1 default).la (ps.getD 1 default).x.log.length (ps.getD 1 default).lc) = _
  rw [hbl, htx, ex_log]
  rfl
 ·obtain ⟨g, e1, h1⟩ := r3.cell 0 (by omega)
  cases e1
  rw [h1]
  rfl
 ·obtain ⟨g, e1, h1⟩ := r3.cell 1 (by omega)
  cases e1
  rw [h1]
  rfl
 ·obtain ⟨g, e1, h1⟩ := r3.cell 2 (by omega)
  cases e1
  rw [h1]
  rfl
 ·obtain ⟨g, e1, h1⟩ := r2.cell 0 (by omega)
  cases e1
  rw [h1, show (0 : Nat) = 0 * 15 + 0 from rfl, prsC_at qs 0 0 (by omega) (by omega)]
  show some (Value.int .i64 (qs.getD 0 default).x.st) = _
  rw [hqx, ex_st]
set_option maxRecDepth 100000 in
set_option maxHeartbeats 4000000 in
theorem awake_any (w : World) (hF : Fld w) (hL : Lim w) : Calls Tryz.prog 7 #[] w fun e w' => e = .returned (.bool true) ∧ Below w.heap.size w w' := by
 have HF1 : Hid (∀ W, Below w.heap.size w W → Fld W) := hd (fun W hb => Fld.mod hF (Mod.of_below (fun _ => False) hb) (fun h => h))
 have HL1 : Hid (∀ W, Below w.heap.size w W → Lim W) := hd (fun W hb => Lim.mod hL (Mod.of_below (fun _ => False) hb) (fun h => h))
 have hex := ex_any w
 clear hF hL
 have HBIG : Hid (∀ W' l U, (∀ k, U k → w.heap.size ≤ k) → ∀ m W, MkOut W' l U m W → Below w.heap.size w W' → ∃ U', Mk W l U' m ∧ (∀ k, U' k → w.heap.size ≤ k) ∧ Below w.heap.size w W) := hd (by
  rintro W' l U hU m W ⟨h1, U', h2, h3⟩ hb
  refine ⟨U', h2, fun k hk => ?_, ((Mod.of_below (fun _ => False) hb).trans h1 (fun k hk => .inr (hU k hk))).below (Nat.le_refl _) (fun k _ hk => hk.elim)⟩
  rcases h3 k hk with e | e
  ·exact hU k e
  ·exact Nat.le_trans hb.size e)
 go_enter Tryz.func7, Tryz.ntmps7
 go_upto_region 2 with (first
  | (go_at_call 28; (with_reducible refine hex.mono ?_); rintro e w1 ⟨g, rfl, hR, hb1⟩; have hnw := new_ok exC g w1 hR (HF1.out w1 hb1) (HL1.out w1 hb1) ex_may (by decide))
  | (go_at_call 10; (with_reducible refine hnw.mono ?_); rintro e w2 ⟨l, U, rfl, hMk, hlc, hU, -, hb2⟩))
 have HK0 : Hid (∃ U, Mk w2 l U (exM 0) ∧ (∀ k, U k → w.heap.size ≤ k) ∧ Below w.heap.size w w2) := hd ⟨U, hMk, fun k hk => Nat.le_trans hb1.size (hU k hk), hb1.trans (hb2.mono hb1.size)⟩
 have HLC := hd hlc
 obtain ⟨M, hM⟩ : ∃ n, Hid (l.bm = n) := ⟨_, rfl⟩
 rw [hM.out]
 clear hMk hU hb1 hb2 hR hlc hnw hex
 go_wp2_with fail
 go_loopg [3, 4] 4 (fun k v3 v4 wr => ∃ (i : Nat) (o : Int), v4 = .int .i64 (i : Int) ∧ i + k = 4 ∧ v3 = .int .i64 o ∧ Hid (exOw i = o) ∧ Hid (∃ U, Mk wr l U (exM i) ∧ (∀ k, U k → w.heap.size ≤ k) ∧ Below w.heap.size w wr))
 case atStart => exact ⟨0, 0, rfl, rfl, rfl, hd rfl, HK0⟩
 case round =>
  obtain ⟨i, o, rfl, hik, rfl, HO, HH⟩ := hrel
  clear HK0
  obtain ⟨U, hMk, hU, hbw⟩ := HH.out
  clear HH
  by_cases hlt : i < 4
  ·have hlt' : (i : Int) < 4 := by omega
   obtain ⟨s1, s2, s3, s4, s5⟩ := ex_step hlt
   rw [HO.out] at s2 s3 s4
   have htk := tick_m hMk (by rw [HLC.out]; exact ex_shp i) (by rw [HLC.out]; exact (layOk_first ex_may (by decide)).cfg) s1
   rw [HLC.out, hM.out] at htk
   obtain ⟨p, hp⟩ : ∃ n, Hid (ownerM exC (exM i) = n) := ⟨_, rfl⟩
   rw [hp.out] at htk s2 s5
   have HU := hd hU
   have HB := hd hbw
   have HS2 := hd s2
   clear hMk hU hbw s1 s2
   go_wp2_with (go_at_call 24; (with_reducible refine htk.mono ?_); rintro e w3 ⟨rfl, hout⟩)
   go_roundg (gk - 1)
   case rel => exact ⟨i + 1, 2 * o + (p : Int), by go_num, by omega, by go_num, hd HS2.out.symm, hd (HBIG.out _ _ _ HU.out _ _ hout HB.out)⟩
   case measure => omega
  ·obtain rfl : i = 4 := by omega
   obtain rfl : (5 : Int) = o := HO.out
   have hst := state_m hMk (by rw [HLC.out]; exact ex_shp 4) (by rw [HLC.out]; exact (layOk_first ex_may (by decide)).cfg)
   rw [hM.out] at hst
   have HMK := hd hMk
   have HB := hd hbw
   have HU := hd hU
   have HT : Hid (∀ e w3, StOut wr (exM 4) e w3 → ∃ ba c bb d bl lc, e = .returned (.agg #[.int .i64 4, .slice (some ⟨ba, 0, none⟩) 2 c, .slice (some ⟨bb, 0, none⟩) 2 d]) ∧ Hid (Below wr.heap.size wr w3) ∧
     Hid (∀ W, Below w3.heap.size w3 W → W.cell? ⟨ba, 7, none⟩ = some (.slice (some ⟨bl, 0, none⟩) 1 lc) ∧ (W.cell? ⟨bl, 0, none⟩ = some (.int .i64 3) ∧ W.cell? ⟨bl, 1, none⟩ = some (.int .i64 1) ∧ W.cell? ⟨bl, 2, none⟩ = some (.int .i64 5)) ∧ W.cell? ⟨bb, 0, none⟩ = some (.int .i64 5))) := hd (fun e w3 h => by
    obtain ⟨ba, c, bb, d, bl, lc, h1, h2, h3⟩ := ex_told h
    exact ⟨ba, c, bb, d, bl, lc, h1, hd h2, hd h3⟩)
   clear hMk hU hbw HO
   obtain ⟨N, hN⟩ : ∃ N : Ending → World → Prop, Hid (StOut wr (exM 4) = N) := ⟨_, rfl⟩
   rw [hN.out] at hst HT
   clear hN
   go_upto_region 10 with (go_at_call 22; (with_reducible refine hst.mono ?_); rintro e w3 he; obtain ⟨ba, c, bb, d, bl, lc, rfl, HB3, HC⟩ := HT.out e w3 he; clear he)
   obtain ⟨W4, hW4⟩ : ∃ W, Hid (w3.alloc (.cells #[.int .i64 4, .slice (some ⟨ba, 0, none⟩) 2 c, .slice (some ⟨bb, 0, none⟩) 2 d] 51) = W) := ⟨_, rfl⟩
   have hb4 : Below w3.heap.size w3 W4 := by rw [← hW4.out]; exact below_al w3 _
   have hz : W4.heap[w3.heap.size]? = some (.cells #[.int .i64 4, .slice (some ⟨ba, 0, none⟩) 2 c, .slice (some ⟨bb, 0, none⟩) 2 d] 51 (0, 0)) := by rw [← hW4.out]; exact heap_alloc_new w3 _
   rw [hW4.out]
   obtain ⟨sb, hsb⟩ : ∃ n, Hid (w3.heap.size = n) := ⟨_, rfl⟩
   rw [hsb.out] at hz ⊢
   have z0 := cell_of_row W4 sb 0 _ _ _ hz
   have z1 := cell_of_row W4 sb 1 _ _ _ hz
   have z2 := cell_of_row W4 sb 2 _ _ _ hz
   obtain ⟨x7, ⟨x0, x1, x2⟩, xb⟩ := HC.out W4 hb4
   have hb5 : Below wr.heap.size wr W4 := HB3.out.trans (hb4.mono HB3.out.size)
   have hin := inject_m (HMK.out.below hb5) (by rw [HLC.out]; exact ex_shp 4) 5 1
   rw [HLC.out, hM.out, ex_inj] at hin
   have HOUT : Hid (∀ W5, MkOut W4 l U (injectM exC (exM 4) 5 1) W5 → Below w.heap.size w W5) := hd (fun W5 h => by
    obtain ⟨_, _, _, h3⟩ := HBIG.out _ _ _ HU.out _ _ h (HB.out.trans (hb5.mono HB.out.size))
    exact h3)
   clear hz hW4 hb4 hb5 HB3 HC HMK HB HU HBIG hst HT
   go_wp2_with (go_at_call 25; (with_reducible refine hin.mono ?_); rintro e w5 ⟨rfl, hout⟩)
   go_ret
   exact ⟨rfl, HOUT.out _ hout⟩
end Go.Proofs.YthnjeejnnhadeaaGreatDoor

namespace Go.Proofs.YthnjeejnnhadeaaGreatDoor
open Go.RowKit
set_option maxRecDepth 100000 in
set_option maxHeartbeats 4000000 in
theorem machineNames_any (w : World) (hF : Fld w) (hL : Lim w) : Calls Tryz.prog 3 #[] w fun e w' => e = .returned (.bool true) ∧ Below w.heap.size w w' := by
 have haw := awake_any w hF hL
 clear hF hL
 go_enter Tryz.func3, Tryz.ntmps3
 go_wp2_with (go_at_call 7; (with_reducible refine haw.mono ?_); rintro e w1 ⟨rfl, hb⟩)
 go_ret
 exact ⟨rfl, hb⟩
end Go.Proofs.YthnjeejnnhadeaaGreatDoor
