/- A run in memory: State. -/
import Derived.Test.YthhcecllejddeaaGreatDoorGXb
import Derived.Test.YthhcecllejddeaaGreatDoorGXc
namespace Go.Proofs.YthhcecllejddeaaGreatDoor
open Go.RowKit
theorem ST.mod {B : Nat} {w w' : World} {m : MS} {ps : List PtT} {a : Option Addr} {c : Nat} {qs : List PrT} {b : Option Addr} {d : Nat} {Fs : Nat → Nat → Prop} {S : Nat → Prop} (h : ST B w m ps a c qs b d Fs) (hm : Mod S w w') (hn : ∀ k, S k → k < B) : ST B w' m ps a c qs b d Fs :=
 ⟨h.np, h.nq, h.rp.mod hm (fun k hk e => by have := (h.ag k hk).1; have := hn k e; omega), h.rq.mod hm (fun k hk e => by have := (h.bg k hk).1; have := hn k e; omega),
  h.bag.mod hm (fun i hi k hk e => by have := (h.bag.at' i hi).ge k hk; have := hn k e; omega), h.ag, h.bg⟩
def SrOut (w : World) (m : MS) (E : Ending) (w' : World) : Prop := ∃ B ps a c qs b d Fs, E = .returned (stV m a c b d) ∧ w.heap.size ≤ B ∧ ST B w' m ps a c qs b d Fs ∧ Below w.heap.size w w'
section
variable {w : World} {br : Nat} {l : Lay} {U : Nat → Prop} {m : MS} {T O : Int}
set_option maxRecDepth 100000 in
set_option maxHeartbeats 4000000 in
theorem rstate_any (h : RunAt w br l U m T O) (hs : Shp l.c m) (hc : CfgOk l.c) : Calls Tryz.prog 12 #[.pointer (some ⟨br, 0, none⟩)] w (SrOut w m) := by
 have hb0 := below_al w (.cells z51 47)
 have hx := heap_alloc_new w (.cells z51 47)
 obtain ⟨W0, hW0⟩ : ∃ W, Hid (w.alloc (.cells z51 47) = W) := ⟨_, rfl⟩
 rw [hW0.out] at hb0 hx
 have hs0 : W0.heap.size = w.heap.size + 1 := by rw [← hW0.out]; simp
 have h0 := h.below hb0
 have c0 := h0.c0
 have hst := state_m h0.kk hs hc
 obtain ⟨bx, hbx⟩ : ∃ n, Hid (w.heap.size = n) := ⟨_, rfl⟩
 rw [hbx.out] at hx hs0
 obtain ⟨Q, hQ⟩ : ∃ Q, Hid (SrOut w m = Q) := ⟨_, rfl⟩
 rw [hQ.out]
 have HE : Hid (∀ e w1, StOut W0 m e w1 → ∃ a c b d, e = .returned (stV m a c b d) ∧ Hid (w1.heap[bx]? = some (.cells z51 47 (0, 0))) ∧ Hid (∀ W, Mod (fun k => k = bx) w1 W → Q (.returned (stV m a c b d)) W)) := hd (by
  rintro e w1 ⟨ps, a, c, qs, b, d, Fs, rfl, h2, h3⟩
  refine ⟨a, c, b, d, rfl, hd ((h3.block bx (by omega)).trans hx), hd (fun W hm => ?_)⟩
  rw [← hQ.out]
  have hsz := hbx.out
  refine ⟨_, ps, a, c, qs, b, d, Fs, rfl, by omega, h2.mod hm (fun k hk => by rw [hk]; omega), ?_⟩
  exact ((Mod.of_below (fun _ => False) (hb0.trans (h3.mono hb0.size))).trans hm (fun k e => .inr (by omega))).below (Nat.le_refl _) (fun k _ hk => hk.elim))
 obtain ⟨N, hN⟩ : ∃ N : Ending → World → Prop, Hid (StOut W0 m = N) := ⟨_, rfl⟩
 rw [hN.out] at hst HE
 unfold z51 at hW0 HE
 unfold stV at HE
 obtain ⟨tk, htk⟩ : ∃ n, Hid (m.tick = n) := ⟨_, rfl⟩
 obtain ⟨np, hnp⟩ : ∃ n, Hid (m.pt.length = n) := ⟨_, rfl⟩
 obtain ⟨nq, hnq⟩ : ∃ n, Hid (m.pr.length = n) := ⟨_, rfl⟩
 rw [htk.out, hnp.out, hnq.out] at HE
 clear h h0 hs hc hb0 hx hs0 hQ hN htk hnp hnq
 go_enter Tryz.func12, Tryz.ntmps12
 go_upto_region 1 with fail
 rw [hW0.out, hbx.out]
 clear hW0 hbx
 go_wp2_with (go_at_call 21; (with_reducible refine hst.mono ?_); rintro e w1 he; obtain ⟨a, c, b, d, rfl, HY, HZ⟩ := HE.out e w1 he; clear he hst HE; have k0 := cell_of_row _ _ 0 _ _ _ HY.out; have k1 := cell_of_row _ _ 1 _ _ _ HY.out; have k2 := cell_of_row _ _ 2 _ _ _ HY.out; have kf : ∀ i, w1.frozen? ⟨bx, i, none⟩ = false := (fun i => by simp [World.frozen?, HY.out]))
 have HQ := hd (HZ.out (((w1.setCell ⟨bx, 0, none⟩ (.int .i64 tk)).setCell ⟨bx, 1, none⟩ (.slice a np c)).setCell ⟨bx, 2, none⟩ (.slice b nq d)) (mod_sets (mod_sets (mod_set _ _ _ _) _ _) _ _))
 have HR3 : Hid ((((w1.setCell ⟨bx, 0, none⟩ (.int .i64 tk)).setCell ⟨bx, 1, none⟩ (.slice a np c)).setCell ⟨bx, 2, none⟩ (.slice b nq d)).heap[bx]? = some (.cells #[.int .i64 tk, .slice a np c, .slice b nq d] 47 (0, 0))) := hd (by
  rw [heap_setCell_self (heap_setCell_self (heap_setCell_self HY.out _) _)]
  rfl)
 obtain ⟨V, hV⟩ : ∃ V, Hid ((((w1.setCell ⟨bx, 0, none⟩ (.int .i64 tk)).setCell ⟨bx, 1, none⟩ (.slice a np c)).setCell ⟨bx, 2, none⟩ (.slice b nq d)) = V) := ⟨_, rfl⟩
 rw [hV.out] at HQ HR3 ⊢
 have j0 := cell_of_row _ _ 0 _ _ _ HR3.out
 have j1 := cell_of_row _ _ 1 _ _ _ HR3.out
 have j2 := cell_of_row _ _ 2 _ _ _ HR3.out
 refine bodyPost_ret (v := .agg #[.int .i64 tk, .slice a np c, .slice b nq d]) ?_ rfl HQ.out
 clear HQ HR3 k0 k1 k2 hV HY
 simp at j0 j1 j2
 simp [results, Tryz.results12, go_sem, j0, j1, j2]
end
end Go.Proofs.YthhcecllejddeaaGreatDoor

namespace Go.Proofs.YthhcecllejddeaaGreatDoor
open Go.RowKit
theorem r_byte : Byte (encC rC) := fun i => by
 have hall : (encC rC).all (fun y => decide (y < 256)) = true := by kernel_rfl
 rw [List.getD_eq_getElem?_getD]
 cases h : (encC rC)[i]? with
 | none => exact Nat.zero_lt_succ _
 | some y => simpa using List.all_eq_true.1 hall y (List.mem_of_getElem? h)
def Drv (w W : World) (br : Nat) (l : Lay) (m : MS) (T O : Int) : Prop := ∃ U, RunAt W br l U m T O ∧ (∀ k, U k → w.heap.size ≤ k) ∧ w.heap.size ≤ br ∧ Below w.heap.size w W
section
variable {w W W' : World} {br : Nat} {l : Lay} {U : Nat → Prop} {m m' : MS} {T O T' O' : Int}
theorem Drv.out (h1 : ∀ k, U k → w.heap.size ≤ k) (h2 : w.heap.size ≤ br) (h3 : Below w.heap.size w W) (ho : RunOut W br l U m' T' O' W') : Drv w W' br l m' T' O' := by
 obtain ⟨om, U', k, c⟩ := ho
 refine ⟨U', k, fun x hx => ?_, h2, ((Mod.of_below (fun _ => False) h3).trans om (fun x hx => .inr ?_)).below (Nat.le_refl _) (fun _ _ h => h.elim)⟩
 ·rcases c x hx with e | e
  ·exact h1 x e
  ·exact Nat.le_trans h3.size e
 ·rcases hx with e | e
  ·exact h1 x e
  ·rw [e]; exact h2
end
theorem r_told {w : World} {E : Ending} {w' : World} (h : SrOut w (tks rC 2 (firstM rC)) E w') : ∃ a c bb d, E = .returned (.agg #[.int .i64 2, .slice a 2 c, .slice (some ⟨bb, 0, none⟩) 2 d]) ∧ Below w.heap.size w w' ∧ ∀ W, Below w'.heap.size w' W → W.cell? ⟨bb, 15, none⟩ = some (.int .i64 5) := by
 obtain ⟨B, ps, a, c, qs, b, d, Fs, rfl, -, hS, hb⟩ := h
 have hql : qs.length = 2 := by have := hS.nq; have e := congrArg List.length this; rw [List.length_map, r_nq] at e; exact e
 have rq := hS.rq
 rw [r_nq] at rq
 obtain ⟨bb, rfl⟩ := rq.head (by omega)
 have hqx : (qs.getD 1 default).x = prOf (tks rC 2 (firstM rC)) 1 := prx_at hS.nq (by omega)
 refine ⟨a, c, bb, d, by rw [stV, r_np, r_nq, r_tick], hb, fun W hW => ?_⟩
 obtain ⟨g, e1, h1⟩ := (rq.below hW).cell 15 (by omega)
 cases e1
 rw [h1, show (15 : Nat) = 1 * 15 + 0 from rfl, prsC_at qs 1 0 (by omega) (by omega)]
 show some (Value.int .i64 (qs.getD 1 default).x.st) = _
 rw [hqx, r_st]
set_option maxRecDepth 100000 in
set_option maxHeartbeats 4000000 in
theorem rawake_any (w : World) (hF : Fld w) (hL : Lim w) : Calls Tryz.prog 5 #[] w fun e w' => e = .returned (.bool true) ∧ Below w.heap.size w w' := by
 have hex := rex_any w
 have HBT : Hid (∀ a c w1, Rd w1 a (bCells (encC rC)) → 51 ≤ c → Below w.heap.size w w1 → Calls Tryz.prog 10 #[.slice a 51 c] w1 (BtOut w1 rC)) := hd (fun a c w1 hr hc hb => boot_ok rC a 51 c (encC rC) w1 r_len hr r_byte hc (Fld.mod hF (Mod.of_below (fun _ => False) hb) (fun h => h)) (Lim.mod hL (Mod.of_below (fun _ => False) hb) (fun h => h)) r_dec r_may (by decide) r_jmp)
 clear hF hL
 go_enter Tryz.func5, Tryz.ntmps5
 go_upto_region 5 with (first
  | (go_at_call 9; (with_reducible refine hex.mono ?_); rintro e w1 ⟨a, c, rfl, hr, hc, hb1⟩; have hbt := HBT.out a c w1 hr hc hb1; clear hex HBT; replace hb1 := hd hb1; clear hr hc)
  | (go_at_call 10; (with_reducible refine hbt.mono ?_); rintro e w2 ⟨br, l, U, rfl, k2, hlc, hU, hbr, hb2⟩; clear hbt))
 have HLC := hd hlc
 have hsh : Shp l.c (firstM rC) := by rw [hlc]; exact r_lay.shp
 have hdo := do_tick k2 hsh (by rw [hlc]; exact r_lay.cfg) 2 0 (by omega) (by omega) (by omega) (by decide)
 rw [hlc, r_own] at hdo
 have HU := hd (fun k (hk : U k) => Nat.le_trans hb1.out.size (hU k hk))
 have HBR : Hid (w.heap.size ≤ br) := hd (Nat.le_trans hb1.out.size hbr)
 have HB2 : Hid (Below w.heap.size w w2) := hd (hb1.out.trans (hb2.mono hb1.out.size))
 clear hb1 hb2 hU hbr k2 hlc hsh
 change Calls Tryz.prog 11 #[.pointer (some ⟨br, 0, none⟩), .agg #[.int .i64 1, .int .i64 2, .int .i64 0]] w2 (fun e w' => e = .returned (.agg #[.int .i64 0, .int .i64 2, .int .i64 0]) ∧ RunOut w2 br l U (tks rC 2 (firstM rC)) 2 0 w') at hdo
 go_upto_region 6 with (go_at_call 11; (with_reducible refine hdo.mono ?_); rintro e w3 ⟨rfl, ho⟩; clear hdo; have h3 := Drv.out HU.out HBR.out HB2.out ho; clear ho HU HBR HB2)
 have hnum := r_live
 have hs2 : Shp l.c (tks rC 2 (firstM rC)) := by rw [HLC.out]; exact Shp.tks r_lay.cfg 2 r_lay.shp
 have hc2 : CfgOk l.c := by rw [HLC.out]; exact r_lay.cfg
 have HT := hd (fun W E w' => @r_told W E w')
 rw [← HLC.out] at hnum
 obtain ⟨m2, hm2⟩ : ∃ x, Hid (tks rC 2 (firstM rC) = x) := ⟨_, rfl⟩
 rw [← HLC.out] at hm2
 rw [HLC.out] at hm2
 rw [hm2.out] at h3 hs2 HT
 rw [HLC.out, hm2.out, ← HLC.out] at hnum
 obtain ⟨U3, k3, hU3, hbr3, hb3⟩ := h3
 have hba := below_al w3 (.cells #[.int .i64 0, .int .i64 2, .int .i64 0] 42)
 have hy := heap_alloc_new w3 (.cells #[.int .i64 0, .int .i64 2, .int .i64 0] 42)
 have hne : ¬ (U3 w3.heap.size ∨ w3.heap.size = br) := by
  rintro (e | e)
  ·have := k3.kk.lt _ e
   omega
  ·have := k3.lt
   omega
 obtain ⟨Wa, hWa⟩ : ∃ W, Hid (w3.alloc (.cells #[.int .i64 0, .int .i64 2, .int .i64 0] 42) = W) := ⟨_, rfl⟩
 obtain ⟨b6, hb6⟩ : ∃ n, Hid (w3.heap.size = n) := ⟨_, rfl⟩
 rw [hWa.out] at hba hy
 rw [hb6.out] at hy hne
 have k3a := k3.below hba
 have hdo := do_kill k3a 9 0 (by rw [hnum]; decide)
 rw [hnum] at hdo
 unfold ansV at hdo
 replace hb3 := hb3.trans (hba.mono hb3.size)
 have H4 : Hid (∀ w4, RunOut Wa br l U3 m2 2 0 w4 → Drv w w4 br l m2 2 0 ∧ w4.heap[b6]? = some (.cells #[.int .i64 0, .int .i64 2, .int .i64 0] 42 (0, 0))) := hd (fun w4 ho => ⟨Drv.out hU3 hbr3 hb3 ho, (ho.1.block b6 (Array.getElem?_eq_some_iff.1 hy).1 hne).trans hy⟩)
 rw [hWa.out, hb6.out]
 clear k3 k3a hU3 hbr3 hb3 hba hy hne hWa hb6 hnum
 have HS2 := hd hs2
 have HC2 := hd hc2
 clear hs2 hc2 hm2
 go_upto_region 7 with (go_at_call 11; (with_reducible refine hdo.mono ?_); rintro e w4 ⟨rfl, ho⟩; clear hdo; have h4 := H4.out w4 ho; clear ho H4)
 obtain ⟨⟨U4, k4, hU4, hbr4, hb4⟩, hy6⟩ := h4
 have hbb := below_al w4 (.cells #[.int .i64 17, .int .i64 2, .int .i64 0] 42)
 have hy7 := heap_alloc_new w4 (.cells #[.int .i64 17, .int .i64 2, .int .i64 0] 42)
 obtain ⟨Wb, hWb⟩ : ∃ W, Hid (w4.alloc (.cells #[.int .i64 17, .int .i64 2, .int .i64 0] 42) = W) := ⟨_, rfl⟩
 obtain ⟨b7, hb7⟩ : ∃ n, Hid (w4.heap.size = n) := ⟨_, rfl⟩
 rw [hWb.out] at hbb hy7
 rw [hb7.out] at hy7
 replace hy6 := (hbb.block b6 (Array.getElem?_eq_some_iff.1 hy6).1).trans hy6
 have hst := rstate_any (k4.below hbb) HS2.out HC2.out
 replace hb4 := hb4.trans (hbb.mono hb4.size)
 have HE : Hid (∀ e w5, SrOut Wb m2 e w5 → ∃ a c bb d, e = .returned (.agg #[.int .i64 2, .slice a 2 c, .slice (some ⟨bb, 0, none⟩) 2 d]) ∧ Hid (Below w.heap.size w w5 ∧ (∀ W, Below w5.heap.size w5 W → W.cell? ⟨bb, 15, none⟩ = some (.int .i64 5) ∧ W.heap[b6]? = some (.cells #[.int .i64 0, .int .i64 2, .int .i64 0] 42 (0, 0)) ∧ W.heap[b7]? = some (.cells #[.int .i64 17, .int .i64 2, .int .i64 0] 42 (0, 0))))) := hd (fun e w5 h => by
  obtain ⟨a, c, bb, d, h1, h2, h3⟩ := HT.out _ _ _ h
  refine ⟨a, c, bb, d, h1, hd ⟨hb4.trans (h2.mono hb4.size), fun W hW => ⟨h3 W hW, ?_, ?_⟩⟩⟩
  ·exact ((h2.trans (hW.mono h2.size)).block b6 (Array.getElem?_eq_some_iff.1 hy6).1).trans hy6
  ·exact ((h2.trans (hW.mono h2.size)).block b7 (Array.getElem?_eq_some_iff.1 hy7).1).trans hy7)
 obtain ⟨N, hN⟩ : ∃ N : Ending → World → Prop, Hid (SrOut Wb m2 = N) := ⟨_, rfl⟩
 rw [hN.out] at hst HE
 rw [hWb.out, hb7.out]
 clear k4 hU4 hbr4 hb4 hbb hy6 hy7 hWb hb7 HS2 HC2 HT hN HLC
 go_upto_region 8 with (go_at_call 12; (with_reducible refine hst.mono ?_); rintro e w5 he; obtain ⟨a5, c5, bb, d5, rfl, HO⟩ := HE.out e w5 he; clear he hst HE)
 have hbc := below_al w5 (.cells #[.int .i64 2, .slice a5 2 c5, .slice (some ⟨bb, 0, none⟩) 2 d5] 47)
 have hy8 := heap_alloc_new w5 (.cells #[.int .i64 2, .slice a5 2 c5, .slice (some ⟨bb, 0, none⟩) 2 d5] 47)
 obtain ⟨Wc, hWc⟩ : ∃ W, Hid (w5.alloc (.cells #[.int .i64 2, .slice a5 2 c5, .slice (some ⟨bb, 0, none⟩) 2 d5] 47) = W) := ⟨_, rfl⟩
 obtain ⟨b8, hb8⟩ : ∃ n, Hid (w5.heap.size = n) := ⟨_, rfl⟩
 rw [hWc.out] at hbc hy8
 rw [hb8.out] at hy8
 obtain ⟨x5, y6, y7⟩ := HO.out.2 Wc hbc
 have HB : Hid (Below w.heap.size w Wc) := hd (HO.out.1.trans (hbc.mono HO.out.1.size))
 have z0 := cell_of_row _ _ 0 _ _ _ y6
 have z1 := cell_of_row _ _ 1 _ _ _ y6
 have z2 := cell_of_row _ _ 2 _ _ _ y6
 have u0 := cell_of_row _ _ 0 _ _ _ y7
 have u1 := cell_of_row _ _ 1 _ _ _ y7
 have u2 := cell_of_row _ _ 2 _ _ _ y7
 have s0 := cell_of_row _ _ 0 _ _ _ hy8
 have s2 := cell_of_row _ _ 2 _ _ _ hy8
 rw [hWc.out, hb8.out]
 clear hbc hy8 hWc hb8 HO y6 y7
 go_wp2_with fail
 go_ret
 exact ⟨rfl, HB.out⟩
set_option maxRecDepth 100000 in
set_option maxHeartbeats 4000000 in
theorem runNames_any (w : World) (hF : Fld w) (hL : Lim w) : Calls Tryz.prog 3 #[] w fun e w' => e = .returned (.bool true) ∧ Below w.heap.size w w' := by
 have haw := rawake_any w hF hL
 clear hF hL
 go_enter Tryz.func3, Tryz.ntmps3
 go_wp2_with (go_at_call 5; (with_reducible refine haw.mono ?_); rintro e w1 ⟨rfl, hb⟩)
 go_ret
 exact ⟨rfl, hb⟩
end Go.Proofs.YthhcecllejddeaaGreatDoor
