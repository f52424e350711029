/- A config copied. -/
import Derived.Test.YthhcecllejddeaaGreatDoorGMg
import Derived.Test.YthhcecllejddeaaGreatDoorGNb
import Derived.Test.YthhcecllejddeaaGreatDoorGNc
import Derived.Test.YthhcecllejddeaaGreatDoorGQd
namespace Go.Proofs.YthhcecllejddeaaGreatDoor
open Go.RowKit
theorem pCells_one (l : List Ins) : ∀ u ∈ pCells l, u.oneCell' = true := by
 intro u hu
 simp only [pCells, List.mem_flatMap, insCells] at hu
 obtain ⟨x, _, hx⟩ := hu
 simp only [List.mem_cons, List.not_mem_nil, or_false] at hx
 rcases hx with rfl | rfl | rfl | rfl | rfl <;> rfl
def z27 : Array Value := #[.slice none 0 0, .slice none 0 0, .int .i64 0, .int .i64 0, .int .i64 0, .int .i64 0, .slice none 0 0]
def laD (c : Cfg) (g : Loc) : RowD := ⟨29, 1, g.la, c.labels.length, g.lc, labC c.labels⟩
def taD (c : Cfg) (g : Loc) : RowD := ⟨3, 1, g.ta, c.table.length, g.tc, iC c.table⟩
def psD (c : Cfg) (g : Loc) : RowD := ⟨57, 2, g.pa, c.procs.length, g.pc, psC g.ms⟩
structure CpI (w wr : World) (c : Cfg) (g q : Loc) (j : Nat) : Prop where
 box : wr.heap[w.heap.size]? = some (.cells (cfA c q) 27 (0, 0))
 res : wr.heap[w.heap.size + 1]? = some (.cells z27 27 (0, 0))
 own : Owned (w.heap.size + 2) wr (laD c q :: taD c q :: psD c q :: (q.ms.take j).map prD)
 rest : ∀ k, j ≤ k → q.ms.getD k default = g.ms.getD k default
 ps : psOf q.ms = c.procs
 bel : Below w.heap.size w wr
theorem psC_set : ∀ (ms : List PrM) (j : Nat) (x : PrM), j < ms.length → x.p = (ms.getD j default).p → (psC ms).set (j * 2 + 1) (.slice x.a x.p.code.length x.c) = psC (ms.set j x)
 | [], j, x, h, _ => absurd h (Nat.not_lt_zero j)
 | t :: ts, 0, x, _, e => by
  simp only [List.getD_cons_zero] at e
  simp only [psC, List.flatMap_cons, List.set_cons_zero, prC]
  rw [e]
  rfl
 | t :: ts, j + 1, x, h, e => by
  have ih := psC_set ts j x (by simpa using h) (by simpa using e)
  simp only [psC, List.flatMap_cons, List.set_cons_succ] at *
  rw [← ih, List.set_append_right _ _ (by rw [show (prC t).length = 2 from rfl]; omega), show (prC t).length = 2 from rfl, show (j + 1) * 2 + 1 - 2 = j * 2 + 1 by omega]
theorem psOf_set (ms : List PrM) (j : Nat) (x : PrM) (h : j < ms.length) (e : x.p = (ms.getD j default).p) : psOf (ms.set j x) = psOf ms := by
 unfold psOf
 rw [List.map_set, e, List.getD_eq_getElem?_getD, List.getElem?_eq_getElem h]
 simp only [Option.getD_some]
 rw [← List.getElem_map (f := PrM.p) (h := by simpa using h)]
 exact List.set_getElem_self _
theorem perm_r {α : Type} (d l t p : α) (r : List α) : (p :: d :: l :: t :: r).Perm (l :: t :: p :: (r ++ [d])) := by
 have h1 : (l :: t :: p :: (r ++ [d])).Perm (d :: l :: t :: p :: r) := by
  have := @List.perm_append_comm _ (l :: t :: p :: r) [d]
  simpa using this
 refine List.Perm.trans ?_ h1.symm
 refine (List.Perm.swap d p _).trans (List.Perm.cons d ?_)
 exact (List.Perm.swap l p _).trans (List.Perm.cons l (List.Perm.swap t p _))
theorem perm_f {α : Type} (d l t p : α) (r : List α) : (d :: l :: t :: p :: r).Perm (p :: d :: l :: t :: r) := by
 have h1 : (d :: l :: t :: p :: r).Perm (d :: l :: p :: t :: r) := List.Perm.cons d (List.Perm.cons l (List.Perm.swap p t r))
 have h2 : (d :: l :: p :: t :: r).Perm (d :: p :: l :: t :: r) := List.Perm.cons d (List.Perm.swap p l _)
 exact (h1.trans h2).trans (List.Perm.swap p d _)
theorem CpI.step {w wr w1 : World} {c : Cfg} {g q : Loc} {j gp : Nat} (h : CpI w wr c g q j) (hj : j < c.procs.length) (hgp : q.pa = some ⟨gp, 0, none⟩) (hb : Below wr.heap.size wr w1) {a' : Option Addr} {c' : Nat} (hr : Row w1 54 5 a' (c.procs.getD j default).code.length c' (pCells (c.procs.getD j default).code)) (hn : ∀ k, blk a' = some k → wr.heap.size ≤ k) :
  CpI w (w1.setCell ⟨gp, j * 2 + 1, none⟩ (.slice a' (c.procs.getD j default).code.length c')) c g { q with ms := q.ms.set j ⟨c.procs.getD j default, a', c'⟩ } (j + 1) := by
 obtain ⟨b1, b2, b3, b4, b5, b6⟩ := h
 have hlen : q.ms.length = c.procs.length := by rw [← b5, psOf_len]
 have hp : (q.ms.getD j default).p = c.procs.getD j default := by
  rw [← b5]
  unfold psOf
  rw [List.getD_eq_getElem?_getD, List.getD_eq_getElem?_getD, List.getElem?_map, List.getElem?_eq_getElem (by omega)]
  rfl
 have hs1 := b6.size
 have hs2 := hb.size
 have hBs : w.heap.size + 2 ≤ wr.heap.size := by have := (Array.getElem?_eq_some_iff.1 b2).1; omega
 have hg2 : w.heap.size + 2 ≤ gp := b3.new (psD c q) (by simp) gp (by show blk q.pa = _; rw [hgp]; rfl)
 have o1 := b3.below hb
 have o2 := o1.cons (d := prD ⟨c.procs.getD j default, a', c'⟩) hr (fun k hk => Nat.le_trans hBs (hn k hk)) (fun d hd k hk e => by
  have h1 := hn k hk
  have h2 := b3.lt d hd k e
  omega)
 have o3 := o2.perm (perm_f _ _ _ _ _)
 have hrow : Row w1 57 2 (some ⟨gp, 0, none⟩) c.procs.length q.pc (psC q.ms) := by
  have := o3.head
  simp only [psD, hgp] at this
  exact this
 have hm : Mod (fun k => k = gp) w1 (w1.setCell ⟨gp, j * 2 + 1, none⟩ (.slice a' (c.procs.getD j default).code.length c')) := mod_set _ _ _ _
 have hput := hrow.put (j * 2 + 1) (.slice a' (c.procs.getD j default).code.length c')
 rw [psC_set q.ms j ⟨c.procs.getD j default, a', c'⟩ (by omega) hp.symm] at hput
 have o4 := o3.turn (d' := psD c { q with ms := q.ms.set j ⟨c.procs.getD j default, a', c'⟩ }) (by omega) (hm.mono (fun k _ e => by show blk q.pa = some k; rw [hgp, e]; rfl)) (by show Row _ _ _ q.pa _ _ _; rw [hgp]; exact hput) (fun k hk => .inl hk)
 have o5 := o4.perm (perm_r _ _ _ _ _)
 have et : (q.ms.set j ⟨c.procs.getD j default, a', c'⟩).take (j + 1) = q.ms.take j ++ [⟨c.procs.getD j default, a', c'⟩] := by
  rw [List.take_set, List.take_succ_eq_append_getElem (by omega), List.set_append_right _ _ (by rw [List.length_take]; omega), List.length_take, Nat.min_eq_left (by omega), Nat.sub_self]
  rfl
 refine ⟨?_, ?_, ?_, fun k hk => ?_, ?_, (b6.trans (hb.mono hs1)).setCell (by show _ ≤ gp; omega) _⟩
 ·rw [hm.block _ (by omega) (by omega), hb.block _ (by omega)]
  exact b1
 ·rw [hm.block _ (by omega) (by omega), hb.block _ (by omega)]
  exact b2
 ·simp only [et, List.map_append, List.map_cons, List.map_nil]
  exact o5
 ·rw [← b4 k (by omega)]
  show (q.ms.set j ⟨c.procs.getD j default, a', c'⟩).getD k default = q.ms.getD k default
  rw [List.getD_eq_getElem?_getD, List.getElem?_set_ne (by omega), ← List.getD_eq_getElem?_getD]
 ·exact (psOf_set q.ms j ⟨c.procs.getD j default, a', c'⟩ (by omega) hp.symm).trans b5
def CpOut (w : World) (c : Cfg) (E : Ending) (w' : World) : Prop := ∃ q, E = .returned (cfV c q) ∧ CfO w.heap.size w' c q ∧ Below w.heap.size w w'
theorem seven_set (v0 v1 v2 v3 v4 v5 v6 u0 u1 u2 u3 u4 u5 u6 : Value) : ((((((#[v0, v1, v2, v3, v4, v5, v6].setIfInBounds 0 u0).setIfInBounds 1 u1).setIfInBounds 2 u2).setIfInBounds 3 u3).setIfInBounds 4 u4).setIfInBounds 5 u5).setIfInBounds 6 u6 = #[u0, u1, u2, u3, u4, u5, u6] := by simp
theorem CpI.done {w wr w' : World} {c : Cfg} {g q : Loc} {j : Nat} (h : CpI w wr c g q j) (hj : j = c.procs.length) (hm : Mod (fun k => k = w.heap.size + 1) wr w') : CfO w.heap.size w' c q ∧ Below w.heap.size w w' := by
 obtain ⟨b1, b2, b3, b4, b5, b6⟩ := h
 have hlen : q.ms.length = c.procs.length := by rw [← b5, psOf_len]
 rw [List.take_of_length_le (by omega)] at b3
 have h1 := (b3.mod hm (fun d hd k hk e => by have := b3.new d hd k hk; omega)).mono (B' := w.heap.size) (by omega)
 exact ⟨⟨h1, b5⟩, ((Mod.of_below (fun _ => False) b6).trans hm (fun k e => .inr (by omega))).below (Nat.le_refl _) (fun k _ hk => hk.elim)⟩
theorem CpI.start {w W3 w3 : World} {c : Cfg} {g : Loc} {a1 a2 a3 : Option Addr} {c1 c2 c3 : Nat} (hR : CfR w c g) (box : W3.heap[w.heap.size]? = some (.cells (cfA c ⟨a1, c1, a2, c2, g.pa, g.pc, g.ms⟩) 27 (0, 0))) (res : W3.heap[w.heap.size + 1]? = some (.cells z27 27 (0, 0)))
  (h1 : Row W3 29 1 a1 c.labels.length c1 (labC c.labels)) (n1 : ∀ k, blk a1 = some k → w.heap.size + 2 ≤ k) (h2 : Row W3 3 1 a2 c.table.length c2 (iC c.table)) (n2 : ∀ k, blk a2 = some k → w.heap.size + 2 ≤ k ∧ blk a1 ≠ some k) (bel : Below w.heap.size w W3)
  (h3 : Row w3 57 2 a3 c.procs.length c3 (psC g.ms)) (n3 : ∀ k, blk a3 = some k → W3.heap.size ≤ k) (b3 : Below W3.heap.size W3 w3) : CpI w (w3.setCell ⟨w.heap.size, 6, none⟩ (.slice a3 c.procs.length c3)) c g ⟨a1, c1, a2, c2, a3, c3, g.ms⟩ 0 := by
 have hm : Mod (fun k => k = w.heap.size) w3 (w3.setCell ⟨w.heap.size, 6, none⟩ (.slice a3 c.procs.length c3)) := mod_set _ _ _ _
 have hs := bel.size
 have hs3 := b3.size
 have hl2 := (Array.getElem?_eq_some_iff.1 res).1
 refine ⟨?_, ?_, ?_, fun _ _ => rfl, hR.ps, (bel.trans (b3.mono hs)).setCell (Nat.le_refl _) _⟩
 ·have e1 : w3.heap[w.heap.size]? = _ := (b3.block _ (by omega)).trans box
  rw [heap_setCell_self e1]
  rfl
 ·rw [hm.block _ (by omega) (by omega), b3.block _ (by omega)]
  exact res
 ·simp only [List.take_zero, List.map_nil]
  refine Owned.cons (Owned.cons (Owned.cons (Owned.nil _ _) ?_ ?_ ?_) ?_ ?_ ?_) ?_ ?_ ?_
  ·exact h3.mod hm (fun k hk e => by have := n3 k hk; omega)
  ·exact fun k hk => Nat.le_trans hl2 (n3 k hk)
  ·exact fun d hd => absurd hd List.not_mem_nil
  ·exact (h2.below b3).mod hm (fun k hk e => by have := (n2 k hk).1; omega)
  ·exact fun k hk => (n2 k hk).1
  ·intro d hd k hk e
   rcases List.mem_singleton.1 hd with rfl
   have g1 := n3 k e
   have g2 := h2.lt k hk
   omega
  ·exact (h1.below b3).mod hm (fun k hk e => by have := n1 k hk; omega)
  ·exact n1
  ·intro d hd k hk e
   rcases List.mem_cons.1 hd with rfl | hd
   ·exact (n2 k e).2 hk
   ·rcases List.mem_singleton.1 hd with rfl
    have g1 := n3 k e
    have g2 := h1.lt k hk
    omega
structure CfS (c : Cfg) : Prop where
 l1 : c.labels.length ≤ 1000000
 l2 : c.table.length ≤ 1000000
 l3 : c.procs.length ≤ 1000000
 l4 : ∀ p, p < c.procs.length → (c.procs.getD p default).code.length ≤ 1000000
set_option maxRecDepth 100000 in
set_option maxHeartbeats 4000000 in
theorem copied_any (c : Cfg) (g : Loc) (w : World) (hR : CfR w c g) (hS : CfS c) : Calls Tryz.prog 35 #[cfV c g] w (CpOut w c) := by
 obtain ⟨s1, s2, s3, s4⟩ := hS
 have hb0 := below_al w (.cells (cfA c g) 27)
 have hb1 := hb0.alloc hb0.size (.cells z27 27)
 have hbox : ((w.alloc (.cells (cfA c g) 27)).alloc (.cells z27 27)).heap[w.heap.size]? = some (.cells (cfA c g) 27 (0, 0)) := by
  rw [(below_al (w.alloc (.cells (cfA c g) 27)) _).block _ (by simp)]
  exact heap_alloc_new w _
 have hres : ((w.alloc (.cells (cfA c g) 27)).alloc (.cells z27 27)).heap[w.heap.size + 1]? = some (.cells z27 27 (0, 0)) := by
  have := heap_alloc_new (w.alloc (.cells (cfA c g) 27)) (.cells z27 27)
  simpa using this
 obtain ⟨W0, hW0⟩ : ∃ W, Hid ((w.alloc (.cells (cfA c g) 27)).alloc (.cells z27 27) = W) := ⟨_, rfl⟩
 rw [hW0.out] at hb1 hbox hres
 have HCU : Hid (∀ W, Below w.heap.size w W → Calls Tryz.prog 76 #[.slice g.la c.labels.length g.lc] W (ClOut W 29 1 c.labels.length (labC c.labels))) := hd (fun W hb => cloneU _ _ _ _ W (hR.lab.below hb) (labC_len _) (labC_one _) s1)
 have HCI : Hid (∀ W, Below w.heap.size w W → Calls Tryz.prog 77 #[.slice g.ta c.table.length g.tc] W (ClOut W 3 1 c.table.length (iC c.table))) := hd (fun W hb => cloneI _ _ _ _ W (hR.tab.below hb) (iC_len _) (iC_one _) s2)
 have HCP : Hid (∀ W, Below w.heap.size w W → Calls Tryz.prog 78 #[.slice g.pa c.procs.length g.pc] W (ClOut W 57 2 c.procs.length (psC g.ms))) := hd (fun W hb => cloneP _ _ _ _ W (hR.prs.below hb) (by rw [psC_len, hR.len]) (by
  intro u hu
  simp only [psC, List.mem_flatMap] at hu
  obtain ⟨x, _, hx⟩ := hu
  exact prC_one x u hx) s3)
 have HCN : Hid (∀ j W, j < c.procs.length → Below w.heap.size w W → Calls Tryz.prog 79 #[.slice (g.ms.getD j default).a (c.procs.getD j default).code.length (g.ms.getD j default).c] W (ClOut W 54 5 (c.procs.getD j default).code.length (pCells (c.procs.getD j default).code))) := hd (fun j W hj hb => by
  have hm : g.ms.getD j default ∈ g.ms := by
   have : j < g.ms.length := by rw [hR.len]; exact hj
   rw [List.getD_eq_getElem?_getD, List.getElem?_eq_getElem this]
   exact List.getElem_mem this
  have h1 := (hR.cod _ hm).below hb
  rw [hR.at j] at h1
  exact cloneN _ _ _ _ W h1 (pCells_len _) (pCells_one _) (s4 j hj))
 have HST := hd hR
 obtain ⟨Q, hQ⟩ : ∃ Q, Hid (CpOut w c = Q) := ⟨_, rfl⟩
 rw [hQ.out]
 have hcU := HCU.out W0 hb1
 have c0 : W0.cell? ⟨w.heap.size, 0, none⟩ = some (.slice g.la c.labels.length g.lc) := by rw [cell_of_row _ _ _ _ _ _ hbox]; rfl
 have HK : Hid (∀ (W : World) (cs : Array Value), W.heap[w.heap.size]? = some (.cells cs 27 (0, 0)) → ∀ i, W.cell? ⟨w.heap.size, i, none⟩ = cs[i]? ∧ W.frozen? ⟨w.heap.size, i, none⟩ = false) := hd (fun W cs h i => ⟨cell_of_row _ _ _ _ _ _ h, by simp [World.frozen?, h]⟩)
 replace hbox := hd hbox
 replace hres := hd hres
 replace hb1 := hd hb1
 clear hR hb0
 unfold cfV
 unfold cfA z27 at hW0
 unfold cfA
 go_enter Tryz.func35, Tryz.ntmps35
 go_upto_region 1 with fail
 rw [hW0.out]
 clear hW0
 go_upto_region 2 with (go_at_call 76; (with_reducible refine hcU.mono ?_); rintro e w1 ⟨a1, c1, rfl, r1, n1, b1⟩; have hx1 := hd ((b1.block _ (Array.getElem?_eq_some_iff.1 hbox.out).1).trans hbox.out); obtain ⟨f0, f1⟩ := HK.out w1 _ hx1.out 0)
 obtain ⟨V1, hV1⟩ : ∃ W, Hid (w1.setCell ⟨w.heap.size, 0, none⟩ (.slice a1 c.labels.length c1) = W) := ⟨_, rfl⟩
 have HV1 : Hid (V1.heap[w.heap.size]? = some (.cells (cfA c { g with la := a1, lc := c1 }) 27 (0, 0)) ∧ V1.heap[w.heap.size + 1]? = some (.cells z27 27 (0, 0)) ∧ Row V1 29 1 a1 c.labels.length c1 (labC c.labels) ∧ (∀ k, blk a1 = some k → w.heap.size + 2 ≤ k) ∧ Below w.heap.size w V1) := hd (by
  rw [← hV1.out]
  have hm : Mod (fun k => k = w.heap.size) w1 (w1.setCell ⟨w.heap.size, 0, none⟩ (.slice a1 c.labels.length c1)) := mod_set _ _ _ _
  have hl := (Array.getElem?_eq_some_iff.1 hres.out).1
  have hs := b1.size
  refine ⟨?_, ?_, r1.mod hm (fun k hk e => by have := n1 k hk; omega), fun k hk => by have := n1 k hk; omega, (hb1.out.trans (b1.mono hb1.out.size)).setCell (Nat.le_refl _) _⟩
  ·rw [heap_setCell_self hx1.out]
   rfl
  ·rw [hm.block _ (by omega) (by omega), b1.block _ (by omega)]
   exact hres.out)
 rw [hV1.out]
 clear hV1 f0 f1 hx1 r1 n1 b1 hcU c0 hbox hres hb1
 have hcI := HCI.out V1 HV1.out.2.2.2.2
 obtain ⟨c1', -⟩ := HK.out V1 _ HV1.out.1 1
 replace c1' : V1.cell? ⟨w.heap.size, 1, none⟩ = some (.slice g.ta c.table.length g.tc) := c1'
 go_upto_region 3 with (go_at_call 77; (with_reducible refine hcI.mono ?_); rintro e w2 ⟨a2, c2, rfl, r2, n2, b2⟩; have hx2 := hd ((b2.block _ (Array.getElem?_eq_some_iff.1 HV1.out.1).1).trans HV1.out.1); obtain ⟨f0, f1⟩ := HK.out w2 _ hx2.out 1)
 obtain ⟨V2, hV2⟩ : ∃ W, Hid (w2.setCell ⟨w.heap.size, 1, none⟩ (.slice a2 c.table.length c2) = W) := ⟨_, rfl⟩
 have HV2 : Hid (V2.heap[w.heap.size]? = some (.cells (cfA c ⟨a1, c1, a2, c2, g.pa, g.pc, g.ms⟩) 27 (0, 0)) ∧ V2.heap[w.heap.size + 1]? = some (.cells z27 27 (0, 0)) ∧ Row V2 29 1 a1 c.labels.length c1 (labC c.labels) ∧ (∀ k, blk a1 = some k → w.heap.size + 2 ≤ k) ∧ Row V2 3 1 a2 c.table.length c2 (iC c.table) ∧ (∀ k, blk a2 = some k → w.heap.size + 2 ≤ k ∧ blk a1 ≠ some k) ∧ Below w.heap.size w V2) := hd (by
  rw [← hV2.out]
  obtain ⟨k1, k2, k3, k4, k5⟩ := HV1.out
  have hm : Mod (fun k => k = w.heap.size) w2 (w2.setCell ⟨w.heap.size, 1, none⟩ (.slice a2 c.table.length c2)) := mod_set _ _ _ _
  have hl := (Array.getElem?_eq_some_iff.1 k2).1
  have hs := b2.size
  have hrl := k3.lt
  refine ⟨?_, ?_, (k3.below b2).mod hm (fun k hk e => by have := k4 k hk; omega), k4, r2.mod hm (fun k hk e => by have := n2 k hk; omega), fun k hk => ⟨by have := n2 k hk; omega, fun e => by have := n2 k hk; have := hrl k e; omega⟩, (k5.trans (b2.mono k5.size)).setCell (Nat.le_refl _) _⟩
  ·rw [heap_setCell_self hx2.out]
   rfl
  ·rw [hm.block _ (by omega) (by omega), b2.block _ (by omega)]
   exact k2)
 rw [hV2.out]
 clear hV2 f0 f1 hx2 r2 n2 b2 hcI c1' HV1
 have hcP := HCP.out V2 HV2.out.2.2.2.2.2.2
 obtain ⟨c6', -⟩ := HK.out V2 _ HV2.out.1 6
 replace c6' : V2.cell? ⟨w.heap.size, 6, none⟩ = some (.slice g.pa c.procs.length g.pc) := c6'
 go_upto_region 4 with (go_at_call 78; (with_reducible refine hcP.mono ?_); rintro e w3 ⟨a3, c3, rfl, r3, n3, b3⟩; have hx3 := hd ((b3.block _ (Array.getElem?_eq_some_iff.1 HV2.out.1).1).trans HV2.out.1); obtain ⟨f0, f1⟩ := HK.out w3 _ hx3.out 6)
 obtain ⟨V3, hV3⟩ : ∃ W, Hid (w3.setCell ⟨w.heap.size, 6, none⟩ (.slice a3 c.procs.length c3) = W) := ⟨_, rfl⟩
 have HI0 : Hid (CpI w V3 c g ⟨a1, c1, a2, c2, a3, c3, g.ms⟩ 0) := hd (by
  rw [← hV3.out]
  obtain ⟨k1, k2, k3, k4, k5, k6, k7⟩ := HV2.out
  exact CpI.start HST.out k1 k2 k3 k4 k5 k6 k7 r3 n3 b3)
 rw [hV3.out]
 clear hV3 f0 f1 hx3 r3 n3 b3 hcP c6' HV2 HCU HCI HCP
 obtain ⟨c6, -⟩ := HK.out V3 _ HI0.out.box 6
 replace c6 : V3.cell? ⟨w.heap.size, 6, none⟩ = some (.slice a3 c.procs.length c3) := c6
 obtain ⟨np, hnp⟩ : ∃ n, Hid (c.procs.length = n) := ⟨_, rfl⟩
 rw [hnp.out] at c6 s3
 go_wp2_with fail
 go_loopg [19] np (fun k v19 wr => ∃ (j : Nat), v19 = .int .i64 (j : Int) ∧ j + k = np ∧ Hid (∃ ms, CpI w wr c g ⟨a1, c1, a2, c2, a3, c3, ms⟩ j))
 case atStart => exact ⟨0, rfl, by omega, hd ⟨_, HI0.out⟩⟩
 case round =>
  obtain ⟨j, rfl, hjk, HH⟩ := hrel
  clear HI0 c6
  obtain ⟨ms, hI⟩ := HH.out
  clear HH
  by_cases hlt : j < np
  ·have hlt' : (j : Int) < (np : Int) := by omega
   have hj : j < c.procs.length := by rw [hnp.out]; exact hlt
   have hrow := hI.own.ok (psD c ⟨a1, c1, a2, c2, a3, c3, ms⟩) (by simp)
   obtain ⟨gp, hgp⟩ : ∃ gp, a3 = some ⟨gp, 0, none⟩ := Row.head hrow (by simp only [psD]; omega)
   subst hgp
   have hml : ms.length = c.procs.length := by rw [← hI.ps, psOf_len]
   have HRW : Hid (∀ W, Below wr.heap.size wr W → W.cell? ⟨w.heap.size, 6, none⟩ = some (.slice (some ⟨gp, 0, none⟩) np c3) ∧ W.cell? ⟨gp, j * 2 + 1, none⟩ = some (.slice (g.ms.getD j default).a (c.procs.getD j default).code.length (g.ms.getD j default).c) ∧ W.frozen? ⟨gp, j * 2 + 1, none⟩ = false) := hd (fun W hb => by
    obtain ⟨k1, -⟩ := HK.out W _ ((hb.block _ (Array.getElem?_eq_some_iff.1 hI.box).1).trans hI.box) 6
    have hr2 := Row.below hrow hb
    obtain ⟨g2, e2, k2⟩ := Row.cell hr2 (j * 2 + 1) (by simp only [psD]; omega)
    cases e2
    refine ⟨by rw [k1, ← hnp.out]; rfl, ?_, Row.free hr2 _ gp rfl⟩
    rw [k2]
    show (psC ms)[j * 2 + 1]? = _
    rw [(psC_at ms j (by omega)).2]
    have e1 := hI.rest j (Nat.le_refl _)
    simp only at e1
    rw [e1, HST.out.at j])
   obtain ⟨d6, dr, df⟩ := HRW.out wr (Below.refl _ _)
   have hcN := HCN.out j wr.drew hj (hI.bel.drew)
   have HI := hd hI
   obtain ⟨cn, hcn⟩ : ∃ n, Hid ((c.procs.getD j default).code.length = n) := ⟨_, rfl⟩
   have HS : Hid (∀ w1 a' c', Row w1 54 5 a' cn c' (pCells (c.procs.getD j default).code) → (∀ k, blk a' = some k → wr.drew.heap.size ≤ k) → Below wr.drew.heap.size wr.drew w1 → ∃ ms, CpI w (w1.setCell ⟨gp, j * 2 + 1, none⟩ (.slice a' cn c')) c g ⟨a1, c1, a2, c2, some ⟨gp, 0, none⟩, c3, ms⟩ (j + 1)) := hd (fun w1 a' c' h1 h2 h3 => by
    rw [← hcn.out] at h1 ⊢
    exact ⟨_, HI.out.step hj rfl (bel_dr h3) h1 h2⟩)
   rw [hcn.out] at hcN dr HRW
   obtain ⟨ga, hga⟩ : ∃ x, Hid ((g.ms.getD j default).a = x) := ⟨_, rfl⟩
   obtain ⟨gc, hgc⟩ : ∃ x, Hid ((g.ms.getD j default).c = x) := ⟨_, rfl⟩
   rw [hga.out, hgc.out] at hcN dr HRW
   clear hI hrow hj hml
   go_upto_region 7 with fail
   have hne1 : gp ≠ w.heap.size := by have := HI.out.own.new (psD c ⟨a1, c1, a2, c2, some ⟨gp, 0, none⟩, c3, ms⟩) (by simp) gp rfl; omega
   have hne2 : w.heap.size ≠ gp := fun e => hne1 e.symm
   go_region_law (first
     | (go_simp; (with_reducible refine hcN.mono ?_); rintro e w1 ⟨a', c', rfl, r1, r2, r3⟩; obtain ⟨g6, gr, gf⟩ := HRW.out w1 (bel_dr r3)))
   all_goals (
    go_wp2_with fail
    go_roundg (gk - 1)
    case rel => exact ⟨j + 1, by go_num, by omega, hd (HS.out w1 a' c' r1 r2 r3)⟩
    case measure => omega)
  ·have ej : j = np := by omega
   subst ej
   have hx := hI.box
   have hb2 := hI.res
   have HF := hd hI
   clear hI
   have HO : Hid (Q (.returned (.agg #[.slice a1 c.labels.length c1, .slice a2 c.table.length c2, .int .i64 c.fuel, .int .i64 c.lane, .int .i64 c.locks, .int .i64 c.log, .slice a3 c.procs.length c3])) (((((((wr.setCell ⟨w.heap.size + 1, 0, none⟩ (.slice a1 c.labels.length c1)).setCell ⟨w.heap.size + 1, 1, none⟩ (.slice a2 c.table.length c2)).setCell ⟨w.heap.size + 1, 2, none⟩ (.int .i64 c.fuel)).setCell ⟨w.heap.size + 1, 3, none⟩ (.int .i64 c.lane)).setCell ⟨w.heap.size + 1, 4, none⟩ (.int .i64 c.locks)).setCell ⟨w.heap.size + 1, 5, none⟩ (.int .i64 c.log)).setCell ⟨w.heap.size + 1, 6, none⟩ (.slice a3 c.procs.length c3))) := hd (by
    rw [← hQ.out]
    have hm : Mod (fun k => k = w.heap.size + 1) wr (((((((wr.setCell ⟨w.heap.size + 1, 0, none⟩ (.slice a1 c.labels.length c1)).setCell ⟨w.heap.size + 1, 1, none⟩ (.slice a2 c.table.length c2)).setCell ⟨w.heap.size + 1, 2, none⟩ (.int .i64 c.fuel)).setCell ⟨w.heap.size + 1, 3, none⟩ (.int .i64 c.lane)).setCell ⟨w.heap.size + 1, 4, none⟩ (.int .i64 c.locks)).setCell ⟨w.heap.size + 1, 5, none⟩ (.int .i64 c.log)).setCell ⟨w.heap.size + 1, 6, none⟩ (.slice a3 c.procs.length c3)) := mod_sets (mod_sets (mod_sets (mod_sets (mod_sets (mod_sets (mod_set _ _ _ _) _ _) _ _) _ _) _ _) _ _) _ _
    obtain ⟨k1, k2⟩ := HF.out.done hnp.out.symm hm
    exact ⟨_, rfl, k1, k2⟩)
   have HZ : Hid ((((((((wr.setCell ⟨w.heap.size + 1, 0, none⟩ (.slice a1 c.labels.length c1)).setCell ⟨w.heap.size + 1, 1, none⟩ (.slice a2 c.table.length c2)).setCell ⟨w.heap.size + 1, 2, none⟩ (.int .i64 c.fuel)).setCell ⟨w.heap.size + 1, 3, none⟩ (.int .i64 c.lane)).setCell ⟨w.heap.size + 1, 4, none⟩ (.int .i64 c.locks)).setCell ⟨w.heap.size + 1, 5, none⟩ (.int .i64 c.log)).setCell ⟨w.heap.size + 1, 6, none⟩ (.slice a3 c.procs.length c3)).heap[w.heap.size + 1]? = some (.cells #[.slice a1 c.labels.length c1, .slice a2 c.table.length c2, .int .i64 c.fuel, .int .i64 c.lane, .int .i64 c.locks, .int .i64 c.log, .slice a3 c.procs.length c3] 27 (0, 0))) := hd (by
    unfold z27 at hb2
    rw [heap_setCell_self (heap_setCell_self (heap_setCell_self (heap_setCell_self (heap_setCell_self (heap_setCell_self (heap_setCell_self hb2 _) _) _) _) _) _) _, seven_set])
   unfold cfA at hx
   unfold z27 at hb2
   have x0 := cell_of_row wr w.heap.size 0 _ _ _ hx
   have x1 := cell_of_row wr w.heap.size 1 _ _ _ hx
   have x2 := cell_of_row wr w.heap.size 2 _ _ _ hx
   have x3 := cell_of_row wr w.heap.size 3 _ _ _ hx
   have x4 := cell_of_row wr w.heap.size 4 _ _ _ hx
   have x5 := cell_of_row wr w.heap.size 5 _ _ _ hx
   have x6 := cell_of_row wr w.heap.size 6 _ _ _ hx
   have y0 := cell_of_row wr (w.heap.size + 1) 0 _ _ _ hb2
   have y1 := cell_of_row wr (w.heap.size + 1) 1 _ _ _ hb2
   have y2 := cell_of_row wr (w.heap.size + 1) 2 _ _ _ hb2
   have y3 := cell_of_row wr (w.heap.size + 1) 3 _ _ _ hb2
   have y4 := cell_of_row wr (w.heap.size + 1) 4 _ _ _ hb2
   have y5 := cell_of_row wr (w.heap.size + 1) 5 _ _ _ hb2
   have y6 := cell_of_row wr (w.heap.size + 1) 6 _ _ _ hb2
   have yf : ∀ i, wr.frozen? ⟨w.heap.size + 1, i, none⟩ = false := fun i => by simp [World.frozen?, hb2]
   go_wp2_with fail
   refine bodyPost_ret (v := .agg #[.slice a1 c.labels.length c1, .slice a2 c.table.length c2, .int .i64 c.fuel, .int .i64 c.lane, .int .i64 c.locks, .int .i64 c.log, .slice a3 c.procs.length c3]) ?_ rfl HO.out
   have t0 := cell_of_row _ (w.heap.size + 1) 0 _ _ _ HZ.out
   have t1 := cell_of_row _ (w.heap.size + 1) 1 _ _ _ HZ.out
   have t2 := cell_of_row _ (w.heap.size + 1) 2 _ _ _ HZ.out
   have t3 := cell_of_row _ (w.heap.size + 1) 3 _ _ _ HZ.out
   have t4 := cell_of_row _ (w.heap.size + 1) 4 _ _ _ HZ.out
   have t5 := cell_of_row _ (w.heap.size + 1) 5 _ _ _ HZ.out
   have t6 := cell_of_row _ (w.heap.size + 1) 6 _ _ _ HZ.out
   clear HO HZ x0 x1 x2 x3 x4 x5 x6 y0 y1 y2 y3 y4 y5 y6 yf hx hb2 HF
   generalize World.setCell _ _ _ = Wf at *
   simp at t0 t1 t2 t3 t4 t5 t6
   simp [results, Tryz.results35, go_sem, t0, t1, t2, t3, t4, t5, t6]
end Go.Proofs.YthhcecllejddeaaGreatDoor

namespace Go.Proofs.YthhcecllejddeaaGreatDoor
open Go.RowKit
theorem code_len {l : List Ins} {k : Int} (h : (mayL l k).1 = 0) : l.length ≤ 256 := by
 unfold mayL at h
 split at h
 ·cases h
 ·split at h
  ·cases h
  ·omega
theorem CfgOk.small {c : Cfg} (h : CfgOk c) : CfS c :=
 ⟨by have := h.n8; omega, by have := h.t64; omega, by have := h.p32; omega, fun p hp => by have := code_len (h.code p hp); unfold cd at this; omega⟩
theorem CfO.klt {B : Nat} {w : World} {c : Cfg} {q : Loc} (h : CfO B w c q) : ∀ k, cfB q k → B ≤ k ∧ k < w.heap.size := by
 intro k hk
 rcases hk with hk | hk | hk | ⟨m, hm, hk⟩
 ·exact ⟨h.own.new (laD c q) (by simp [laD, cfD]) k hk, h.own.lt (laD c q) (by simp [laD, cfD]) k hk⟩
 ·exact ⟨h.own.new (taD c q) (by simp [taD, cfD]) k hk, h.own.lt (taD c q) (by simp [taD, cfD]) k hk⟩
 ·exact ⟨h.own.new (psD c q) (by simp [psD, cfD]) k hk, h.own.lt (psD c q) (by simp [psD, cfD]) k hk⟩
 ·have hp : prD m ∈ (q.ms.map prD) := List.mem_map_of_mem hm
  exact ⟨h.own.new (prD m) (List.mem_cons_of_mem _ (List.mem_cons_of_mem _ (List.mem_cons_of_mem _ hp))) k hk, h.own.lt (prD m) (List.mem_cons_of_mem _ (List.mem_cons_of_mem _ (List.mem_cons_of_mem _ hp))) k hk⟩
def NwOut (w : World) (c : Cfg) (E : Ending) (w' : World) : Prop := ∃ l U, E = .returned (.tuple #[.pointer (some ⟨l.bm, 0, none⟩), .int .i64 0]) ∧ Mk w' l U (firstM c) ∧ l.c = c ∧ (∀ k, U k → w.heap.size ≤ k) ∧ (∀ k, l.K k → w.heap.size ≤ k ∨ k = 1 ∨ k = 0) ∧ Below w.heap.size w w'
set_option maxRecDepth 100000 in
set_option maxHeartbeats 4000000 in
theorem new_ok (c : Cfg) (g : Loc) (w : World) (hR : CfR w c g) (hF : Fld w) (hL : Lim w) (hm : (mayC c).1 = 0) (hlab : ∀ x ∈ c.labels, x < 18446744073709551616) (hj : ∀ p, p < c.procs.length → Cpu.Jmp (cd c p)) : Calls Tryz.prog 19 #[cfV c g] w (NwOut w c) := by
 have HLO := hd (layOk_first hm hlab hj)
 have HR := hd hR
 have HF := hd hF
 have HL := hd hL
 obtain ⟨Q, hQ⟩ : ∃ Q, Hid (NwOut w c = Q) := ⟨_, rfl⟩
 rw [hQ.out]
 have HF1 : Hid (∀ W, Below w.heap.size w W → Fld W) := hd (fun W hb => Fld.mod HF.out (Mod.of_below (fun _ => False) hb) (fun h => h))
 have HL1 : Hid (∀ W, Below w.heap.size w W → Lim W) := hd (fun W hb => Lim.mod HL.out (Mod.of_below (fun _ => False) hb) (fun h => h))
 have hb0 := below_al w (.cells (cfA c g) 27)
 have hbx := heap_alloc_new w (.cells (cfA c g) 27)
 obtain ⟨W0, hW0⟩ : ∃ W, Hid (w.alloc (.cells (cfA c g) 27) = W) := ⟨_, rfl⟩
 rw [hW0.out] at hb0 hbx
 obtain ⟨B, hB⟩ : ∃ B, Hid (w.heap.size = B) := ⟨_, rfl⟩
 have hWs : W0.heap.size = B + 1 := by rw [← hW0.out, ← hB.out]; simp
 have HD : Hid (∀ W, Below W0.heap.size W0 W → W.cell? ⟨B, 0, none⟩ = some (.slice g.la c.labels.length g.lc) ∧ W.cell? ⟨B, 1, none⟩ = some (.slice g.ta c.table.length g.tc) ∧ W.cell? ⟨B, 2, none⟩ = some (.int .i64 c.fuel) ∧ W.cell? ⟨B, 3, none⟩ = some (.int .i64 c.lane) ∧ W.cell? ⟨B, 4, none⟩ = some (.int .i64 c.locks) ∧ W.cell? ⟨B, 5, none⟩ = some (.int .i64 c.log) ∧ W.cell? ⟨B, 6, none⟩ = some (.slice g.pa c.procs.length g.pc)) := hd (fun W hb => by
  have hk : W.heap[B]? = some (.cells (cfA c g) 27 (0, 0)) := by rw [hb.block _ (by omega), ← hB.out]; exact hbx
  refine ⟨?_, ?_, ?_, ?_, ?_, ?_, ?_⟩ <;> (rw [cell_of_row _ _ _ _ _ _ hk]; rfl))
 have HB0 := hd hb0
 have HBW : Hid (∀ W, Below W0.heap.size W0 W → Below w.heap.size w W) := hd (fun W hb => HB0.out.trans (hb.mono HB0.out.size))
 have hmay := cmay_any c g W0 (hR.below hb0) (HF1.out W0 hb0) (HL1.out W0 hb0)
 rw [hm] at hmay
 unfold cfV cfA at hmay
 obtain ⟨v0, v1, v2, v3, v4, v5, v6⟩ := HD.out W0 (Below.refl _ _)
 have HCP : Hid (∀ W, Below W0.heap.size W0 W → Calls Tryz.prog 35 #[cfV c g] W (CpOut W c)) := hd (fun W hb => copied_any c g W (HR.out.below (HBW.out W hb)) HLO.out.cfg.small)
 have HFI : Hid (∀ W, Calls Tryz.prog 36 #[cfV c g] W (StOut W (firstM c))) := hd (fun W => first_any c g W HLO.out.cfg)
 have HLD : Hid (∀ (q : Loc) (w2 w3 : World) (B2 : Nat) ps a ca qs b cb Fs, CfO B2 w2 c q → Below w.heap.size w w2 → Below w2.heap.size w2 w3 → ST w2.heap.size w3 (firstM c) ps a ca qs b cb Fs → Calls Tryz.prog 34 #[cfV c q, stV (firstM c) a ca b cb] w3 (LdOut w3 c q (kOf q) (firstM c))) := hd (fun q w2 w3 B2 ps a ca qs b cb Fs hq hb2 hb3 hst => by
  have hb4 := hb2.trans (hb3.mono hb2.size)
  refine laid_any c q (firstM c) ps a ca qs b cb w3 (hq.rd.below hb3) (HF1.out w3 hb4) (HL1.out w3 hb4) (fun k hk => ?_) (hst.rd HLO.out.shp) HLO.out
  rcases hk with hk | rfl | rfl
  ·exact Nat.lt_of_lt_of_le (hq.klt k hk).2 hb3.size
  ·exact World.block_lt_of_cell? w3 ⟨1, 0, none⟩ (HF1.out w3 hb4 0 (by decide))
  ·exact World.block_lt_of_cell? w3 ⟨0, 0, none⟩ (HL1.out w3 hb4 0 (by decide)))
 clear hR hF hL hm hlab hb0 hbx hWs
 unfold cfV cfA at HCP HFI
 unfold cfA at hW0
 unfold cfV cfA
 go_enter Tryz.func19, Tryz.ntmps19
 go_upto_region 1 with fail
 rw [hW0.out, hB.out]
 clear hW0
 go_upto_region 4 with (go_at_call 33; (with_reducible refine hmay.mono ?_); rintro e w1 ⟨rfl, hb1⟩)
 clear v0 v1 v2 v3 v4 v5 v6 hmay
 obtain ⟨v0, v1, v2, v3, v4, v5, v6⟩ := HD.out w1 hb1
 have hcp := HCP.out w1.drew hb1.drew
 go_region_held3 (fun w' => w'.cell? ⟨B, 0, none⟩ = some (.slice g.la c.labels.length g.lc) ∧ w'.cell? ⟨B, 1, none⟩ = some (.slice g.ta c.table.length g.tc) ∧ w'.cell? ⟨B, 2, none⟩ = some (.int .i64 c.fuel) ∧ w'.cell? ⟨B, 3, none⟩ = some (.int .i64 c.lane) ∧ w'.cell? ⟨B, 4, none⟩ = some (.int .i64 c.locks) ∧ w'.cell? ⟨B, 5, none⟩ = some (.int .i64 c.log) ∧ w'.cell? ⟨B, 6, none⟩ = some (.slice g.pa c.procs.length g.pc)) (go_keep)
  (first
   | (go_at_call 35; (with_reducible refine hcp.mono ?_); rintro e w2 ⟨q, rfl, hq, hb2⟩; have hb2' := bel_dr hb2; have hbb2 := hb1.trans (hb2'.mono hb1.size); obtain ⟨s0, s1, s2, s3, s4, s5, s6⟩ := HD.out w2 hbb2; have hfi := HFI.out w2)
   | (go_at_call 36; (with_reducible refine hfi.mono ?_); rintro e w3 ⟨ps, a, ca, qs, b, cb, Fs, rfl, hst, hb3⟩; have hbb3 := hbb2.trans (hb3.mono hbb2.size); obtain ⟨t0, t1, t2, t3, t4, t5, t6⟩ := HD.out w3 hbb3; have hld := HLD.out q w2 w3 _ ps a ca qs b cb Fs hq (HBW.out w2 hbb2) hb3 hst)
   | (go_at_call 34; (with_reducible refine hld.mono ?_); rintro e w4 ⟨l, U, rfl, k1, k2, k3, k4, k5, k6⟩; have hbb4 := hbb3.trans (k6.mono hbb3.size); obtain ⟨r0, r1, r2, r3, r4, r5, r6⟩ := HD.out w4 hbb4))
 have HO : Hid (Q (.returned (.tuple #[.pointer (some ⟨l.bm, 0, none⟩), .int .i64 0])) w4) := hd (by
  rw [← hQ.out]
  have g1 := (HBW.out w1 hb1).size
  have g3 := (HBW.out w3 hbb3).size
  refine ⟨l, U, rfl, k1, k2, fun k hk => Nat.le_trans g3 (k5 k hk), fun k hk => ?_, HBW.out w4 hbb4⟩
  rw [k4] at hk
  rcases hk with hk | hk
  ·have : w1.heap.size ≤ k := (hq.klt k hk).1
   exact .inl (by omega)
  ·exact .inr hk)
 clear k1 k2 k3 k4 k5 k6 hq hst hld hfi hcp
 go_wp2_with fail
 exact HO.out
end Go.Proofs.YthhcecllejddeaaGreatDoor
