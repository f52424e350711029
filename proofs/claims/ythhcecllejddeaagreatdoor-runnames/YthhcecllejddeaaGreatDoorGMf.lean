/- How a partition stands, as it is told. -/
import Derived.Test.YthhcecllejddeaaGreatDoorGJc
import Derived.Test.YthhcecllejddeaaGreatDoorGMe
import Derived.Test.YthhcecllejddeaaGreatDoorGWd
namespace Go.Proofs.YthhcecllejddeaaGreatDoor
open Go.RowKit
structure PtT where
 x : PtS
 la : Option Addr
 lc : Nat
 oa : Option Addr
 oc : Nat
 qa : Option Addr
 qc : Nat
 es : List Locks.Qe
instance : Inhabited PtT := ⟨⟨default, none, 0, none, 0, none, 0, []⟩⟩
def ptL (t : PtT) : List Value := [.int .i64 (t.x.cur : Int), .slice t.la t.x.log.length t.lc, .int .i64 t.x.lost, .int .i64 t.x.forb, .slice t.oa t.x.os.length t.oc, .slice t.qa t.x.os.length t.qc]
def ptV (t : PtT) : Value := .agg (ptL t).toArray
structure PtTAt (B : Nat) (w : World) (t : PtT) (F : Nat → Prop) : Prop where
 log : Row w 163 3 t.la t.x.log.length t.lc (enC t.x.log)
 own : Row w 3 1 t.oa t.x.os.length t.oc (Locks.iC t.x.os)
 ql : Locks.QL w B 0 t.qa t.qc t.es
 qs : Locks.qsOf t.es = t.x.qs
 ge : ∀ k, F k → B ≤ k
 lt : ∀ k, F k → k < w.heap.size
 fl : ∀ k, blk t.la = some k → F k
 fo : ∀ k, blk t.oa = some k → F k
 fq : ∀ k, Locks.qfp 0 t.qa t.es k → F k
 ap1 : ∀ k, blk t.la = some k → blk t.oa ≠ some k ∧ ¬ Locks.qfp 0 t.qa t.es k
 ap2 : ∀ k, blk t.oa = some k → ¬ Locks.qfp 0 t.qa t.es k
theorem PtTAt.mod {B : Nat} {w w' : World} {t : PtT} {F S : Nat → Prop} (h : PtTAt B w t F) (hm : Mod S w w') (hn : ∀ k, F k → ¬ S k) : PtTAt B w' t F :=
 ⟨h.log.mod hm (fun k hk => hn k (h.fl k hk)), h.own.mod hm (fun k hk => hn k (h.fo k hk)), h.ql.mod hm (fun k hk => hn k (h.fq k hk)), h.qs, h.ge, fun k hk => Nat.lt_of_lt_of_le (h.lt k hk) hm.size, h.fl, h.fo, h.fq, h.ap1, h.ap2⟩
def PtOut (w : World) (x : PtS) (E : Ending) (w' : World) : Prop := ∃ t F, E = .returned (ptV t) ∧ t.x = x ∧ PtTAt w.heap.size w' t F ∧ Below w.heap.size w w'
def z66 : Array Value := #[.int .i64 0, .slice none 0 0, .int .i64 0, .int .i64 0, .slice none 0 0, .slice none 0 0]
structure PtI (w : World) (x : PtS) (G : Nat) (wy : World) (a' : Option Addr) (c' : Nat) : Prop where
 box : wy.heap[G]? = some (.cells #[.int .i64 (x.cur : Int), .slice a' x.log.length c', .int .i64 x.lost, .int .i64 x.forb, .slice none 0 0, .slice none 0 0] 104 (0, 0))
 res : wy.heap[w.heap.size]? = some (.cells z66 104 (0, 0))
 row : Row wy 163 3 a' x.log.length c' (enC x.log)
 bel : Below w.heap.size w wy
 gt : w.heap.size < G
 new : ∀ k, blk a' = some k → w.heap.size < k ∧ k ≠ G
theorem six_set (v0 v1 v2 v3 v4 v5 u0 u1 u2 u3 u4 u5 : Value) : (((((#[v0, v1, v2, v3, v4, v5].setIfInBounds 0 u0).setIfInBounds 1 u1).setIfInBounds 2 u2).setIfInBounds 3 u3).setIfInBounds 4 u4).setIfInBounds 5 u5 = #[u0, u1, u2, u3, u4, u5] := by simp
theorem six_cells {W : World} {g : Nat} {T : TypeId} {v0 v1 v2 v3 v4 v5 : Value} (h : W.heap[g]? = some (.cells #[v0, v1, v2, v3, v4, v5] T (0, 0))) (u0 u1 u2 u3 u4 u5 : Value) : ((((((W.setCell ⟨g, 0, none⟩ u0).setCell ⟨g, 1, none⟩ u1).setCell ⟨g, 2, none⟩ u2).setCell ⟨g, 3, none⟩ u3).setCell ⟨g, 4, none⟩ u4).setCell ⟨g, 5, none⟩ u5).heap[g]? = some (.cells #[u0, u1, u2, u3, u4, u5] T (0, 0)) := by
 rw [heap_setCell_self (heap_setCell_self (heap_setCell_self (heap_setCell_self (heap_setCell_self (heap_setCell_self h u0) u1) u2) u3) u4) u5, six_set]
theorem six_mod (W : World) (g : Nat) (u0 u1 u2 u3 u4 u5 : Value) : Mod (fun k => k = g) W ((((((W.setCell ⟨g, 0, none⟩ u0).setCell ⟨g, 1, none⟩ u1).setCell ⟨g, 2, none⟩ u2).setCell ⟨g, 3, none⟩ u3).setCell ⟨g, 4, none⟩ u4).setCell ⟨g, 5, none⟩ u5) :=
 mod_sets (mod_sets (mod_sets (mod_sets (mod_sets (mod_set _ _ _ _) _ _) _ _) _ _) _ _) _ _
theorem ptI_first {w W0 w1 : World} {x : PtS} {a' : Option Addr} {c' : Nat} (hb0 : Below w.heap.size w W0) (hs0 : W0.heap.size = w.heap.size + 1) (hres : W0.heap[w.heap.size]? = some (.cells z66 104 (0, 0))) (r1 : Row w1 163 3 a' x.log.length c' (enC x.log)) (r2 : ∀ k, blk a' = some k → W0.drew.heap.size ≤ k) (r3 : Below W0.drew.heap.size W0.drew w1) :
  PtI w x w1.heap.size (w1.alloc (.cells #[.int .i64 (x.cur : Int), .slice a' x.log.length c', .int .i64 x.lost, .int .i64 x.forb, .slice none 0 0, .slice none 0 0] 104)) a' c' := by
 have hb1 := bel_dr r3
 have hsz : W0.heap.size ≤ w1.heap.size := hb1.size
 have hr : w1.heap[w.heap.size]? = some (.cells z66 104 (0, 0)) := by rw [hb1.block _ (by omega)]; exact hres
 have hbw := hb0.trans (hb1.mono hb0.size)
 refine ⟨heap_alloc_new _ _, by rw [(below_al w1 _).block _ (by omega)]; exact hr, r1.below (below_al w1 _), hbw.alloc hbw.size _, by omega, fun k hk => ?_⟩
 have h1 : W0.heap.size ≤ k := r2 k hk
 have h2 := r1.lt k hk
 omega
theorem ptI_second {w W0 w1 : World} {x : PtS} {a' : Option Addr} {c' : Nat} (hb0 : Below w.heap.size w W0) (hs0 : W0.heap.size = w.heap.size + 1) (hres : W0.heap[w.heap.size]? = some (.cells z66 104 (0, 0))) (r1 : Row w1 163 3 a' x.log.length c' (enC x.log)) (r2 : ∀ k, blk a' = some k → (W0.alloc (.cells z66 104)).drew.heap.size ≤ k) (r3 : Below (W0.alloc (.cells z66 104)).drew.heap.size (W0.alloc (.cells z66 104)).drew w1) :
  PtI w x W0.heap.size ((((((w1.setCell ⟨W0.heap.size, 0, none⟩ (.int .i64 (x.cur : Int))).setCell ⟨W0.heap.size, 1, none⟩ (.slice a' x.log.length c')).setCell ⟨W0.heap.size, 2, none⟩ (.int .i64 x.lost)).setCell ⟨W0.heap.size, 3, none⟩ (.int .i64 x.forb)).setCell ⟨W0.heap.size, 4, none⟩ (.slice none 0 0)).setCell ⟨W0.heap.size, 5, none⟩ (.slice none 0 0)) a' c' := by
 have hb1 : Below W0.heap.size W0 w1 := ((below_al W0 _).drew).trans (r3.mono (by simp [World.drew]))
 have hsz : W0.heap.size < w1.heap.size := by have := r3.size; simp [World.drew] at this; omega
 have hg : w1.heap[W0.heap.size]? = some (.cells z66 104 (0, 0)) := by
  have h1 : (W0.alloc (.cells z66 104)).drew.heap[W0.heap.size]? = some (.cells z66 104 (0, 0)) := heap_alloc_new W0 _
  exact (r3.block _ (Array.getElem?_eq_some_iff.1 h1).1).trans h1
 have hr : w1.heap[w.heap.size]? = some (.cells z66 104 (0, 0)) := by rw [hb1.block _ (by omega)]; exact hres
 have hbw := hb0.trans (hb1.mono hb0.size)
 have hm := six_mod w1 W0.heap.size (.int .i64 (x.cur : Int)) (.slice a' x.log.length c') (.int .i64 x.lost) (.int .i64 x.forb) (.slice none 0 0) (.slice none 0 0)
 have hn : ∀ k, blk a' = some k → W0.heap.size < k := fun k hk => by have := r2 k hk; simp [World.drew] at this; omega
 refine ⟨six_cells hg _ _ _ _ _ _, by rw [hm.block _ (by omega) (by omega)]; exact hr, r1.mod hm (fun k hk e => by have := hn k hk; omega), ((Mod.of_below (fun _ => False) hbw).trans hm (fun k e => .inr (by omega))).below (Nat.le_refl _) (fun k _ hk => hk.elim), by omega, fun k hk => ?_⟩
 have h1 := hn k hk
 omega
section
variable {w w' : World} {l : Lay} {m : MS} {U : Nat → Prop} {p q i j : Nat}
set_option maxRecDepth 100000 in
set_option maxHeartbeats 4000000 in
theorem pstand_m (h : Mk w l U m) (hs : Shp l.c m) (hc : CfgOk l.c) (hi : i < l.c.labels.length) : Calls Tryz.prog 40 #[.pointer (some ⟨l.bp i, 0, none⟩)] w (PtOut w (ptOf m i)) := by
 have hll := hs.log i hi
 have hg4 := hc.g4096
 obtain ⟨la, lc, k1, _, k3⟩ := h.partAt hi
 have hb0 := below_al w (.cells z66 104)
 have HD : Hid (∀ W, Below w.heap.size w W → W.cell? ⟨l.bp i, 2, none⟩ = some (.int .i64 ((ptOf m i).cur : Int)) ∧ W.cell? ⟨l.bp i, 3, none⟩ = some (.slice la (ptOf m i).log.length lc) ∧ W.cell? ⟨l.bp i, 4, none⟩ = some (.int .i64 (ptOf m i).lost) ∧ W.cell? ⟨l.bp i, 5, none⟩ = some (.int .i64 (ptOf m i).forb)) := hd (fun W hb => by
  have hk : W.heap[l.bp i]? = some (.cells (paA l i (ptOf m i) la lc) 152 (0, 0)) := by rw [hb.block _ (Array.getElem?_eq_some_iff.1 k1).1]; exact k1
  refine ⟨?_, ?_, ?_, ?_⟩ <;> (rw [cell_of_row _ _ _ _ _ _ hk]; rfl))
 obtain ⟨W0, hW0⟩ : ∃ W, Hid (w.alloc (.cells z66 104) = W) := ⟨_, rfl⟩
 have hW0s : W0.heap.size = w.heap.size + 1 := by rw [← hW0.out]; simp
 have hres : W0.heap[w.heap.size]? = some (.cells z66 104 (0, 0)) := by rw [← hW0.out]; exact heap_alloc_new w _
 rw [hW0.out] at hb0
 have hbd : Below w.heap.size w W0.drew := hb0.drew
 have hba : Below w.heap.size w (W0.alloc (.cells z66 104)).drew := (hb0.alloc hb0.size _).drew
 have hc1 := cloneE la (ptOf m i).log.length lc (enC (ptOf m i).log) W0.drew (k3.below hbd).rd (enC_len _) (enC_one _) (by omega)
 have hc2 := cloneE la (ptOf m i).log.length lc (enC (ptOf m i).log) (W0.alloc (.cells z66 104)).drew (k3.below hba).rd (enC_len _) (enC_one _) (by omega)
 obtain ⟨d2, d3, d4, d5⟩ := HD.out W0 hb0
 have HZ : Hid (∀ W, Below (W0.alloc (.cells z66 104)).drew.heap.size (W0.alloc (.cells z66 104)).drew W → W.heap[W0.heap.size]? = some (.cells z66 104 (0, 0))) := hd (fun W hW => by
  have h1 : (W0.alloc (.cells z66 104)).drew.heap[W0.heap.size]? = some (.cells z66 104 (0, 0)) := heap_alloc_new W0 _
  exact (hW.block _ (Array.getElem?_eq_some_iff.1 h1).1).trans h1)
 have HZL : Hid (∀ (W : World) (g : Nat), W.heap[g]? = some (.cells z66 104 (0, 0)) → W.cell? ⟨g, 0, none⟩ = some (.int .i64 0) ∧ W.cell? ⟨g, 1, none⟩ = some (.slice none 0 0) ∧ W.cell? ⟨g, 2, none⟩ = some (.int .i64 0) ∧ W.cell? ⟨g, 3, none⟩ = some (.int .i64 0) ∧ W.cell? ⟨g, 4, none⟩ = some (.slice none 0 0) ∧ W.cell? ⟨g, 5, none⟩ = some (.slice none 0 0) ∧ W.frozen? ⟨g, 0, none⟩ = false ∧ W.frozen? ⟨g, 1, none⟩ = false ∧ W.frozen? ⟨g, 2, none⟩ = false ∧ W.frozen? ⟨g, 3, none⟩ = false ∧ W.frozen? ⟨g, 4, none⟩ = false ∧ W.frozen? ⟨g, 5, none⟩ = false) := hd (fun W g h1 => ⟨cell_of_row W g 0 _ _ _ h1, cell_of_row W g 1 _ _ _ h1, cell_of_row W g 2 _ _ _ h1, cell_of_row W g 3 _ _ _ h1, cell_of_row W g 4 _ _ _ h1, cell_of_row W g 5 _ _ _ h1, by simp [World.frozen?, h1], by simp [World.frozen?, h1], by simp [World.frozen?, h1], by simp [World.frozen?, h1], by simp [World.frozen?, h1], by simp [World.frozen?, h1]⟩)
 have hne1 : l.bp i ≠ W0.heap.size := by have := (Array.getElem?_eq_some_iff.1 k1).1; omega
 have hne2 : W0.heap.size ≠ l.bp i := fun e => hne1 e.symm
 have HK := hd h
 have HS := hd hs
 have HC := hd hc
 have HI := hd hi
 obtain ⟨Q, hQ⟩ : ∃ Q, Hid (PtOut w (ptOf m i) = Q) := ⟨_, rfl⟩
 rw [hQ.out]
 obtain ⟨x, hx⟩ : ∃ x, Hid (ptOf m i = x) := ⟨_, rfl⟩
 rw [hx.out] at HD hc1 hc2 d2 d3 d4 d5 hQ hll
 replace hW0s := hd hW0s
 clear h hs hc hi k1 k3
 unfold z66 at hW0 hc2 HZ HZL hba
 go_enter Tryz.func40, Tryz.ntmps40
 go_upto_region 1 with fail
 rw [hW0.out]
 go_cut [3] (fun v3 wy => ∃ G, v3 = .pointer (some ⟨G, 0, none⟩) ∧ Hid (∃ a' c', PtI w x G wy a' c'))
 case first =>
  go_region_held3 (fun w' => w'.cell? ⟨l.bp i, 2, none⟩ = some (.int .i64 (x.cur : Int)) ∧ w'.cell? ⟨l.bp i, 3, none⟩ = some (.slice la x.log.length lc) ∧ w'.cell? ⟨l.bp i, 4, none⟩ = some (.int .i64 x.lost) ∧ w'.cell? ⟨l.bp i, 5, none⟩ = some (.int .i64 x.forb)) (go_keep)
   (first
    | (go_at_call 84; (with_reducible refine hc1.mono ?_); rintro e w1 ⟨a', c', rfl, r1, r2, r3⟩; obtain ⟨g2, g3, g4, g5⟩ := HD.out w1 (hbd.trans (r3.mono hbd.size)); have HI1 := hd (ptI_first hb0 hW0s.out hres r1 r2 r3); clear r1 r2 r3)
    | (go_at_call 84; (with_reducible refine hc2.mono ?_); rintro e w1 ⟨a', c', rfl, r1, r2, r3⟩; obtain ⟨g2, g3, g4, g5⟩ := HD.out w1 (hba.trans (r3.mono hba.size)); obtain ⟨z0, z1, z2, z3, z4, z5, y0, y1, y2, y3, y4, y5⟩ := HZL.out w1 W0.heap.size (HZ.out w1 r3); have HI1 := hd (ptI_second hb0 hW0s.out hres r1 r2 r3); clear r1 r2 r3))
  ·go_wp2_with fail
   go_meet
   case rel => exact ⟨_, rfl, hd ⟨a', c', HI1.out⟩⟩
  ·go_wp2_with fail
   go_meet
   case rel => exact ⟨_, rfl, hd ⟨a', c', HI1.out⟩⟩
 case rest =>
  obtain ⟨G, rfl, HX⟩ := hcut
  obtain ⟨a', c', hI⟩ := HX.out
  clear HX hc1 hc2 d2 d3 d4 d5 HZ HZL HD hb0 hbd hba hres hne1 hne2
  have k1 := HK.out.below hI.bel
  have n6 := (k1.paC HI.out).2.2.2.2.2.1
  obtain ⟨F, hF, -⟩ := k1.lck HI.out
  have hst := Locks.state_any hF (Nat.le_trans ((HS.out.lks HI.out).total HC.out) (by decide))
  rw [hx.out] at hst
  have b0 : ∀ W, Below wc.heap.size wc W → W.heap[G]? = some (.cells #[.int .i64 (x.cur : Int), .slice a' x.log.length c', .int .i64 x.lost, .int .i64 x.forb, .slice none 0 0, .slice none 0 0] 104 (0, 0)) ∧ W.heap[w.heap.size]? = some (.cells z66 104 (0, 0)) := fun W hb => ⟨by rw [hb.block _ (Array.getElem?_eq_some_iff.1 hI.box).1]; exact hI.box, by rw [hb.block _ (Array.getElem?_eq_some_iff.1 hI.res).1]; exact hI.res⟩
  have HB := hd b0
  have HII := hd hI
  clear b0 hI k1 hF
  go_upto_region 3 with (go_at_call 85; refine hst.mono ?_; rintro e w2 ⟨a1, c1, a2, c2, es, rfl, hT⟩; obtain ⟨B1, B2⟩ := HB.out w2 hT.bel; have u0 := cell_of_row w2 G 0 _ _ _ B1; have u1 := cell_of_row w2 G 1 _ _ _ B1; have u2 := cell_of_row w2 G 2 _ _ _ B1; have u3 := cell_of_row w2 G 3 _ _ _ B1; have u4 := cell_of_row w2 G 4 _ _ _ B1; have u5 := cell_of_row w2 G 5 _ _ _ B1; have uf : ∀ j, w2.frozen? ⟨G, j, none⟩ = false := (fun j => by simp [World.frozen?, B1]); replace B1 := hd B1; replace B2 := hd B2; replace hT := hd hT)
  obtain ⟨V, hV⟩ : ∃ W, Hid ((w2.setCell ⟨G, 4, none⟩ (.slice a1 x.os.length c1)).setCell ⟨G, 5, none⟩ (.slice a2 x.os.length c2) = W) := ⟨_, rfl⟩
  rw [hV.out]
  have hmV : Mod (fun k => k = G) w2 V := by rw [← hV.out]; exact mod_sets (mod_set _ _ _ _) _ _
  have hGV : V.heap[G]? = some (.cells #[.int .i64 (x.cur : Int), .slice a' x.log.length c', .int .i64 x.lost, .int .i64 x.forb, .slice a1 x.os.length c1, .slice a2 x.os.length c2] 104 (0, 0)) := by
   rw [← hV.out, heap_setCell_self (heap_setCell_self B1.out _) _]
   rfl
  have hgt := HII.out.gt
  have hRV : V.heap[w.heap.size]? = some (.cells z66 104 (0, 0)) := by
   rw [hmV.block _ (Array.getElem?_eq_some_iff.1 B2.out).1 (by omega)]
   exact B2.out
  have HO : Hid (Q (.returned (.agg #[.int .i64 (x.cur : Int), .slice a' x.log.length c', .int .i64 x.lost, .int .i64 x.forb, .slice a1 x.os.length c1, .slice a2 x.os.length c2])) ((((((V.setCell ⟨w.heap.size, 0, none⟩ (.int .i64 (x.cur : Int))).setCell ⟨w.heap.size, 1, none⟩ (.slice a' x.log.length c')).setCell ⟨w.heap.size, 2, none⟩ (.int .i64 x.lost)).setCell ⟨w.heap.size, 3, none⟩ (.int .i64 x.forb)).setCell ⟨w.heap.size, 4, none⟩ (.slice a1 x.os.length c1)).setCell ⟨w.heap.size, 5, none⟩ (.slice a2 x.os.length c2))) := hd (by
   rw [← hQ.out]
   have hm6 := six_mod V w.heap.size (.int .i64 (x.cur : Int)) (.slice a' x.log.length c') (.int .i64 x.lost) (.int .i64 x.forb) (.slice a1 x.os.length c1) (.slice a2 x.os.length c2)
   have hbc := HII.out.bel
   have hs2 := hT.out.bel.size
   have hcs := hbc.size
   have hGl := (Array.getElem?_eq_some_iff.1 HII.out.box).1
   have hmA : Mod (fun k => k = G ∨ k = w.heap.size) w2 _ := (hmV.mono (fun k _ e => .inl e)).trans (hm6.mono (fun k _ e => .inr e) : Mod (fun k => k = G ∨ k = w.heap.size) _ _) (fun k hk => .inl hk)
   have hql := hT.out.ql
   have hqge := hql.ge
   have hqlt := hql.lt
   have hnw := hT.out.new
   have hln := HII.out.new
   have hal := HII.out.row.lt
   refine ⟨⟨x, a', c', a1, c1, a2, c2, es⟩, fun k => blk a' = some k ∨ blk a1 = some k ∨ Locks.qfp 0 a2 es k, rfl, hx.out ▸ rfl, ⟨?_, ?_, ?_, ?_, ?_, ?_, fun k hk => .inl hk, fun k hk => .inr (.inl hk), fun k hk => .inr (.inr hk), ?_, fun k hk => (hnw k hk).2⟩, ?_⟩
   ·exact (HII.out.row.below hT.out.bel).mod hmA (fun k hk e => by have := hln k hk; rcases e with e | e <;> omega)
   ·exact hT.out.own.mod hmA (fun k hk e => by have := (hnw k hk).1; rcases e with e | e <;> omega)
   ·have h1 := hql.mod hmA (fun k hk e => by have := hqge k hk; rcases e with e | e <;> omega)
    exact ⟨h1.row, h1.qs, fun k hk => Nat.le_trans hcs (h1.nb k hk), fun i a b k hk => ⟨Nat.le_trans hcs (h1.qb i a b k hk).1, (h1.qb i a b k hk).2⟩, h1.qq⟩
   ·exact hT.out.qs
   ·rintro k (hk | hk | hk)
    ·have := hln k hk; omega
    ·have := (hnw k hk).1; omega
    ·have := hqge k hk; omega
   ·have hsz := hmA.size
    rintro k (hk | hk | hk)
    ·have := hal k hk; omega
    ·have := hT.out.own.lt k hk; omega
    ·have := hqlt k hk; omega
   ·intro k hk
    have h1 := hal k hk
    exact ⟨fun e => by have := (hnw k e).1; omega, fun e => by have := hqge k e; omega⟩
   ·exact ((Mod.of_below (fun _ => False) (hbc.trans (hT.out.bel.mono hcs))).trans hmA (fun k hk => .inr (by rcases hk with e | e <;> omega))).below (Nat.le_refl _) (fun k _ hk => hk.elim))
  have v0 := cell_of_row V G 0 _ _ _ hGV
  have v1 := cell_of_row V G 1 _ _ _ hGV
  have v2 := cell_of_row V G 2 _ _ _ hGV
  have v3 := cell_of_row V G 3 _ _ _ hGV
  have v4 := cell_of_row V G 4 _ _ _ hGV
  have v5 := cell_of_row V G 5 _ _ _ hGV
  unfold z66 at hRV
  have z0 := cell_of_row V w.heap.size 0 _ _ _ hRV
  have z1 := cell_of_row V w.heap.size 1 _ _ _ hRV
  have z2 := cell_of_row V w.heap.size 2 _ _ _ hRV
  have z3 := cell_of_row V w.heap.size 3 _ _ _ hRV
  have z4 := cell_of_row V w.heap.size 4 _ _ _ hRV
  have z5 := cell_of_row V w.heap.size 5 _ _ _ hRV
  have zf : ∀ j, V.frozen? ⟨w.heap.size, j, none⟩ = false := fun j => by simp [World.frozen?, hRV]
  have HZ6 := hd (six_cells hRV (.int .i64 (x.cur : Int)) (.slice a' x.log.length c') (.int .i64 x.lost) (.int .i64 x.forb) (.slice a1 x.os.length c1) (.slice a2 x.os.length c2))
  clear hV hmV hGV hRV u0 u1 u2 u3 u4 u5 uf B1 B2 hT HII HB hst n6
  go_wp2_with fail
  refine bodyPost_ret (v := .agg #[.int .i64 (x.cur : Int), .slice a' x.log.length c', .int .i64 x.lost, .int .i64 x.forb, .slice a1 x.os.length c1, .slice a2 x.os.length c2]) ?_ rfl HO.out
  have y0 := cell_of_row _ w.heap.size 0 _ _ _ HZ6.out
  have y1 := cell_of_row _ w.heap.size 1 _ _ _ HZ6.out
  have y2 := cell_of_row _ w.heap.size 2 _ _ _ HZ6.out
  have y3 := cell_of_row _ w.heap.size 3 _ _ _ HZ6.out
  have y4 := cell_of_row _ w.heap.size 4 _ _ _ HZ6.out
  have y5 := cell_of_row _ w.heap.size 5 _ _ _ HZ6.out
  clear HO HZ6 v0 v1 v2 v3 v4 v5 z0 z1 z2 z3 z4 z5 zf
  generalize World.setCell _ _ _ = Wf at *
  simp at y0 y1 y2 y3 y4 y5
  simp [results, Tryz.results40, go_sem, y0, y1, y2, y3, y4, y5]
end
end Go.Proofs.YthhcecllejddeaaGreatDoor

namespace Go.Proofs.YthhcecllejddeaaGreatDoor
open Go.RowKit
structure PtR (w : World) (t : PtT) : Prop where
 log : Rd w t.la (enC t.x.log)
 own : Rd w t.oa (Locks.iC t.x.os)
 ql : Locks.RdQ w t.qa t.es
 qs : Locks.qsOf t.es = t.x.qs
 ne : t.es.length = t.x.os.length
theorem PtR.below {w w' : World} {t : PtT} (h : PtR w t) (hb : Below w.heap.size w w') : PtR w' t := ⟨h.log.below hb, h.own.below hb, h.ql.below hb, h.qs, h.ne⟩
def lpA (i : Nat) (x : PtS) (a : Option Addr) (c : Nat) (lk : Option Addr) (bw : Nat) : Array Value := #[.int .i64 (i : Int), .slice none 0 0, .int .i64 (x.cur : Int), .slice a x.log.length c, .int .i64 x.lost, .int .i64 x.forb, .pointer lk, .pointer (some ⟨bw, 0, none⟩)]
structure LpI (w : World) (i : Nat) (x : PtS) (wy : World) (G : Nat) (a : Option Addr) (c bw : Nat) (FW : Nat → Prop) : Prop where
 hd : wy.heap[G]? = some (.cells (lpA i x a c none bw) 152 (0, 0))
 row : Row wy 163 3 a x.log.length c (enC x.log)
 wh : Wheel.Wh wy bw FW []
 bel : Below w.heap.size w wy
 gG : w.heap.size ≤ G
 ga : ∀ k, blk a = some k → w.heap.size ≤ k ∧ k ≠ G ∧ ¬ FW k
 gW : ∀ k, FW k → w.heap.size ≤ k ∧ k ≠ G
structure LpAt (w : World) (i : Nat) (x : PtS) (w' : World) (G : Nat) (a : Option Addr) (c bw : Nat) (FW : Nat → Prop) (bl : Nat) (FL : Nat → Prop) : Prop where
 hd : w'.heap[G]? = some (.cells (lpA i x a c (some ⟨bl, 0, none⟩) bw) 152 (0, 0))
 row : Row w' 163 3 a x.log.length c (enC x.log)
 wh : Wheel.Wh w' bw FW []
 lk : Locks.Lk w' bl FL x.os x.qs
 bel : Below w.heap.size w w'
 gG : w.heap.size ≤ G
 ga : ∀ k, blk a = some k → w.heap.size ≤ k ∧ k ≠ G ∧ ¬ FW k ∧ ¬ FL k
 gW : ∀ k, FW k → w.heap.size ≤ k ∧ k ≠ G ∧ ¬ FL k
 gL : ∀ k, FL k → w.heap.size ≤ k ∧ k ≠ G
def LpOut (w : World) (i : Nat) (x : PtS) (E : Ending) (w' : World) : Prop := ∃ G a c bw FW bl FL, E = .returned (.pointer (some ⟨G, 0, none⟩)) ∧ LpAt w i x w' G a c bw FW bl FL
theorem lpI_a {w W0 w1 w2 : World} {i : Nat} {x : PtS} {a : Option Addr} {c bw : Nat} {FW : Nat → Prop} (hb0 : Below w.heap.size w W0) (r1 : Row w1 163 3 a x.log.length c (enC x.log)) (r2 : ∀ k, blk a = some k → W0.drew.heap.size ≤ k) (r3 : Below W0.drew.heap.size W0.drew w1) (v1 : Wheel.Wh w2 bw FW []) (v2 : ∀ k, FW k → w1.heap.size ≤ k) (v3 : Below w1.heap.size w1 w2) :
  LpI w i x (w2.alloc (.cells (lpA i x a c none bw) 152)) w2.heap.size a c bw FW := by
 have h1 := bel_dr r3
 have hs0 := hb0.size
 have hs1 : W0.heap.size ≤ w1.heap.size := h1.size
 have hs2 := v3.size
 have hbw := (hb0.trans (h1.mono hs0)).trans (v3.mono (by omega))
 have hrl := r1.lt
 have hwl := v1.lt
 exact ⟨heap_alloc_new w2 _, (r1.below v3).below (below_al w2 _), v1.below (below_al w2 _), hbw.alloc hbw.size _, by omega, fun k hk => by
  have e1 : W0.heap.size ≤ k := r2 k hk
  have e2 := hrl k hk
  exact ⟨by omega, by omega, fun hf => by have := v2 k hf; omega⟩, fun k hk => by
  have := v2 k hk
  have := hwl k hk
  exact ⟨by omega, by omega⟩⟩
theorem LpI.done {w wy w2 : World} {i : Nat} {x : PtS} {G : Nat} {a : Option Addr} {c bw bl : Nat} {FW FL : Nat → Prop} (h : LpI w i x wy G a c bw FW) (hb : Below wy.heap.size wy w2) (hl : Locks.Lk w2 bl FL x.os x.qs) (hn : ∀ k, FL k → wy.heap.size ≤ k) : LpAt w i x (w2.setCell ⟨G, 6, none⟩ (.pointer (some ⟨bl, 0, none⟩))) G a c bw FW bl FL := by
 have hm : Mod (fun k => k = G) w2 (w2.setCell ⟨G, 6, none⟩ (.pointer (some ⟨bl, 0, none⟩))) := mod_set _ _ _ _
 have hG : G < wy.heap.size := (Array.getElem?_eq_some_iff.1 h.hd).1
 have hsy := h.bel.size
 have hal := h.row.lt
 have hwl := h.wh.lt
 have hgg := h.gG
 refine ⟨?_, (h.row.below hb).mod hm (fun k hk => (h.ga k hk).2.1), (h.wh.below hb).mod hm (fun k hk => (h.gW k hk).2), hl.mod hm (fun k hk e => by have := hn k hk; omega), ?_, h.gG, fun k hk => ⟨(h.ga k hk).1, (h.ga k hk).2.1, (h.ga k hk).2.2, fun hf => by have := hn k hf; have := hal k hk; omega⟩, fun k hk => ⟨(h.gW k hk).1, (h.gW k hk).2, fun hf => by have := hn k hf; have := hwl k hk; omega⟩, fun k hk => ⟨by have := hn k hk; omega, by have := hn k hk; omega⟩⟩
 ·have e1 : w2.heap[G]? = _ := (hb.block G hG).trans h.hd
  rw [heap_setCell_self e1]
  rfl
 ·have h2 := h.bel.trans (hb.mono hsy)
  exact ((Mod.of_below (fun _ => False) h2).trans hm (fun k hk => .inr (by omega))).below (Nat.le_refl _) (fun k _ hk => hk.elim)
set_option maxRecDepth 100000 in
set_option maxHeartbeats 4000000 in
theorem laidPart_any (i : Nat) (t : PtT) (w : World) (hR : PtR w t) (hl : t.x.log.length ≤ 4096) (h8 : t.x.os.length ≤ 8) (hf1 : ∀ o ∈ t.x.os, Locks.Fit64 o) (hf2 : ∀ i, ∀ p ∈ Locks.qAt t.x.qs i, Locks.Fit64 p) (ht : Locks.total t.x.qs < 6000000000000) (hlay : Locks.layF [] t.x.os t.x.qs = true) :
  Calls Tryz.prog 74 #[.int .i64 (i : Int), ptV t] w (LpOut w i t.x) := by
 have hb0 := below_al w (.cells (ptL t).toArray 104)
 have hbox := heap_alloc_new w (.cells (ptL t).toArray 104)
 obtain ⟨x, la, lc, oa, oc, qa, qc, es⟩ := t
 obtain ⟨hr1, hr2, hr3, hr4, hr5⟩ := hR
 simp only at hr1 hr2 hr3 hr4 hr5 hl h8 hf1 hf2 ht hlay ⊢
 have HLAY : Hid (∀ W, Below w.heap.size w W → Calls Tryz.prog 103 #[.slice oa x.os.length oc, .slice qa x.os.length qc] W fun E w' => ∃ bl FL, E = .returned (.tuple #[.pointer (some ⟨bl, 0, none⟩), .int .i64 0]) ∧ Below W.heap.size W w' ∧ Locks.Lk w' bl FL x.os x.qs ∧ ∀ k, FL k → W.heap.size ≤ k) := hd (fun W hb => by
  have h1 := Locks.lay_any (c1 := oc) (c2 := qc) (n := x.os.length) (hr2.below hb) (hr3.below hb) (hd rfl) (hd hr5) h8 hf1 (by rw [hr4]; exact hf2) (by rw [hr4]; exact ht)
  rw [hr4, hlay] at h1
  refine h1.mono ?_
  rintro E w' ⟨g1, ⟨g2, _⟩ | ⟨_, b, F, rfl, g3, g4⟩⟩
  ·cases g2
  ·exact ⟨b, F, rfl, g1, g3, g4⟩)
 have HCL : Hid (∀ W, Below w.heap.size w W → Calls Tryz.prog 84 #[.slice la x.log.length lc] W (ClOut W 163 3 x.log.length (enC x.log))) := hd (fun W hb => cloneE la x.log.length lc (enC x.log) W (hr1.below hb) (enC_len _) (enC_one _) (by omega))
 obtain ⟨W0, hW0⟩ : ∃ W, Hid (w.alloc (.cells (ptL ⟨x, la, lc, oa, oc, qa, qc, es⟩).toArray 104) = W) := ⟨_, rfl⟩
 rw [hW0.out] at hb0 hbox
 have HD : Hid (∀ W, Below W0.heap.size W0 W → W.cell? ⟨w.heap.size, 0, none⟩ = some (.int .i64 (x.cur : Int)) ∧ W.cell? ⟨w.heap.size, 1, none⟩ = some (.slice la x.log.length lc) ∧ W.cell? ⟨w.heap.size, 2, none⟩ = some (.int .i64 x.lost) ∧ W.cell? ⟨w.heap.size, 3, none⟩ = some (.int .i64 x.forb) ∧ W.cell? ⟨w.heap.size, 4, none⟩ = some (.slice oa x.os.length oc) ∧ W.cell? ⟨w.heap.size, 5, none⟩ = some (.slice qa x.os.length qc)) := hd (fun W hb => by
  have hk : W.heap[w.heap.size]? = _ := (hb.block _ (Array.getElem?_eq_some_iff.1 hbox).1).trans hbox
  refine ⟨?_, ?_, ?_, ?_, ?_, ?_⟩ <;> (rw [cell_of_row _ _ _ _ _ _ hk]; rfl))
 obtain ⟨d0, d1, d2, d3, d4, d5⟩ := HD.out W0 (Below.refl _ _)
 have hcA := HCL.out W0.drew hb0.drew
 have hbd : Below W0.heap.size W0 W0.drew := (Below.refl _ _).drew
 obtain ⟨Q, hQ⟩ : ∃ Q, Hid (LpOut w i x = Q) := ⟨_, rfl⟩
 rw [hQ.out]
 clear hr1 hr2 hr3 hr4 hr5 hf1 hf2 ht hlay hbox
 unfold ptV ptL
 unfold ptL at hW0
 simp only at hW0 ⊢
 go_enter Tryz.func74, Tryz.ntmps74
 go_upto_region 1 with fail
 rw [hW0.out]
 go_cut [5] (fun v5 wy => ∃ G, v5 = .pointer (some ⟨G, 0, none⟩) ∧ Hid (Below W0.heap.size W0 wy ∧ ∃ a c bw FW, LpI w i x wy G a c bw FW))
 case first =>
  go_region_held3 (fun w' => w'.cell? ⟨w.heap.size, 0, none⟩ = some (.int .i64 (x.cur : Int)) ∧ w'.cell? ⟨w.heap.size, 1, none⟩ = some (.slice la x.log.length lc) ∧ w'.cell? ⟨w.heap.size, 2, none⟩ = some (.int .i64 x.lost) ∧ w'.cell? ⟨w.heap.size, 3, none⟩ = some (.int .i64 x.forb)) (go_keep)
   (first
    | (go_at_call 84; (with_reducible refine hcA.mono ?_); rintro e w1 ⟨a', c', rfl, r1, r2, r3⟩; obtain ⟨g0, g1, g2, g3, -, -⟩ := HD.out w1 (bel_dr r3))
    | (go_at_call 102; (with_reducible refine (Wheel.wnew_any (w := W0.drew)).mono ?_); rintro e w1 ⟨bw, FW, rfl, v1, v2, v3⟩; obtain ⟨g0, g1, g2, g3, -, -⟩ := HD.out w1 (bel_dr v3); have hcB := HCL.out w1 (hb0.trans ((bel_dr v3).mono hb0.size)))
    | (go_at_call 84; (with_reducible refine hcB.mono ?_); rintro e w2 ⟨a', c', rfl, r1, r2, r3⟩; obtain ⟨g0, g1, g2, g3, -, -⟩ := HD.out w2 ((bel_dr v3).trans (r3.mono (bel_dr v3).size)))
    | (go_at_call 102; (with_reducible refine (Wheel.wnew_any (w := w1)).mono ?_); rintro e w2 ⟨bw, FW, rfl, v1, v2, v3⟩; obtain ⟨g0, g1, g2, g3, -, -⟩ := HD.out w2 ((bel_dr r3).trans (v3.mono (bel_dr r3).size))))
  all_goals (
   go_wp2_with fail
   go_meet
   case rel => exact ⟨_, rfl, hd ⟨((bel_dr r3).trans (v3.mono (bel_dr r3).size)).alloc (Nat.le_trans (bel_dr r3).size v3.size) _, a', c', bw, FW, lpI_a hb0 r1 r2 r3 v1 v2 v3⟩⟩)
 case rest =>
  obtain ⟨G, rfl, HX⟩ := hcut
  obtain ⟨hbw, a', c', bw, FW, hI⟩ := HX.out
  obtain ⟨g0, g1, g2, g3, g4, g5⟩ := HD.out wc hbw
  have hly := HLAY.out wc hI.bel
  have HF : Hid (∀ w2, Below wc.heap.size wc w2 → w2.frozen? ⟨G, 6, none⟩ = false ∧ w2.cell? ⟨G, 6, none⟩ = some (.pointer none)) := hd (fun w2 hb => by
   have e1 : w2.heap[G]? = _ := (hb.block G (Array.getElem?_eq_some_iff.1 hI.hd).1).trans hI.hd
   exact ⟨by simp [World.frozen?, e1], by rw [cell_of_row _ _ _ _ _ _ e1]; rfl⟩)
  replace hI := hd hI
  clear HX hcA HCL HLAY HD d0 d1 d2 d3 d4 d5 hb0 hbd g0 g1 g2 g3 hbw hW0
  go_wp2_with (go_at_call 103; refine hly.mono ?_; rintro e w2 ⟨bl, FL, rfl, hb2, hk, hn⟩; obtain ⟨u6, v6⟩ := HF.out w2 hb2)
  rw [← hQ.out]
  exact ⟨G, a', c', bw, FW, bl, FL, rfl, hI.out.done hb2 hk hn⟩
end Go.Proofs.YthhcecllejddeaaGreatDoor
