/- The document's Decode. -/
import Derived.Test.YtmjokinagbpihaaDoorKD6
import Derived.Test.YtmjokinagbpihaaDoorQC4
namespace Go.Proofs.YtmjokinagbpihaaDoor.Doc
open Go.RowKit

set_option maxRecDepth 100000 in
set_option maxHeartbeats 2000000 in
theorem ddecode_long (a : Option Addr) (cap n : Nat) (w : World) (hn : 1048576 < n) :
    Calls Tryd.prog 17 #[.slice a n cap] w fun e w' => e = .returned (.tuple #[cfV noC noL, .int .i64 22, .int .i64 1048576]) ∧ Below w.heap.size w w' := by
  have hn' : (1048576 : Int) < (n : Int) := by omega
  have hb0 := hd (below_al w (.cells #[.slice none 0 0, .slice none 0 0, .int .i64 0, .int .i64 0, .int .i64 0, .int .i64 0, .slice none 0 0] 27))
  have hh := hd (heap_alloc_new w (.cells #[.slice none 0 0, .slice none 0 0, .int .i64 0, .int .i64 0, .int .i64 0, .int .i64 0, .slice none 0 0] 27))
  go_enter Tryd.func17, Tryd.ntmps17
  go_upto_region 1 with fail
  obtain ⟨w1, hw1⟩ : ∃ W, Hid (w.alloc (.cells #[.slice none 0 0, .slice none 0 0, .int .i64 0, .int .i64 0, .int .i64 0, .int .i64 0, .slice none 0 0] 27) = W) := ⟨_, rfl⟩
  rw [hw1.out] at hb0 hh ⊢
  obtain ⟨G, hG⟩ : ∃ G, Hid (w.heap.size = G) := ⟨_, rfl⟩
  rw [hG.out] at hh ⊢
  clear hw1
  have a0 := cell_of_row w1 G 0 _ _ _ hh.out
  have a1 := cell_of_row w1 G 1 _ _ _ hh.out
  have a2 := cell_of_row w1 G 2 _ _ _ hh.out
  have a3 := cell_of_row w1 G 3 _ _ _ hh.out
  have a4 := cell_of_row w1 G 4 _ _ _ hh.out
  have a5 := cell_of_row w1 G 5 _ _ _ hh.out
  have a6 := cell_of_row w1 G 6 _ _ _ hh.out
  simp at a0 a1 a2 a3 a4 a5 a6
  have fz : ∀ i, w1.frozen? ⟨G, i, none⟩ = false := fun i => by simp [World.frozen?, hh.out]
  go_wp2_with fail
  obtain ⟨e2, e3⟩ := put7_out hh.out (.slice none 0 0) (.slice none 0 0) (.int .i64 0) (.int .i64 0) (.int .i64 0) (.int .i64 0) (.slice none 0 0)
  unfold put7 at e2 e3
  generalize ((((((w1.setCell ⟨G, 0, none⟩ (.slice none 0 0)).setCell ⟨G, 1, none⟩ (.slice none 0 0)).setCell ⟨G, 2, none⟩ (.int .i64 0)).setCell ⟨G, 3, none⟩ (.int .i64 0)).setCell ⟨G, 4, none⟩ (.int .i64 0)).setCell ⟨G, 5, none⟩ (.int .i64 0)).setCell ⟨G, 6, none⟩ (.slice none 0 0) = WZ at *
  have d0 := cell_of_row WZ G 0 _ _ _ e2
  have d1 := cell_of_row WZ G 1 _ _ _ e2
  have d2 := cell_of_row WZ G 2 _ _ _ e2
  have d3 := cell_of_row WZ G 3 _ _ _ e2
  have d4 := cell_of_row WZ G 4 _ _ _ e2
  have d5 := cell_of_row WZ G 5 _ _ _ e2
  have d6 := cell_of_row WZ G 6 _ _ _ e2
  simp at d0 d1 d2 d3 d4 d5 d6
  refine bodyPost_ret (v := .tuple #[cfV noC noL, .int .i64 22, .int .i64 1048576]) ?_ rfl ⟨rfl, ?_⟩
  · simp [results, Tryd.results17, go_sem, cfV, cfA, noC, noL, d0, d1, d2, d3, d4, d5, d6]
  · have := hb0.out.size
    exact hb0.out.trans (e3.below (by omega) (fun k _ hk => by have := hG.out; omega))

set_option maxRecDepth 100000 in
set_option maxHeartbeats 2000000 in
theorem ddecode_short (a : Option Addr) (cap : Nat) (bs : List Nat) (w : World) (hR : Rd w a (bCells bs)) (hb : Byte bs) (hcap : bs.length ≤ cap) (hn : ¬ 1048576 < bs.length) :
    Calls Tryd.prog 17 #[.slice a bs.length cap] w (DecOut w bs) := by
  have hn' : (bs.length : Int) ≤ 1048576 := by omega
  have hnd : decide ((1048576 : Int) < (bs.length : Int)) = false := by simp; omega
  go_enter Tryd.func17, Tryd.ntmps17
  go_upto_region 4 with fail
  obtain ⟨w1, hw1⟩ : ∃ W, Hid ((w.alloc (.cells #[.slice none 0 0, .slice none 0 0, .int .i64 0, .int .i64 0, .int .i64 0, .int .i64 0, .slice none 0 0] 27)).alloc (.cells #[.slice a bs.length cap, .int .i64 0, .int .i64 0, .int .i64 0] 81) = W) := ⟨_, rfl⟩
  rw [hw1.out]
  have hb1 : Below w.heap.size w w1 := by rw [← hw1.out]; exact ((Below.refl _ w).alloc (Nat.le_refl _) _).alloc (by simp) _
  have HG : Hid (w1.heap[w.heap.size]? = some (.cells #[.slice none 0 0, .slice none 0 0, .int .i64 0, .int .i64 0, .int .i64 0, .int .i64 0, .slice none 0 0] 27 (0, 0))) := hd (by
    rw [← hw1.out, (below_al _ _).block _ (by simp)]
    exact heap_alloc_new w _)
  have HR : Hid (RdAt w1 (w.heap.size + 1) a cap bs ⟨0, 0, 0, 0⟩) := hd (by
    refine ⟨?_, hR.below hb1, ?_, hb, by omega, hcap, Nat.zero_le _, Nat.zero_le _⟩
    · rw [← hw1.out, show w.heap.size + 1 = (w.alloc (.cells #[.slice none 0 0, .slice none 0 0, .int .i64 0, .int .i64 0, .int .i64 0, .int .i64 0, .slice none 0 0] 27)).heap.size by simp]
      exact heap_alloc_new _ _
    · intro hz k hk e
      obtain ⟨b, o, rfl, hc⟩ := hR 0 (.int .u8 ((bs.getD 0 0 : Nat) : Int)) (by simp [bCells, List.getD_eq_getElem?_getD, List.getElem?_eq_getElem (show 0 < bs.length by omega)])
      have := World.block_lt_of_cell? w _ hc
      cases hk
      simp only at this e
      omega)
  have hc := config_any HR.out ⟨rfl, rfl, rfl⟩
  have hs1 : Hid (w1.heap.size = w.heap.size + 2) := hd (by rw [← hw1.out]; simp)
  have HB1 := hd hb1
  obtain ⟨G, hG⟩ : ∃ G, Hid (w.heap.size = G) := ⟨_, rfl⟩
  rw [hG.out] at HR HG hc ⊢
  clear hb1 hw1 hR
  go_upto_region 5 with (go_at_call 47; refine hc.mono ?_; rintro e w2 ⟨c, g, s', rfl, o2, ho2, hres⟩; unfold cfV cfA; replace o2 := hd o2; replace ho2 := hd ho2; replace hres := hd hres)
  obtain ⟨w3, hw3⟩ : ∃ W, Hid (w2.alloc (.cells #[.slice g.la c.labels.length g.lc, .slice g.ta c.table.length g.tc, .int .i64 c.fuel, .int .i64 c.lane, .int .i64 c.locks, .int .i64 c.log, .slice g.pa c.procs.length g.pc] 27) = W) := ⟨_, rfl⟩
  rw [hw3.out]
  have hb3 : Below w2.heap.size w2 w3 := by rw [← hw3.out]; exact below_al w2 _
  have HB : Hid (w3.heap[w2.heap.size]? = some (.cells #[.slice g.la c.labels.length g.lc, .slice g.ta c.table.length g.tc, .int .i64 c.fuel, .int .i64 c.lane, .int .i64 c.locks, .int .i64 c.log, .slice g.pa c.procs.length g.pc] 27 (0, 0))) := hd (by rw [← hw3.out]; exact heap_alloc_new w2 _)
  have hG2 : w2.heap[G]? = some (.cells #[.slice none 0 0, .slice none 0 0, .int .i64 0, .int .i64 0, .int .i64 0, .int .i64 0, .slice none 0 0] 27 (0, 0)) := (o2.out.2.block G (Array.getElem?_eq_some_iff.1 HG.out).1 (by omega)).trans HG.out
  have HG3 : Hid (w3.heap[G]? = some (.cells #[.slice none 0 0, .slice none 0 0, .int .i64 0, .int .i64 0, .int .i64 0, .int .i64 0, .slice none 0 0] 27 (0, 0))) := hd ((hb3.block G (Array.getElem?_eq_some_iff.1 hG2).1).trans hG2)
  have HR3 := hd (o2.out.1.below hb3)
  have hsz : G + 2 ≤ w2.heap.size := by have h1 := o2.out.2.size; have h2 := hs1.out; have h3 := hG.out; omega
  have HO3 : Hid (CfO w1.heap.size w3 c g) := hd (ho2.out.below hb3)
  have HB3 : Hid (Below w.heap.size w w3) := hd (HB1.out.trans ((o2.out.2.below (B := w.heap.size) (by have := hs1.out; omega) (fun k _ hk => by have := hG.out; omega)).trans (hb3.mono (by have := hG.out; omega))))
  obtain ⟨B2, hB2⟩ : ∃ B, Hid (w2.heap.size = B) := ⟨_, rfl⟩
  rw [hB2.out] at HB hsz ⊢
  clear hw3 hb3 hB2 hG2 o2 ho2 hc HG HR
  have a0 := cell_of_row w3 G 0 _ _ _ HG3.out
  have a1 := cell_of_row w3 G 1 _ _ _ HG3.out
  have a2 := cell_of_row w3 G 2 _ _ _ HG3.out
  have a3 := cell_of_row w3 G 3 _ _ _ HG3.out
  have a4 := cell_of_row w3 G 4 _ _ _ HG3.out
  have a5 := cell_of_row w3 G 5 _ _ _ HG3.out
  have a6 := cell_of_row w3 G 6 _ _ _ HG3.out
  have b0 := cell_of_row w3 B2 0 _ _ _ HB.out
  have b1 := cell_of_row w3 B2 1 _ _ _ HB.out
  have b2 := cell_of_row w3 B2 2 _ _ _ HB.out
  have b3 := cell_of_row w3 B2 3 _ _ _ HB.out
  have b4 := cell_of_row w3 B2 4 _ _ _ HB.out
  have b5 := cell_of_row w3 B2 5 _ _ _ HB.out
  have b6 := cell_of_row w3 B2 6 _ _ _ HB.out
  simp at a0 b0 a1 b1 a2 b2 a3 b3 a4 b4 a5 b5 a6 b6
  have fz : ∀ i, w3.frozen? ⟨G, i, none⟩ = false := fun i => by simp [World.frozen?, HG3.out]
  have ne1 : G ≠ B2 := by omega
  have ne2 : G ≠ G + 1 := by omega
  have r1 := HR3.out.cells.2.1
  have r2 := HR3.out.cells.2.2.1
  have r3 := HR3.out.cells.2.2.2
  have hnx := HR3.out.nx
  by_cases hz : s'.e = 0
  · rw [hz] at r2
    have hg := hd (hres.out.good hz).1
    by_cases hx : s'.nx < bs.length
    · have hx' : (s'.nx : Int) < (bs.length : Int) := by omega
      have hW : Hid (wholeC bs = .er 6 s'.nx) := hd (by rw [hg.out]; unfold fin; rw [if_pos hx])
      have hf := Doc.fail_any HR3.out 6 s'.nx (by decide)
      rw [failS_set hz (by decide)] at hf
      have HGk : Hid (∀ W, Mod (fun k => k = G + 1) w3 W → W.heap[G]? = some (.cells #[.slice none 0 0, .slice none 0 0, .int .i64 0, .int .i64 0, .int .i64 0, .int .i64 0, .slice none 0 0] 27 (0, 0))) := hd fun W hm => (hm.block G (Array.getElem?_eq_some_iff.1 HG3.out).1 (by omega)).trans HG3.out
      replace hz := hd hz
      clear hx
      go_upto_region 7 with (go_at_call 48; refine hf.mono ?_; rintro e w4 ⟨rfl, o4⟩; replace o4 := hd o4)
      clear a0 a1 a2 a3 a4 a5 a6 fz r1 r2 r3 b0 b1 b2 b3 b4 b5 b6 hf
      have HG4 := hd (HGk.out w4 o4.out.2)
      have a0 := cell_of_row w4 G 0 _ _ _ HG4.out
      have a1 := cell_of_row w4 G 1 _ _ _ HG4.out
      have a2 := cell_of_row w4 G 2 _ _ _ HG4.out
      have a3 := cell_of_row w4 G 3 _ _ _ HG4.out
      have a4 := cell_of_row w4 G 4 _ _ _ HG4.out
      have a5 := cell_of_row w4 G 5 _ _ _ HG4.out
      have a6 := cell_of_row w4 G 6 _ _ _ HG4.out
      simp at a0 a1 a2 a3 a4 a5 a6
      have fz : ∀ i, w4.frozen? ⟨G, i, none⟩ = false := fun i => by simp [World.frozen?, HG4.out]
      have r2 := o4.out.1.cells.2.2.1
      have r3 := o4.out.1.cells.2.2.2
      simp only at r2 r3
      have HB5 : Hid (Below w.heap.size w w4) := hd (HB3.out.trans (o4.out.2.below (B := w.heap.size) HB3.out.size (fun k _ hk => by have := hG.out; omega)))
      go_upto_region 8 with fail
      go_region_held3 (fun w' => w'.cell? ⟨G + 1, 2, none⟩ = some (.int .i64 6) ∧ w'.cell? ⟨G + 1, 3, none⟩ = some (.int .i64 s'.nx)) (go_keep) (fail)
      go_wp2_with fail
      obtain ⟨e2, e3⟩ := put7_out HG4.out (.slice none 0 0) (.slice none 0 0) (.int .i64 0) (.int .i64 0) (.int .i64 0) (.int .i64 0) (.slice none 0 0)
      unfold put7 at e2 e3
      generalize ((((((w4.setCell ⟨G, 0, none⟩ (.slice none 0 0)).setCell ⟨G, 1, none⟩ (.slice none 0 0)).setCell ⟨G, 2, none⟩ (.int .i64 0)).setCell ⟨G, 3, none⟩ (.int .i64 0)).setCell ⟨G, 4, none⟩ (.int .i64 0)).setCell ⟨G, 5, none⟩ (.int .i64 0)).setCell ⟨G, 6, none⟩ (.slice none 0 0) = WZ at *
      have d0 := cell_of_row WZ G 0 _ _ _ e2
      have d1 := cell_of_row WZ G 1 _ _ _ e2
      have d2 := cell_of_row WZ G 2 _ _ _ e2
      have d3 := cell_of_row WZ G 3 _ _ _ e2
      have d4 := cell_of_row WZ G 4 _ _ _ e2
      have d5 := cell_of_row WZ G 5 _ _ _ e2
      have d6 := cell_of_row WZ G 6 _ _ _ e2
      simp at d0 d1 d2 d3 d4 d5 d6
      have HB4 : Below w.heap.size w WZ.drew := (HB5.out.trans (e3.below (B := w.heap.size) HB5.out.size (fun k _ hk => by have := hG.out; omega))).trans ((below_draw WZ 1).mono (by have h1 := HB5.out.size; have h2 := e3.size; omega))

      refine bodyPost_ret (v := .tuple #[cfV noC noL, .int .i64 6, .int .i64 s'.nx]) ?_ rfl ?_
      · simp [results, Tryd.results17, go_sem, cfV, cfA, noC, noL, d0, d1, d2, d3, d4, d5, d6]
      · exact ⟨noL, by rw [decF_er hn hW.out], by rw [decF_er hn hW.out]; exact CfO.none _ _, HB4⟩
    · have hx' : decide ((s'.nx : Int) < (bs.length : Int)) = false := by simp; omega
      have hx'' : (bs.length : Int) ≤ (s'.nx : Int) := by omega
      have hW : Hid (wholeC bs = .ok c s'.nx) := hd (by rw [hg.out]; unfold fin; rw [if_neg hx])
      replace hz := hd hz
      clear hx
      go_wp2_with fail
      obtain ⟨e2, e3⟩ := put7_out HG3.out (.slice g.la c.labels.length g.lc) (.slice g.ta c.table.length g.tc) (.int .i64 c.fuel) (.int .i64 c.lane) (.int .i64 c.locks) (.int .i64 c.log) (.slice g.pa c.procs.length g.pc)
      unfold put7 at e2 e3
      generalize ((((((w3.setCell ⟨G, 0, none⟩ (.slice g.la c.labels.length g.lc)).setCell ⟨G, 1, none⟩ (.slice g.ta c.table.length g.tc)).setCell ⟨G, 2, none⟩ (.int .i64 c.fuel)).setCell ⟨G, 3, none⟩ (.int .i64 c.lane)).setCell ⟨G, 4, none⟩ (.int .i64 c.locks)).setCell ⟨G, 5, none⟩ (.int .i64 c.log)).setCell ⟨G, 6, none⟩ (.slice g.pa c.procs.length g.pc) = WZ at *
      have d0 := cell_of_row WZ G 0 _ _ _ e2
      have d1 := cell_of_row WZ G 1 _ _ _ e2
      have d2 := cell_of_row WZ G 2 _ _ _ e2
      have d3 := cell_of_row WZ G 3 _ _ _ e2
      have d4 := cell_of_row WZ G 4 _ _ _ e2
      have d5 := cell_of_row WZ G 5 _ _ _ e2
      have d6 := cell_of_row WZ G 6 _ _ _ e2
      simp at d0 d1 d2 d3 d4 d5 d6
      have HB4 : Below w.heap.size w WZ := HB3.out.trans (e3.below (B := w.heap.size) HB3.out.size (fun k _ hk => by have := hG.out; omega))
      have HO4 : CfO w.heap.size WZ c g := by
        have h1 := HO3.out.own.mod e3 (fun d hd k hk e => by have h1 := HO3.out.own.new d hd k hk; have h2 := hs1.out; have h3 := hG.out; omega)
        exact ⟨h1.mono (by have := hs1.out; omega), HO3.out.ps⟩
      refine bodyPost_ret (v := .tuple #[cfV c g, .int .i64 0, .int .i64 0]) ?_ rfl ?_
      · simp [results, Tryd.results17, go_sem, cfV, cfA, d0, d1, d2, d3, d4, d5, d6]
      · exact ⟨g, by rw [decF_ok hn hW.out], by rw [decF_ok hn hW.out]; exact HO4, HB4⟩
  · have dz : (s'.e == 0) = false := by simpa using hz
    have dz' : (s'.e != 0) = true := by simpa using hz
    have hW : Hid (wholeC bs = .er s'.e s'.at_) := hd (hres.out.bad hz)
    clear hz
    go_upto_region 8 with fail
    go_region_held3 (fun w' => w'.cell? ⟨G + 1, 2, none⟩ = some (.int .i64 s'.e) ∧ w'.cell? ⟨G + 1, 3, none⟩ = some (.int .i64 s'.at_)) (go_keep) (fail)
    go_wp2_with fail
    obtain ⟨e2, e3⟩ := put7_out HG3.out (.slice none 0 0) (.slice none 0 0) (.int .i64 0) (.int .i64 0) (.int .i64 0) (.int .i64 0) (.slice none 0 0)
    unfold put7 at e2 e3
    generalize ((((((w3.setCell ⟨G, 0, none⟩ (.slice none 0 0)).setCell ⟨G, 1, none⟩ (.slice none 0 0)).setCell ⟨G, 2, none⟩ (.int .i64 0)).setCell ⟨G, 3, none⟩ (.int .i64 0)).setCell ⟨G, 4, none⟩ (.int .i64 0)).setCell ⟨G, 5, none⟩ (.int .i64 0)).setCell ⟨G, 6, none⟩ (.slice none 0 0) = WZ at *
    have d0 := cell_of_row WZ G 0 _ _ _ e2
    have d1 := cell_of_row WZ G 1 _ _ _ e2
    have d2 := cell_of_row WZ G 2 _ _ _ e2
    have d3 := cell_of_row WZ G 3 _ _ _ e2
    have d4 := cell_of_row WZ G 4 _ _ _ e2
    have d5 := cell_of_row WZ G 5 _ _ _ e2
    have d6 := cell_of_row WZ G 6 _ _ _ e2
    simp at d0 d1 d2 d3 d4 d5 d6
    have HB4 : Below w.heap.size w WZ.drew := (HB3.out.trans (e3.below (B := w.heap.size) HB3.out.size (fun k _ hk => by have := hG.out; omega))).trans ((below_draw WZ 1).mono (by have h1 := HB3.out.size; have h2 := e3.size; omega))

    refine bodyPost_ret (v := .tuple #[cfV noC noL, .int .i64 s'.e, .int .i64 s'.at_]) ?_ rfl ?_
    · simp [results, Tryd.results17, go_sem, cfV, cfA, noC, noL, d0, d1, d2, d3, d4, d5, d6]
    · exact ⟨noL, by rw [decF_er hn hW.out], by rw [decF_er hn hW.out]; exact CfO.none _ _, HB4⟩

theorem ddecode_any (a : Option Addr) (cap : Nat) (bs : List Nat) (w : World) (hR : Rd w a (bCells bs)) (hb : Byte bs) (hcap : bs.length ≤ cap) :
    Calls Tryd.prog 17 #[.slice a bs.length cap] w (DecOut w bs) := by
  by_cases hn : 1048576 < bs.length
  · refine (ddecode_long a cap bs.length w hn).mono fun e w' ⟨he, hb⟩ => ⟨noL, ?_, ?_, hb⟩
    · rw [decF_long hn]
      exact he
    · rw [decF_long hn]
      exact CfO.none _ _
  · exact ddecode_short a cap bs w hR hb hcap hn
end Go.Proofs.YtmjokinagbpihaaDoor.Doc
