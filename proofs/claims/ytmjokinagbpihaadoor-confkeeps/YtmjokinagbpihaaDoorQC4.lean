/- Decode. -/
import Derived.Test.YtmjokinagbpihaaDoorQC3
namespace Go.Proofs.YtmjokinagbpihaaDoor
open Go.RowKit

/-- What Decode leaves. -/
def DecOut (w : World) (bs : List Nat) (e : Ending) (w' : World) : Prop :=
  ∃ g, e = .returned (.tuple #[cfV (decF bs).1 g, .int .i64 (decF bs).2.1, .int .i64 (decF bs).2.2]) ∧ CfO w.heap.size w' (decF bs).1 g ∧ Below w.heap.size w w'

theorem decF_long {bs : List Nat} (h : 1048576 < bs.length) : decF bs = (noC, 22, 1048576) := by
  unfold decF decC
  rw [if_pos h]
theorem decF_ok {bs : List Nat} {c : Cfg} {q : Nat} (h : ¬ 1048576 < bs.length) (hw : wholeC bs = .ok c q) : decF bs = (c, 0, 0) := by
  unfold decF decC
  rw [if_neg h]
  show (match wholeC bs with | .ok c _ => (c, 0, 0) | .er e a => (noC, e, a)) = _
  rw [hw]
theorem decF_er {bs : List Nat} {e a : Int} (h : ¬ 1048576 < bs.length) (hw : wholeC bs = .er e a) : decF bs = (noC, e, a) := by
  unfold decF decC
  rw [if_neg h]
  show (match wholeC bs with | .ok c _ => (c, 0, 0) | .er e a => (noC, e, a)) = _
  rw [hw]

/-- Seven cells of a block of the call's own, written over. -/
theorem put7_out {W : World} {G : Nat} {x0 x1 x2 x3 x4 x5 x6 : Value} (h : W.heap[G]? = some (.cells #[x0, x1, x2, x3, x4, x5, x6] 27 (0, 0))) (v0 v1 v2 v3 v4 v5 v6 : Value) :
    (put7 W G v0 v1 v2 v3 v4 v5 v6).heap[G]? = some (.cells #[v0, v1, v2, v3, v4, v5, v6] 27 (0, 0)) ∧ Mod (fun k => k = G) W (put7 W G v0 v1 v2 v3 v4 v5 v6) :=
  ⟨seven_cells h, (((((((Mod.refl (fun k => k = G) W).setCell (.inl rfl) _).setCell (.inl rfl) _).setCell (.inl rfl) _).setCell (.inl rfl) _).setCell (.inl rfl) _).setCell (.inl rfl) _).setCell (.inl rfl) _⟩

theorem Fld.two {w : World} (h : Fld w) : 2 ≤ w.heap.size := by
  have := World.block_lt_of_cell? w _ (h 0 (by omega))
  simp only at this
  omega

set_option maxRecDepth 100000 in
set_option maxHeartbeats 2000000 in
theorem cdecode_long (a : Option Addr) (cap n : Nat) (w : World) (hn : 1048576 < n) :
    Calls Tryd.prog 16 #[.slice a n cap] w fun e w' => e = .returned (.tuple #[cfV noC noL, .int .i64 22, .int .i64 1048576]) ∧ Below w.heap.size w w' := by
  have hn' : (1048576 : Int) < (n : Int) := by omega
  have hb0 := hd (below_al w (.cells #[.slice none 0 0, .slice none 0 0, .int .i64 0, .int .i64 0, .int .i64 0, .int .i64 0, .slice none 0 0] 27))
  have hh := hd (heap_alloc_new w (.cells #[.slice none 0 0, .slice none 0 0, .int .i64 0, .int .i64 0, .int .i64 0, .int .i64 0, .slice none 0 0] 27))
  go_enter Tryd.func16, Tryd.ntmps16
  go_upto_region 1 with fail
  obtain ⟨w1, hw1⟩ : ∃ W, Hid (w.alloc (.cells #[.slice none 0 0, .slice none 0 0, .int .i64 0, .int .i64 0, .int .i64 0, .int .i64 0, .slice none 0 0] 27) = W) := ⟨_, rfl⟩
  rw [hw1.out] at hb0 hh ⊢
  obtain ⟨G, hG⟩ : ∃ G, Hid (w.heap.size = G) := ⟨_, rfl⟩
  rw [hG.out] at hh ⊢
  clear hw1
  have a0 := cell_of_row w1 G 0 _ _ _ hh.out
  have a1 := cell_of_row w1 G 1 _ _ _ hh.out
  have a2 := cell_of_row w1 G 2 _ _ _ hh.out
  have a3 := cell_of_row w1 G 3 _ _ _ hh.out
  have a4 := cell_of_row w1 G 4 _ _ _ hh.out
  have a5 := cell_of_row w1 G 5 _ _ _ hh.out
  have a6 := cell_of_row w1 G 6 _ _ _ hh.out
  simp at a0 a1 a2 a3 a4 a5 a6
  have fz : ∀ i, w1.frozen? ⟨G, i, none⟩ = false := fun i => by simp [World.frozen?, hh.out]
  go_wp2_with fail
  obtain ⟨e2, e3⟩ := put7_out hh.out (.slice none 0 0) (.slice none 0 0) (.int .i64 0) (.int .i64 0) (.int .i64 0) (.int .i64 0) (.slice none 0 0)
  unfold put7 at e2 e3
  generalize ((((((w1.setCell ⟨G, 0, none⟩ (.slice none 0 0)).setCell ⟨G, 1, none⟩ (.slice none 0 0)).setCell ⟨G, 2, none⟩ (.int .i64 0)).setCell ⟨G, 3, none⟩ (.int .i64 0)).setCell ⟨G, 4, none⟩ (.int .i64 0)).setCell ⟨G, 5, none⟩ (.int .i64 0)).setCell ⟨G, 6, none⟩ (.slice none 0 0) = WZ at *
  have d0 := cell_of_row WZ G 0 _ _ _ e2
  have d1 := cell_of_row WZ G 1 _ _ _ e2
  have d2 := cell_of_row WZ G 2 _ _ _ e2
  have d3 := cell_of_row WZ G 3 _ _ _ e2
  have d4 := cell_of_row WZ G 4 _ _ _ e2
  have d5 := cell_of_row WZ G 5 _ _ _ e2
  have d6 := cell_of_row WZ G 6 _ _ _ e2
  simp at d0 d1 d2 d3 d4 d5 d6
  refine bodyPost_ret (v := .tuple #[cfV noC noL, .int .i64 22, .int .i64 1048576]) ?_ rfl ⟨rfl, ?_⟩
  · simp [results, Tryd.results16, go_sem, cfV, cfA, noC, noL, d0, d1, d2, d3, d4, d5, d6]
  · have := hb0.out.size
    exact hb0.out.trans (e3.below (by omega) (fun k _ hk => by have := hG.out; omega))

set_option maxRecDepth 100000 in
set_option maxHeartbeats 2000000 in
theorem cdecode_short (a : Option Addr) (cap : Nat) (bs : List Nat) (w : World) (hR : Rd w a (bCells bs)) (hb : Byte bs) (hcap : bs.length ≤ cap) (hF : Fld w) (hL : Lim w) (hn : ¬ 1048576 < bs.length) :
    Calls Tryd.prog 16 #[.slice a bs.length cap] w (DecOut w bs) := by
  have hn' : (bs.length : Int) ≤ 1048576 := by omega
  have hnd : decide ((1048576 : Int) < (bs.length : Int)) = false := by simp; omega
  have h2 := hF.two
  have HE : Hid (∀ (c : Cfg) (g : Loc) (s' : St) (W : World), CfO w.heap.size W c g → Below w.heap.size w W → ((s'.e = 0 ∧ s'.at_ = 0 ∧ ∃ q, wholeC bs = .ok c q) ∨ (s'.e ≠ 0 ∧ c = noC ∧ g = noL ∧ wholeC bs = .er s'.e s'.at_)) → DecOut w bs (.returned (.tuple #[cfV c g, .int .i64 s'.e, .int .i64 s'.at_])) W) := hd (by
    rintro c g s' W ho hw (⟨h1, h2, q, h3⟩ | ⟨h1, rfl, rfl, h3⟩)
    · refine ⟨g, ?_, ?_, hw⟩
      · rw [decF_ok hn h3, h1, h2]
      · rw [decF_ok hn h3]
        exact ho
    · refine ⟨noL, ?_, ?_, hw⟩
      · rw [decF_er hn h3]
      · rw [decF_er hn h3]
        exact CfO.none _ _)
  go_enter Tryd.func16, Tryd.ntmps16
  go_upto_region 4 with fail
  obtain ⟨w1, hw1⟩ : ∃ W, Hid ((w.alloc (.cells #[.slice none 0 0, .slice none 0 0, .int .i64 0, .int .i64 0, .int .i64 0, .int .i64 0, .slice none 0 0] 27)).alloc (.cells #[.slice a bs.length cap, .int .i64 0, .int .i64 0, .int .i64 0, .int .i64 0] 78) = W) := ⟨_, rfl⟩
  rw [hw1.out]
  have hb1 : Below w.heap.size w w1 := by rw [← hw1.out]; exact ((Below.refl _ w).alloc (Nat.le_refl _) _).alloc (by simp) _
  have HG : Hid (w1.heap[w.heap.size]? = some (.cells #[.slice none 0 0, .slice none 0 0, .int .i64 0, .int .i64 0, .int .i64 0, .int .i64 0, .slice none 0 0] 27 (0, 0))) := hd (by
    rw [← hw1.out, (below_al _ _).block _ (by simp)]
    exact heap_alloc_new w _)
  have HR : Hid (RdAt w1 (w.heap.size + 1) a cap bs ⟨0, 0, 0, 0⟩) := hd (by
    refine ⟨?_, hR.below hb1, ?_, hb, by omega, hcap, Nat.zero_le _, Nat.zero_le _⟩
    · rw [← hw1.out, show w.heap.size + 1 = (w.alloc (.cells #[.slice none 0 0, .slice none 0 0, .int .i64 0, .int .i64 0, .int .i64 0, .int .i64 0, .slice none 0 0] 27)).heap.size by simp]
      exact heap_alloc_new _ _
    · intro hz k hk e
      obtain ⟨b, o, rfl, hc⟩ := hR 0 (.int .u8 ((bs.getD 0 0 : Nat) : Int)) (by simp [bCells, List.getD_eq_getElem?_getD, List.getElem?_eq_getElem (show 0 < bs.length by omega)])
      have := World.block_lt_of_cell? w _ hc
      cases hk
      simp only at this e
      omega)
  have hfl := hF.kept hb1
  have hlm := hL.kept hb1
  have hc := config_any HR.out hfl hlm (by omega) ⟨rfl, rfl, rfl⟩
  have hs1 : Hid (w1.heap.size = w.heap.size + 2) := hd (by rw [← hw1.out]; simp)
  have HB1 := hd hb1
  obtain ⟨G, hG⟩ : ∃ G, Hid (w.heap.size = G) := ⟨_, rfl⟩
  rw [hG.out] at HR HG hc ⊢
  clear hb1 hw1 hfl hlm hF hL hR h2
  go_upto_region 5 with (go_at_call 46; refine hc.mono ?_; rintro e w2 ⟨c, g, s', rfl, o2, ho2, hres⟩; unfold cfV cfA; replace o2 := hd o2; replace ho2 := hd ho2; replace hres := hd hres)
  obtain ⟨w3, hw3⟩ : ∃ W, Hid (w2.alloc (.cells #[.slice g.la c.labels.length g.lc, .slice g.ta c.table.length g.tc, .int .i64 c.fuel, .int .i64 c.lane, .int .i64 c.locks, .int .i64 c.log, .slice g.pa c.procs.length g.pc] 27) = W) := ⟨_, rfl⟩
  rw [hw3.out]
  have hb3 : Below w2.heap.size w2 w3 := by rw [← hw3.out]; exact below_al w2 _
  have HB : Hid (w3.heap[w2.heap.size]? = some (.cells #[.slice g.la c.labels.length g.lc, .slice g.ta c.table.length g.tc, .int .i64 c.fuel, .int .i64 c.lane, .int .i64 c.locks, .int .i64 c.log, .slice g.pa c.procs.length g.pc] 27 (0, 0))) := hd (by rw [← hw3.out]; exact heap_alloc_new w2 _)
  have hG2 : w2.heap[G]? = some (.cells #[.slice none 0 0, .slice none 0 0, .int .i64 0, .int .i64 0, .int .i64 0, .int .i64 0, .slice none 0 0] 27 (0, 0)) := (o2.out.2.block G (Array.getElem?_eq_some_iff.1 HG.out).1 (by omega)).trans HG.out
  have HG3 : Hid (w3.heap[G]? = some (.cells #[.slice none 0 0, .slice none 0 0, .int .i64 0, .int .i64 0, .int .i64 0, .int .i64 0, .slice none 0 0] 27 (0, 0))) := hd ((hb3.block G (Array.getElem?_eq_some_iff.1 hG2).1).trans hG2)
  have HR3 := hd (o2.out.1.below hb3)
  have hsz : G + 2 ≤ w2.heap.size := by have h1 := o2.out.2.size; have h2 := hs1.out; have h3 := hG.out; omega
  have HO3 : Hid (CfO w1.heap.size w3 c g) := hd (ho2.out.below hb3)
  have HB3 : Hid (Below w.heap.size w w3) := hd (HB1.out.trans ((o2.out.2.below (B := w.heap.size) (by have := hs1.out; omega) (fun k _ hk => by have := hG.out; omega)).trans (hb3.mono (by have := hG.out; omega))))
  obtain ⟨B2, hB2⟩ : ∃ B, Hid (w2.heap.size = B) := ⟨_, rfl⟩
  rw [hB2.out] at HB hsz ⊢
  clear hw3 hb3 hB2 hG2 o2 ho2 hc HG HR
  have a0 := cell_of_row w3 G 0 _ _ _ HG3.out
  have a1 := cell_of_row w3 G 1 _ _ _ HG3.out
  have a2 := cell_of_row w3 G 2 _ _ _ HG3.out
  have a3 := cell_of_row w3 G 3 _ _ _ HG3.out
  have a4 := cell_of_row w3 G 4 _ _ _ HG3.out
  have a5 := cell_of_row w3 G 5 _ _ _ HG3.out
  have a6 := cell_of_row w3 G 6 _ _ _ HG3.out
  have b0 := cell_of_row w3 B2 0 _ _ _ HB.out
  have b1 := cell_of_row w3 B2 1 _ _ _ HB.out
  have b2 := cell_of_row w3 B2 2 _ _ _ HB.out
  have b3 := cell_of_row w3 B2 3 _ _ _ HB.out
  have b4 := cell_of_row w3 B2 4 _ _ _ HB.out
  have b5 := cell_of_row w3 B2 5 _ _ _ HB.out
  have b6 := cell_of_row w3 B2 6 _ _ _ HB.out
  simp at a0 b0 a1 b1 a2 b2 a3 b3 a4 b4 a5 b5 a6 b6
  have fz : ∀ i, w3.frozen? ⟨G, i, none⟩ = false := fun i => by simp [World.frozen?, HG3.out]
  have r3 := HR3.out.cells.2.2.2.1
  have r4 := HR3.out.cells.2.2.2.2
  have ne1 : G ≠ B2 := by omega
  have ne2 : G ≠ G + 1 := by omega
  go_region_held3 (fun w' => w'.cell? ⟨G + 1, 3, none⟩ = some (.int .i64 s'.e) ∧ w'.cell? ⟨G + 1, 4, none⟩ = some (.int .i64 s'.at_) ∧ w'.cell? ⟨B2, 0, none⟩ = some (.slice g.la c.labels.length g.lc) ∧ w'.cell? ⟨B2, 1, none⟩ = some (.slice g.ta c.table.length g.tc) ∧ w'.cell? ⟨B2, 2, none⟩ = some (.int .i64 c.fuel) ∧ w'.cell? ⟨B2, 3, none⟩ = some (.int .i64 c.lane) ∧ w'.cell? ⟨B2, 4, none⟩ = some (.int .i64 c.locks) ∧ w'.cell? ⟨B2, 5, none⟩ = some (.int .i64 c.log) ∧ w'.cell? ⟨B2, 6, none⟩ = some (.slice g.pa c.procs.length g.pc)) (go_keep) (fail)
  go_wp2_with fail
  obtain ⟨e2, e3⟩ := put7_out HG3.out (.slice g.la c.labels.length g.lc) (.slice g.ta c.table.length g.tc) (.int .i64 c.fuel) (.int .i64 c.lane) (.int .i64 c.locks) (.int .i64 c.log) (.slice g.pa c.procs.length g.pc)
  unfold put7 at e2 e3
  generalize ((((((w3.setCell ⟨G, 0, none⟩ (.slice g.la c.labels.length g.lc)).setCell ⟨G, 1, none⟩ (.slice g.ta c.table.length g.tc)).setCell ⟨G, 2, none⟩ (.int .i64 c.fuel)).setCell ⟨G, 3, none⟩ (.int .i64 c.lane)).setCell ⟨G, 4, none⟩ (.int .i64 c.locks)).setCell ⟨G, 5, none⟩ (.int .i64 c.log)).setCell ⟨G, 6, none⟩ (.slice g.pa c.procs.length g.pc) = WZ at *
  have d0 := cell_of_row WZ G 0 _ _ _ e2
  have d1 := cell_of_row WZ G 1 _ _ _ e2
  have d2 := cell_of_row WZ G 2 _ _ _ e2
  have d3 := cell_of_row WZ G 3 _ _ _ e2
  have d4 := cell_of_row WZ G 4 _ _ _ e2
  have d5 := cell_of_row WZ G 5 _ _ _ e2
  have d6 := cell_of_row WZ G 6 _ _ _ e2
  simp at d0 d1 d2 d3 d4 d5 d6
  have HO4 : CfO w.heap.size WZ.drew c g := by
    have h1 := HO3.out.own.mod e3 (fun d hd k hk e => by have h1 := HO3.out.own.new d hd k hk; have h2 := hs1.out; have h3 := hG.out; omega)
    exact ⟨(h1.below (below_draw WZ 1)).mono (by have := hs1.out; omega), HO3.out.ps⟩
  have HB4 : Below w.heap.size w WZ.drew := (HB3.out.trans (e3.below (B := w.heap.size) HB3.out.size (fun k _ hk => by have := hG.out; omega))).trans ((below_draw WZ 1).mono (by have h1 := HB3.out.size; have h2 := e3.size; omega))
  have HF4 := HE.out c g s' WZ.drew HO4 HB4 hres.out
  refine bodyPost_ret (v := .tuple #[cfV c g, .int .i64 s'.e, .int .i64 s'.at_]) ?_ rfl HF4
  simp [results, Tryd.results16, go_sem, cfV, cfA, d0, d1, d2, d3, d4, d5, d6]

theorem cdecode_any (a : Option Addr) (cap : Nat) (bs : List Nat) (w : World) (hR : Rd w a (bCells bs)) (hb : Byte bs) (hcap : bs.length ≤ cap) (hF : Fld w) (hL : Lim w) :
    Calls Tryd.prog 16 #[.slice a bs.length cap] w (DecOut w bs) := by
  by_cases hn : 1048576 < bs.length
  · refine (cdecode_long a cap bs.length w hn).mono fun e w' ⟨he, hb⟩ => ⟨noL, ?_, ?_, hb⟩
    · rw [decF_long hn]
      exact he
    · rw [decF_long hn]
      exact CfO.none _ _
  · exact cdecode_short a cap bs w hR hb hcap hF hL hn
end Go.Proofs.YtmjokinagbpihaaDoor
