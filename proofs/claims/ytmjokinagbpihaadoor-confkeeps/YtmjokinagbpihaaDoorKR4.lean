/- ConfKeeps: what is handed in stays; what came out is its owner's. -/
import Derived.Test.YtmjokinagbpihaaDoorGKg
import Derived.Test.YtmjokinagbpihaaDoorKR1
import Derived.Test.YtmjokinagbpihaaDoorKR3
namespace Go.Proofs.YtmjokinagbpihaaDoor
open Go.RowKit

theorem bC_set (l : List Nat) (i x : Nat) : (bCells l).set i (.int .u8 (x : Int)) = bCells (l.set i x) := by simp [bCells, List.map_set]
theorem decF_few {bs : List Nat} (hb : Byte bs) : FewC (decF bs).1 := by
  rcases decF_cases hb with ⟨d, hD, hmd, -⟩ | ⟨E1, P1, hD, -⟩
  · rw [hD]
    have hm : (mayC d).1 = 0 := by rw [hmd]
    obtain ⟨h0, h1, -, -, -, -, h6, h7⟩ := (mayC_iff d).1 hm
    have l1 := lab_len h0
    have l2 := tab_len h1
    have l3 := cnt_len h6
    refine ⟨by simp only; omega, by simp only; omega, by simp only; omega, fun p hp => ?_⟩
    have := prE_len (h7 p hp)
    omega
  · rw [hD]
    exact ⟨by simp [noC], by simp [noC], by simp [noC], fun p hp => by simp [noC] at hp⟩
def encX (c : Cfg) : List Nat := if (mayC c).1 = 0 then encC c else []
theorem encX_byte (c : Cfg) : Byte (encX c) := by
  unfold encX
  split
  · exact enc_byte c
  · exact fun i => by simp
theorem encX_len (c : Cfg) : (encX c).length ≤ 98542 := by
  unfold encX
  split
  · next h => exact enc_len c h
  · simp
/-- What Encode leaves, either way. -/
def EncU (w : World) (c : Cfg) (e : Ending) (w' : World) : Prop := ∃ a' c', e = .returned (.tuple #[.slice a' (encX c).length c', .int .i64 (mayC c).1]) ∧ Row w' 5 1 a' (encX c).length c' (bCells (encX c)) ∧ (∀ k, blk a' = some k → w.heap.size ≤ k) ∧ Below w.heap.size w w'
theorem cencU (c : Cfg) (g : Loc) (w : World) (hR : CfR w c g) (hF : Fld w) (hL : Lim w) : Calls Tryd.prog 12 #[cfV c g] w (EncU w c) := by
  by_cases hm : (mayC c).1 = 0
  · refine (cenc_ok c g w hR hF hL hm).mono fun e w' ⟨a', c', he, h1, h2, h3⟩ => ⟨a', c', ?_, ?_, h2, h3⟩
    · rw [encX, if_pos hm, hm]; exact he
    · rw [encX, if_pos hm]; exact h1
  · refine (cenc_no c g w hR hF hL hm).mono fun e w' ⟨he, h3⟩ => ⟨none, 0, ?_, ?_, (fun k hk => by cases hk), h3⟩
    · rw [encX, if_neg hm]; exact he
    · rw [encX, if_neg hm]; exact Row.nil
theorem dencU (c : Cfg) (g : Loc) (w : World) (hR : CfR w c g) : Calls Tryd.prog 13 #[cfV c g] w (EncU w c) := by
  by_cases hm : (mayC c).1 = 0
  · refine (denc_ok c g w hR hm).mono fun e w' ⟨a', c', he, h1, h2, h3⟩ => ⟨a', c', ?_, ?_, h2, h3⟩
    · rw [encX, if_pos hm, hm]; exact he
    · rw [encX, if_pos hm]; exact h1
  · refine (denc_no c g w hR hm).mono fun e w' ⟨he, h3⟩ => ⟨none, 0, ?_, ?_, (fun k hk => by cases hk), h3⟩
    · rw [encX, if_neg hm]; exact he
    · rw [encX, if_neg hm]; exact Row.nil
theorem kept_any (c : Cfg) (gw g : Loc) (B : Nat) (w : World) (hW : WdO B w c gw) (hR : CfR w c g) (hF : FewC c) : Calls Tryd.prog 21 #[cfV c gw, cfV c g] w fun e w' => e = .returned (.bool true) ∧ Below w.heap.size w w' := by
  obtain ⟨la, lc, ta, tc, pa, pc, ms⟩ := gw
  obtain ⟨bl, e1⟩ := (hW.own.ok _ List.mem_cons_self).head (by simp only [dL]; omega)
  obtain ⟨bt, e2⟩ := (hW.own.ok _ (List.mem_cons_of_mem _ List.mem_cons_self)).head (by simp only [dT]; omega)
  obtain ⟨bq, e3⟩ := (hW.own.ok _ (List.mem_cons_of_mem _ (List.mem_cons_of_mem _ List.mem_cons_self))).head (by simp only; omega)
  simp only [dL, dT] at e1 e2 e3
  subst e1 e2 e3
  exact kept_go c bl lc bt tc bq pc ms g B w hW hR hF
theorem cfR_ok {W : World} {d : Cfg} {h : Loc} (hk : ∀ x ∈ cfD d h, x.ok W) (hp : psOf h.ms = d.procs) : CfR W d h := ⟨(hk _ List.mem_cons_self).rd, (hk _ (List.mem_cons_of_mem _ List.mem_cons_self)).rd, (hk _ (List.mem_cons_of_mem _ (List.mem_cons_of_mem _ List.mem_cons_self))).rd, fun m hm => (hk (prD m) (List.mem_cons_of_mem _ (List.mem_cons_of_mem _ (List.mem_cons_of_mem _ (List.mem_map_of_mem hm))))).rd, hp⟩
/-- The blocks that a config's lists lie in. -/
def blks (c : Cfg) (g : Loc) (k : Nat) : Prop := ∃ d ∈ cfD c g, blk d.a = some k
/-- What wreck leaves. -/
def WreckOut (w : World) (c : Cfg) (g : Loc) (m : Nat) (e : Ending) (w' : World) : Prop := ∃ d h, e = .returned (cfV d h) ∧ WrO w (blks c g) w' d h ∧ Marks d m ∧ d.labels.length = c.labels.length + 3 ∧ d.table.length = c.table.length + 3 ∧ d.procs.length = c.procs.length ∧ (∀ p ∈ d.procs, p.code.length ≤ 1048576 + 3)
theorem wreck_any (c : Cfg) (g : Loc) (m B : Nat) (w : World) (hO : CfO B w c g) (hm : m ≤ 1000) (hF : FewC c) : Calls Tryd.prog 22 #[cfV c g, .int .i64 (m : Int)] w (WreckOut w c g m) := by
  obtain ⟨la, lc, ta, tc, pa, pc, ms⟩ := g
  exact wreck_go c la lc ta tc pa pc ms m B w hO hm hF

set_option maxRecDepth 100000 in
set_option maxHeartbeats 16000000 in
theorem confKeeps_any (c : Cfg) (g : Loc) (a : Option Addr) (cap : Nat) (bs : List Nat) (w : World) (hR : CfR w c g) (hI : CfI c) (hrd : Rd w a (bCells bs)) (hby : Byte bs) (hcap : bs.length ≤ cap) (hnone : a = none → cap = 0) (hF : Fld w) (hL : Lim w) :
    Calls Tryd.prog 8 #[cfV c g, .slice a bs.length cap] w fun e w' => e = .returned (.bool true) ∧ Below w.heap.size w w' := by
  unfold cfV cfA
  have HBy := hd hby
  replace hnone := hd hnone
  have hlen := hd hI.len
  have hcod := hd hI.cod
  obtain ⟨w0, hw0⟩ : ∃ W, Hid (w.alloc (.cells #[.slice g.la c.labels.length g.lc, .slice g.ta c.table.length g.tc, .int .i64 c.fuel, .int .i64 c.lane, .int .i64 c.locks, .int .i64 c.log, .slice g.pa c.procs.length g.pc] 27) = W) := ⟨_, rfl⟩
  have x0 : Below w.heap.size w w0 := by rw [← hw0.out]; exact below_al w _
  have B0 : Hid (Below w.heap.size w w0) := hd x0
  have HG : Hid (w0.heap[w.heap.size]? = some (.cells #[.slice g.la c.labels.length g.lc, .slice g.ta c.table.length g.tc, .int .i64 c.fuel, .int .i64 c.lane, .int .i64 c.locks, .int .i64 c.log, .slice g.pa c.procs.length g.pc] 27 (0, 0))) := hd (by rw [← hw0.out]; exact heap_alloc_new w _)
  have HRk : Hid (∀ W, Below w0.heap.size w0 W → CfR W c g) := hd (fun W hW => (hR.below x0).below hW)
  have HRd : Hid (∀ W, Below w0.heap.size w0 W → Rd W a (bCells bs)) := hd (fun W hW => (hrd.below x0).below hW)
  have HFk : Hid (∀ W, Below w0.heap.size w0 W → Fld W) := hd (fun W hW => (hF.kept x0).kept hW)
  have HLk : Hid (∀ W, Below w0.heap.size w0 W → Lim W) := hd (fun W hW => (hL.kept x0).kept hW)
  obtain ⟨G, hG⟩ : ∃ G, Hid (w.heap.size = G) := ⟨_, rfl⟩
  rw [hG.out] at HG
  have K0 : Hid (∀ W, Below w0.heap.size w0 W → W.cell? ⟨G, 0, none⟩ = some (.slice g.la c.labels.length g.lc) ∧ W.cell? ⟨G, 1, none⟩ = some (.slice g.ta c.table.length g.tc) ∧ W.cell? ⟨G, 2, none⟩ = some (.int .i64 c.fuel) ∧ W.cell? ⟨G, 3, none⟩ = some (.int .i64 c.lane) ∧ W.cell? ⟨G, 4, none⟩ = some (.int .i64 c.locks) ∧ W.cell? ⟨G, 5, none⟩ = some (.int .i64 c.log) ∧ W.cell? ⟨G, 6, none⟩ = some (.slice g.pa c.procs.length g.pc)) := hd (fun W hW => by
    have h : W.heap[G]? = _ := (hW.block G (Array.getElem?_eq_some_iff.1 HG.out).1).trans HG.out
    exact ⟨cell_of_row W G 0 _ _ _ h, cell_of_row W G 1 _ _ _ h, cell_of_row W G 2 _ _ _ h, cell_of_row W G 3 _ _ _ h, cell_of_row W G 4 _ _ _ h, cell_of_row W G 5 _ _ _ h, cell_of_row W G 6 _ _ _ h⟩)
  have h1 := awake_any w0 (HFk.out w0 (below_same w0)) (HLk.out w0 (below_same w0))
  clear hR hI hrd hby hF hL x0 HG
  go_enter Tryd.func8, Tryd.ntmps8
  go_upto_region 1 with fail
  rw [hw0.out, hG.out]
  clear hw0 hG
  go_upto_region 3 with (go_at_call 9; refine h1.mono ?_; rintro e w1 ⟨rfl, b1⟩; replace b1 := hd b1)
  clear h1
  have hfew : Calls Tryd.prog 20 #[.agg #[.slice g.la c.labels.length g.lc, .slice g.ta c.table.length g.tc, .int .i64 c.fuel, .int .i64 c.lane, .int .i64 c.locks, .int .i64 c.log, .slice g.pa c.procs.length g.pc]] w1 (FewOut w1 c) := few_any c g w1 (HRk.out w1 b1.out) hlen.out hcod.out
  unfold FewOut at hfew
  obtain ⟨c0, c1, c2, c3, c4, c5, c6⟩ := K0.out w1 b1.out
  go_wp2_with fail
  with_reducible refine hfew.mono ?_
  rintro e w2 ⟨fb, rfl, hfb, b2⟩
  replace hfb := hd hfb
  have B2 : Hid (Below w0.heap.size w0 w2) := hd (b1.out.trans (b2.mono b1.out.size))
  clear hfew b2 b1 c0 c1 c2 c3 c4 c5 c6
  cases fb with
  | false =>
    go_wp2_with fail
    go_ret
    exact ⟨rfl, B0.out.trans (B2.out.mono B0.out.size)⟩
  | true =>
  have HFew : Hid (FewC c) := hd (hfb.out rfl)
  clear hfb
  go_upto_region 5 with fail
  have hwd : Calls Tryd.prog 19 #[.agg #[.slice g.la c.labels.length g.lc, .slice g.ta c.table.length g.tc, .int .i64 c.fuel, .int .i64 c.lane, .int .i64 c.locks, .int .i64 c.log, .slice g.pa c.procs.length g.pc]] w2 fun e w' => ∃ g', e = .returned (cfV c g') ∧ WdO w2.heap.size w' c g' ∧ Below w2.heap.size w2 w' := wide_any c g w2 (HRk.out w2 B2.out) ⟨HFew.out.1, HFew.out.2.1, HFew.out.2.2.1⟩ HFew.out.2.2.2
  obtain ⟨c0, c1, c2, c3, c4, c5, c6⟩ := K0.out w2 B2.out
  go_upto_region 6 with (go_at_call 19; refine hwd.mono ?_; rintro e v1 ⟨gw, rfl, ho, b3⟩; unfold cfV cfA; replace ho := hd ho; replace b3 := hd b3)
  clear hwd c0 c1 c2 c3 c4 c5 c6
  obtain ⟨v2, hv2⟩ : ∃ W, Hid (v1.alloc (.cells #[.slice gw.la c.labels.length gw.lc, .slice gw.ta c.table.length gw.tc, .int .i64 c.fuel, .int .i64 c.lane, .int .i64 c.locks, .int .i64 c.log, .slice gw.pa c.procs.length gw.pc] 27) = W) := ⟨_, rfl⟩
  rw [hv2.out]
  have xv2 : Hid (Below v1.heap.size v1 v2) := hd (by rw [← hv2.out]; exact below_al v1 _)
  have HGw : Hid (v2.heap[v1.heap.size]? = some (.cells #[.slice gw.la c.labels.length gw.lc, .slice gw.ta c.table.length gw.tc, .int .i64 c.fuel, .int .i64 c.lane, .int .i64 c.locks, .int .i64 c.log, .slice gw.pa c.procs.length gw.pc] 27 (0, 0))) := hd (by rw [← hv2.out]; exact heap_alloc_new v1 _)
  obtain ⟨Gw, hGw⟩ : ∃ G, Hid (v1.heap.size = G) := ⟨_, rfl⟩
  rw [hGw.out] at HGw ⊢
  clear hv2
  have Bv2 : Hid (Below w0.heap.size w0 v2) := hd (B2.out.trans ((b3.out.trans (xv2.out.mono b3.out.size)).mono B2.out.size))
  have HWd : Hid (∀ W, Below v2.heap.size v2 W → WdO w2.heap.size W c gw) := hd (fun W h => (ho.out.below xv2.out).below h)
  have HSw : Hid (∀ k, blks c gw k → w2.heap.size ≤ k ∧ k < v1.heap.size) := hd (fun k ⟨d, hd, hk⟩ => ⟨ho.out.cfO.own.new d hd k hk, ho.out.cfO.own.lt d hd k hk⟩)
  have hGwl : Hid (Gw < v2.heap.size) := hd (Array.getElem?_eq_some_iff.1 HGw.out).1
  have Kw : Hid (∀ W, Below v2.heap.size v2 W → W.cell? ⟨Gw, 0, none⟩ = some (.slice gw.la c.labels.length gw.lc) ∧ W.cell? ⟨Gw, 1, none⟩ = some (.slice gw.ta c.table.length gw.tc) ∧ W.cell? ⟨Gw, 2, none⟩ = some (.int .i64 c.fuel) ∧ W.cell? ⟨Gw, 3, none⟩ = some (.int .i64 c.lane) ∧ W.cell? ⟨Gw, 4, none⟩ = some (.int .i64 c.locks) ∧ W.cell? ⟨Gw, 5, none⟩ = some (.int .i64 c.log) ∧ W.cell? ⟨Gw, 6, none⟩ = some (.slice gw.pa c.procs.length gw.pc)) := hd (fun W hW => by
    have h : W.heap[Gw]? = _ := (hW.block Gw (Array.getElem?_eq_some_iff.1 HGw.out).1).trans HGw.out
    exact ⟨cell_of_row W Gw 0 _ _ _ h, cell_of_row W Gw 1 _ _ _ h, cell_of_row W Gw 2 _ _ _ h, cell_of_row W Gw 3 _ _ _ h, cell_of_row W Gw 4 _ _ _ h, cell_of_row W Gw 5 _ _ _ h, cell_of_row W Gw 6 _ _ _ h⟩)
  clear HGw b3
  have hmay : Calls Tryd.prog 10 #[.agg #[.slice gw.la c.labels.length gw.lc, .slice gw.ta c.table.length gw.tc, .int .i64 c.fuel, .int .i64 c.lane, .int .i64 c.locks, .int .i64 c.log, .slice gw.pa c.procs.length gw.pc]] v2 fun e w' => e = .returned (.tuple #[.int .i64 (mayC c).1, .int .i64 (mayC c).2]) ∧ Below v2.heap.size v2 w' := cmay_any c gw v2 (HWd.out v2 (below_same v2)).cfO.rd (HFk.out v2 Bv2.out) (HLk.out v2 Bv2.out)
  obtain ⟨c0, c1, c2, c3, c4, c5, c6⟩ := Kw.out v2 (below_same v2)
  go_upto_region 7 with (go_at_call 10; refine hmay.mono ?_; rintro e v3 ⟨rfl, b3⟩; replace b3 := hd b3)
  clear hmay c0 c1 c2 c3 c4 c5 c6
  have Bv3 : Hid (Below w0.heap.size w0 v3) := hd (Bv2.out.trans (b3.out.mono Bv2.out.size))
  have hsk : Calls Tryd.prog 14 #[.agg #[.slice gw.la c.labels.length gw.lc, .slice gw.ta c.table.length gw.tc, .int .i64 c.fuel, .int .i64 c.lane, .int .i64 c.locks, .int .i64 c.log, .slice gw.pa c.procs.length gw.pc], .agg #[.slice g.la c.labels.length g.lc, .slice g.ta c.table.length g.tc, .int .i64 c.fuel, .int .i64 c.lane, .int .i64 c.locks, .int .i64 c.log, .slice g.pa c.procs.length g.pc]] v3 fun e w' => e = .returned (.bool (skB c c)) ∧ Below v3.heap.size v3 w' := skel_any c c gw g v3 (HWd.out v3 b3.out).cfO.rd (HRk.out v3 Bv3.out) hlen.out
  obtain ⟨c0, c1, c2, c3, c4, c5, c6⟩ := Kw.out v3 b3.out
  obtain ⟨d0, d1, d2, d3, d4, d5, d6⟩ := K0.out v3 Bv3.out
  go_upto_region 8 with (go_at_call 14; refine hsk.mono ?_; rintro e v4 ⟨rfl, b4⟩; replace b4 := hd (b3.out.trans (b4.mono b3.out.size)))
  clear hsk b3 Bv3 c0 c1 c2 c3 c4 c5 c6 d0 d1 d2 d3 d4 d5 d6
  have Bv4 : Hid (Below w0.heap.size w0 v4) := hd (Bv2.out.trans (b4.out.mono Bv2.out.size))
  have henc : Calls Tryd.prog 12 #[.agg #[.slice gw.la c.labels.length gw.lc, .slice gw.ta c.table.length gw.tc, .int .i64 c.fuel, .int .i64 c.lane, .int .i64 c.locks, .int .i64 c.log, .slice gw.pa c.procs.length gw.pc]] v4 (EncU v4 c) := cencU c gw v4 (HWd.out v4 b4.out).cfO.rd (HFk.out v4 Bv4.out) (HLk.out v4 Bv4.out)
  have HE2 : Hid (∀ W, Below v2.heap.size v2 W → Calls Tryd.prog 12 #[.agg #[.slice gw.la c.labels.length gw.lc, .slice gw.ta c.table.length gw.tc, .int .i64 c.fuel, .int .i64 c.lane, .int .i64 c.locks, .int .i64 c.log, .slice gw.pa c.procs.length gw.pc]] W (EncU W c)) := hd (fun W h => cencU c gw W (HWd.out W h).cfO.rd (HFk.out W (Bv2.out.trans (h.mono Bv2.out.size))) (HLk.out W (Bv2.out.trans (h.mono Bv2.out.size))))
  have HE3 : Hid (∀ W, Below w0.heap.size w0 W → Calls Tryd.prog 13 #[.agg #[.slice g.la c.labels.length g.lc, .slice g.ta c.table.length g.tc, .int .i64 c.fuel, .int .i64 c.lane, .int .i64 c.locks, .int .i64 c.log, .slice g.pa c.procs.length g.pc]] W (EncU W c)) := hd (fun W h => dencU c g W (HRk.out W h))
  unfold EncU at henc HE2 HE3
  have hbX := hd (encX_byte c)
  have hlX := encX_len c
  generalize encX c = xs at henc HE2 HE3 hbX hlX
  generalize (mayC c).1 = ME at henc HE2 HE3 ⊢
  obtain ⟨c0, c1, c2, c3, c4, c5, c6⟩ := Kw.out v4 b4.out
  go_upto_region 9 with (go_at_call 12; refine henc.mono ?_; rintro e v5 ⟨xa, xc, rfl, hrx, hnx, b5⟩; replace hrx := hd hrx; replace hnx := hd hnx; replace b5 := hd b5)
  clear henc c0 c1 c2 c3 c4 c5 c6
  have b45 : Hid (Below v2.heap.size v2 v5) := hd (b4.out.trans (b5.out.mono b4.out.size))
  have henc := HE2.out v5 b45.out
  obtain ⟨c0, c1, c2, c3, c4, c5, c6⟩ := Kw.out v5 b45.out
  go_upto_region 10 with (go_at_call 12; refine henc.mono ?_; rintro e v6 ⟨ya, yc, rfl, hry, hny, b6⟩; replace hry := hd hry; replace hny := hd hny; replace b6 := hd b6)
  clear henc HE2 c0 c1 c2 c3 c4 c5 c6
  have b46 : Hid (Below v2.heap.size v2 v6) := hd (b45.out.trans (b6.out.mono b45.out.size))
  have Bv6 : Hid (Below w0.heap.size w0 v6) := hd (Bv2.out.trans (b46.out.mono Bv2.out.size))
  have hrx6 : Hid (Row v6 5 1 xa xs.length xc (bCells xs)) := hd (hrx.out.below b6.out)
  have hsx : Hid (∀ k, blk xa = some k → v4.heap.size ≤ k ∧ k < v5.heap.size) := hd (fun k hk => ⟨hnx.out k hk, hrx.out.lt k hk⟩)
  have hkp : Calls Tryd.prog 21 #[.agg #[.slice gw.la c.labels.length gw.lc, .slice gw.ta c.table.length gw.tc, .int .i64 c.fuel, .int .i64 c.lane, .int .i64 c.locks, .int .i64 c.log, .slice gw.pa c.procs.length gw.pc], .agg #[.slice g.la c.labels.length g.lc, .slice g.ta c.table.length g.tc, .int .i64 c.fuel, .int .i64 c.lane, .int .i64 c.locks, .int .i64 c.log, .slice g.pa c.procs.length g.pc]] v6 fun e w' => e = .returned (.bool true) ∧ Below v6.heap.size v6 w' := kept_any c gw g _ v6 (HWd.out v6 b46.out) (HRk.out v6 Bv6.out) HFew.out
  obtain ⟨c0, c1, c2, c3, c4, c5, c6⟩ := Kw.out v6 b46.out
  obtain ⟨d0, d1, d2, d3, d4, d5, d6⟩ := K0.out v6 Bv6.out
  go_upto_region 12 with (go_at_call 21; refine hkp.mono ?_; rintro e v7 ⟨rfl, b7⟩; replace b7 := hd b7)
  clear hkp c0 c1 c2 c3 c4 c5 c6 d0 d1 d2 d3 d4 d5 d6
  have b47 : Hid (Below v2.heap.size v2 v7) := hd (b46.out.trans (b7.out.mono b46.out.size))
  have Bv7 : Hid (Below w0.heap.size w0 v7) := hd (Bv2.out.trans (b47.out.mono Bv2.out.size))
  have hwk : Calls Tryd.prog 22 #[.agg #[.slice gw.la c.labels.length gw.lc, .slice gw.ta c.table.length gw.tc, .int .i64 c.fuel, .int .i64 c.lane, .int .i64 c.locks, .int .i64 c.log, .slice gw.pa c.procs.length gw.pc], .int .i64 99] v7 (WreckOut v7 c gw 99) := wreck_any c gw 99 _ v7 (HWd.out v7 b47.out).cfO (by decide) HFew.out
  unfold WreckOut at hwk
  obtain ⟨c0, c1, c2, c3, c4, c5, c6⟩ := Kw.out v7 b47.out
  go_upto_region 13 with (go_at_call 22; refine hwk.mono ?_; rintro e v8 ⟨dw, hw, rfl, hwo, -⟩; replace hwo := hd hwo.mod)
  clear hwk c0 c1 c2 c3 c4 c5 c6
  have Bv8 : Hid (Below w0.heap.size w0 v8) := hd (Bv7.out.trans (hwo.out.below (B := w0.heap.size) Bv7.out.size (fun k _ hk => Nat.le_trans B2.out.size (HSw.out k hk).1)))
  have hs12 : Hid (v1.heap.size ≤ v4.heap.size) := hd (Nat.le_trans xv2.out.size b4.out.size)
  have hrx8 : Hid (Row v8 5 1 xa xs.length xc (bCells xs)) := hd ((hrx6.out.below b7.out).mod hwo.out (fun k hk hs => by have h1 := (hsx.out k hk).1; have h2 := (HSw.out k hs).2; have h3 := hs12.out; omega))
  have hsy : Hid (∀ k, blk ya = some k → v5.heap.size ≤ k ∧ k < v6.heap.size) := hd (fun k hk => ⟨hny.out k hk, hry.out.lt k hk⟩)
  have hry8 : Hid (Row v8 5 1 ya xs.length yc (bCells xs)) := hd ((hry.out.below b7.out).mod hwo.out (fun k hk hs => by have h1 := (hsy.out k hk).1; have h2 := (HSw.out k hs).2; have h3 := hs12.out; have h4 := b5.out.size; omega))
  have hs68 : Hid (v6.heap.size ≤ v8.heap.size) := hd (Nat.le_trans b7.out.size hwo.out.size)
  clear HWd HSw Kw hGwl b47 b46 b45 b4 b7 hrx hry hrx6 hnx hny Bv7 Bv6 hwo hs12 ho xv2
  have henc := HE3.out v8 Bv8.out
  obtain ⟨c0, c1, c2, c3, c4, c5, c6⟩ := K0.out v8 Bv8.out
  go_upto_region 14 with (go_at_call 13; refine henc.mono ?_; rintro e v9 ⟨na, nc, rfl, hrn, hnn, b9⟩; replace hrn := hd hrn; replace hnn := hd hnn; replace b9 := hd b9)
  clear henc HE3 c0 c1 c2 c3 c4 c5 c6
  have hrx9 : Hid (Row v9 5 1 xa xs.length xc (bCells xs)) := hd (hrx8.out.below b9.out)
  have hry9 : Hid (Row v9 5 1 ya xs.length yc (bCells xs)) := hd (hry8.out.below b9.out)
  have s1 := string_rd (w := v9) hrx9.out.rd hbX.out (row_zero hrx9.out)
  have s2 := string_rd (w := v9) hry9.out.rd hbX.out (row_zero hry9.out)
  have s3 := string_rd (w := v9) hrn.out.rd hbX.out (row_zero hrn.out)
  obtain ⟨X, hX⟩ : ∃ X, Hid (toU xs = X) := ⟨_, rfl⟩
  rw [hX.out] at s1 s2 s3
  go_upto_block 0 with fail
  clear s1 s2 s3
  go_cut [12, 71] (fun v12 v71 wy => Hid (Row wy 5 1 xa xs.length xc (bCells (List.replicate xs.length 7)) ∧ Mod (fun k => blk xa = some k) v9 wy))
  case first =>
    go_wp2_with fail
    go_loopg [12, 71, 72, 73, 74, 75, 76, 77] xs.length (fun gg v12 v71 v72 v73 v74 v75 v76 v77 wr => ∃ i : Nat, v71 = .int .i64 (i : Int) ∧ i + gg = xs.length ∧ Hid (Row wr 5 1 xa xs.length xc (bCells (filled 7 xs i)) ∧ Mod (fun k => blk xa = some k) v9 wr))
    case atStart => exact ⟨0, by go_num, by omega, hd ⟨by rw [filled_zero]; exact hrx9.out, Mod.refl _ _⟩⟩
    case round =>
      obtain ⟨i, rfl, hi, HW⟩ := hrel
      by_cases h0 : gk = 0
      · subst h0
        obtain rfl : i = xs.length := by omega
        have hge : decide ((xs.length : Int) < (xs.length : Int)) = false := by simp
        go_wp2_with fail
        go_meet
        rw [← filled_all]
        exact HW
      · have hlt : (i : Int) < (xs.length : Int) := by omega
        obtain ⟨bx, rfl⟩ := HW.out.1.head (by omega)
        obtain ⟨r1, r2, r3, r4⟩ := row_set HW.out.1 i (by omega) (.int .u8 7)
        obtain ⟨vv, hv⟩ := Option.isSome_iff_exists.1 r3
        have HN : Hid (Row (wr.setCell ⟨bx, i, none⟩ (.int .u8 7)) 5 1 (some ⟨bx, 0, none⟩) xs.length xc (bCells (filled 7 xs (i + 1))) ∧ Mod (fun k => blk (some (⟨bx, 0, none⟩ : Addr)) = some k) v9 (wr.setCell ⟨bx, i, none⟩ (.int .u8 7))) := hd ⟨by
          rw [← filled_set _ _ _ (by omega), ← bC_set]
          exact r1, HW.out.2.trans r2 (fun _ h => .inl h)⟩
        clear r1 r2 r3 HW
        go_wp2_with fail
        go_roundg (gk - 1)
        case rel => exact ⟨i + 1, by go_num, by omega, HN⟩
        case measure => omega
  case rest =>
  have HX1 : Hid (Row wc 5 1 xa xs.length xc (bCells (List.replicate xs.length 7)) ∧ Mod (fun k => blk xa = some k) v9 wc) := hcut
  clear hcut hrx9
  go_upto_block 2 with fail
  go_cut [6, 78] (fun v6 v78 wy => ∃ (a' : Option Addr) (c' : Nat), v6 = .slice a' (xs.length + 40) c' ∧ Hid (GrTo v9 xa wy a'))
  case first =>
    go_wp2_with fail
    go_loopg [6, 78, 79, 80, 81, 82, 83] 40 (fun gg v6 v78 v79 v80 v81 v82 v83 wr => ∃ (t : Nat) (a' : Option Addr) (c' : Nat), v78 = .int .i64 (t : Int) ∧ t + gg = 40 ∧ v6 = .slice a' (xs.length + t) c' ∧ Hid (GrTo v9 xa wr a' ∧ ∃ ys, Row wr 5 1 a' (xs.length + t) c' ys))
    case atStart => exact ⟨0, xa, xc, by go_num, by omega, rfl, hd ⟨⟨HX1.out.2, fun k hk => .inl hk⟩, _, HX1.out.1⟩⟩
    case round =>
      clear HX1
      obtain ⟨t, a', c', rfl, ht, rfl, HW⟩ := hrel
      by_cases h0 : gk = 0
      · subst h0
        obtain rfl : t = 40 := by omega
        go_wp2_with fail
        go_meet
        exact ⟨a', c', rfl, hd HW.out.1⟩
      · have hlt : (t : Int) < 40 := by omega
        obtain ⟨hgt, ys, hrw⟩ := HW.out
        obtain ⟨x2, y2, u2, hap, r1, m1, n1⟩ := push_any Tryd.underlying31 info_u8 rfl (by omega) hrw (by omega) [.int .u8 8] rfl (by decide)
        have HN : Hid (GrTo v9 xa u2 x2 ∧ ∃ ys, Row u2 5 1 x2 (xs.length + (t + 1)) y2 ys) := hd ⟨hgt.trans ⟨m1, n1⟩, _, r1⟩
        replace hap := hd hap
        clear HW hgt hrw r1 m1 n1
        go_wp2_with (at_builtin; refine wpList_append_run rfl _ _ _ rfl _ _ _ _ rfl rfl hap.out ?_; clear hap)
        go_roundg (gk - 1)
        case rel => exact ⟨t + 1, x2, y2, by go_num, by omega, rfl, HN⟩
        case measure => omega
  case rest =>
  clear HX1
  obtain ⟨xa2, xc2, rfl, HGt⟩ := hcut
  have hnx2 : Hid (∀ k, blk xa = some k → k < v5.heap.size) := hd (fun k hk => (hsx.out k hk).2)
  have hry10 : Hid (Row wc 5 1 ya xs.length yc (bCells xs)) := hd (hry9.out.mod HGt.out.mod (fun k hk e => by have h1 := (hsy.out k hk).1; have h2 := hnx2.out k e; omega))
  have hrn10 : Hid (Row wc 5 1 na xs.length nc (bCells xs)) := hd (hrn.out.mod HGt.out.mod (fun k hk e => by have h1 := hnn.out k hk; have h2 := hnx2.out k e; have h3 := hs68.out; have h4 := b6.out.size; omega))
  have s1 := string_rd (w := wc) hry10.out.rd hbX.out (row_zero hry10.out)
  have s2 := string_rd (w := wc) hrn10.out.rd hbX.out (row_zero hrn10.out)
  rw [hX.out] at s1 s2
  have Bv10 : Hid (Below w0.heap.size w0 wc) := hd ((Bv8.out.trans (b9.out.mono Bv8.out.size)).trans (HGt.out.mod.below (B := w0.heap.size) (Bv8.out.trans (b9.out.mono Bv8.out.size)).size (fun k _ hk => Nat.le_trans Bv4.out.size (hsx.out k hk).1)))
  go_upto_region 27 with fail
  clear s1 s2 hry10 hrn10 HGt hnx2 hsx hsy hry9 hrx8 hry8 hrn hnn b9 b6 hs68 Bv8 Bv4 b5 Bv2 B2 hX hbX
  obtain ⟨u0, rfl⟩ : ∃ W, W = wc := ⟨_, rfl⟩
  obtain ⟨N, hN, hN1⟩ : ∃ N : Nat, min (bs.length : Int) 2097152 = (N : Int) ∧ (N ≤ 2097152 ∧ N ≤ bs.length ∧ (bs.take N).length = N) := by
    refine ⟨min bs.length 2097152, by omega, by omega, by omega, by rw [List.length_take]; omega⟩
  have hNc : N ≤ cap := by omega
  have hNb : N ≤ bs.length := hN1.2.1
  have hN2 : N ≤ 2097152 := hN1.1
  replace hN1 := hd hN1.2.2
  go_upto_region 28 with fail
  obtain ⟨bN, hbN⟩ : ∃ l, Hid (bs.take N = l) := ⟨_, rfl⟩
  have HbN : Hid (Byte bN) := hd (by rw [← hbN.out]; exact byte_take HBy.out N)
  have HlN : Hid (bN.length = N) := hd (by rw [← hbN.out]; exact hN1.out)
  have HRdN : Hid (∀ W, Below w0.heap.size w0 W → Rd W a (bCells bN)) := hd (fun W h => by rw [← hbN.out]; exact rd_take (HRd.out W h) N)
  obtain ⟨u1, oa, oc, u2, RO⟩ := roomy (by decide) Tryd.underlying31 info_u8 rfl (by omega) u0 (c := cap) (HRdN.out u0 Bv10.out) (by rw [bCells_len, HlN.out]; omega) (bCells_one bN) (n := N) (by omega)
  obtain ⟨ob, ocp, u3, hap2, hrow, hmod, hnew⟩ := pushM Tryd.underlying31 info_u8 rfl (by omega) RO.row (by omega) [Value.int .u8 161, Value.int .u8 162] (m := 2) (by omega) rfl (by decide) (cs := #[.int .u8 161, .int .u8 162]) rfl
  obtain ⟨M, hM⟩ : ∃ M, N + 2 = M := ⟨_, rfl⟩
  rw [hM] at hrow hap2
  obtain ⟨ob, rfl⟩ := hrow.head (by omega)
  have hmd := RO.made
  have hap1 := RO.ap
  rw [hM] at hmd hap1
  replace hap1 := hd hap1
  replace hap2 := hd hap2
  have Bu3 : Hid (Below w0.heap.size w0 u3) := hd ((Bv10.out.trans (RO.b2.mono Bv10.out.size)).trans (hmod.below (B := w0.heap.size) (Bv10.out.trans (RO.b2.mono Bv10.out.size)).size (fun k _ hk => Nat.le_trans Bv10.out.size (RO.new k hk))))
  have hob : Hid (ob < u3.heap.size) := hd (hrow.lt ob rfl)
  have HOw : Hid (Row u3 5 1 (some ⟨ob, 0, none⟩) M ocp (bCells bN ++ [Value.int .u8 161, Value.int .u8 162])) := hd hrow
  have hMc : M ≤ ocp := hrow.capLe
  have hMcI : (N : Int) ≤ (ocp : Int) := by omega
  replace hM := hd hM
  have hob0 : Hid (w0.heap.size ≤ ob) := hd (by
    rcases hnew ob rfl with h | h
    · exact Nat.le_trans Bv10.out.size (RO.new _ h)
    · exact Nat.le_trans (Nat.le_trans Bv10.out.size RO.b2.size) h)
  have hw03 : Hid (w0.heap.size ≤ u3.heap.size) := hd Bu3.out.size
  clear hrow hmod hnew RO
  go_upto_region 29 with (first | (at_builtin; refine wpList_append_run rfl _ _ _ rfl _ _ _ _ rfl rfl hap1.out ?_; clear hap1) | (at_builtin; refine wpList_append_run rfl _ _ _ rfl _ _ _ _ rfl rfl hap2.out ?_; clear hap2))
  clear hmd
  have HOr : Hid (∀ W, Below u3.heap.size u3 W → Rd W (some ⟨ob, 0, none⟩) (bCells bN)) := hd (fun W h => by
    have h1 := HOw.out.below h
    rw [← hM.out] at h1
    exact (Row.short h1 (by rw [bCells_len, HlN.out]; omega)).rd)
  have HC1 : Hid (∀ W, Below u3.heap.size u3 W → Calls Tryd.prog 16 #[.slice (some ⟨ob, 0, none⟩) N ocp] W (DecOut W bN)) := hd (fun W h => by
    have hB := Bu3.out.trans (h.mono Bu3.out.size)
    have h1 := cdecode_any (some ⟨ob, 0, none⟩) ocp bN W (HOr.out W h) HbN.out (by rw [HlN.out]; omega) (HFk.out W hB) (HLk.out W hB)
    rw [HlN.out] at h1
    exact h1)
  have HC2 : Hid (∀ W, Below w0.heap.size w0 W → Calls Tryd.prog 17 #[.slice a N cap] W (DecOut W bN)) := hd (fun W h => by
    have h1 := Doc.ddecode_any a cap bN W (HRdN.out W h) HbN.out (by rw [HlN.out]; omega)
    rw [HlN.out] at h1
    exact h1)
  have HFC := hd (decF_few HbN.out)
  unfold DecOut at HC1 HC2
  obtain ⟨RR, hRR⟩ : ∃ R, Hid (decF bN = R) := ⟨_, rfl⟩
  rw [hRR.out] at HC1 HC2 HFC
  obtain ⟨C, CE, CP⟩ := RR
  simp only at HC1 HC2 HFC
  unfold cfV cfA at HC1 HC2
  have hd1 := HC1.out u3 (below_same u3)
  go_upto_region 30 with (go_at_call 16; refine hd1.mono ?_; rintro e u4 ⟨kp, rfl, hop, b4⟩; replace hop := hd hop; replace b4 := hd b4)
  clear hd1
  obtain ⟨u5, hu5⟩ : ∃ W, Hid (u4.alloc (.cells #[.slice kp.la C.labels.length kp.lc, .slice kp.ta C.table.length kp.tc, .int .i64 C.fuel, .int .i64 C.lane, .int .i64 C.locks, .int .i64 C.log, .slice kp.pa C.procs.length kp.pc] 27) = W) := ⟨_, rfl⟩
  rw [hu5.out]
  have xu5 : Hid (Below u4.heap.size u4 u5) := hd (by rw [← hu5.out]; exact below_al u4 _)
  have HGp : Hid (u5.heap[u4.heap.size]? = some (.cells #[.slice kp.la C.labels.length kp.lc, .slice kp.ta C.table.length kp.tc, .int .i64 C.fuel, .int .i64 C.lane, .int .i64 C.locks, .int .i64 C.log, .slice kp.pa C.procs.length kp.pc] 27 (0, 0))) := hd (by rw [← hu5.out]; exact heap_alloc_new u4 _)
  obtain ⟨Gp, hGp⟩ : ∃ G, Hid (u4.heap.size = G) := ⟨_, rfl⟩
  rw [hGp.out] at HGp ⊢
  clear hu5
  have b5 : Hid (Below u3.heap.size u3 u5) := hd (b4.out.trans (xu5.out.mono b4.out.size))
  have hd1 := HC1.out u5 b5.out
  go_upto_region 31 with (go_at_call 16; refine hd1.mono ?_; rintro e u6 ⟨kq, rfl, hoq, b6⟩; replace hoq := hd hoq; replace b6 := hd b6)
  clear hd1 HC1
  obtain ⟨u7, hu7⟩ : ∃ W, Hid (u6.alloc (.cells #[.slice kq.la C.labels.length kq.lc, .slice kq.ta C.table.length kq.tc, .int .i64 C.fuel, .int .i64 C.lane, .int .i64 C.locks, .int .i64 C.log, .slice kq.pa C.procs.length kq.pc] 27) = W) := ⟨_, rfl⟩
  rw [hu7.out]
  have xu7 : Hid (Below u6.heap.size u6 u7) := hd (by rw [← hu7.out]; exact below_al u6 _)
  have HGq : Hid (u7.heap[u6.heap.size]? = some (.cells #[.slice kq.la C.labels.length kq.lc, .slice kq.ta C.table.length kq.tc, .int .i64 C.fuel, .int .i64 C.lane, .int .i64 C.locks, .int .i64 C.log, .slice kq.pa C.procs.length kq.pc] 27 (0, 0))) := hd (by rw [← hu7.out]; exact heap_alloc_new u6 _)
  obtain ⟨Gq, hGq⟩ : ∃ G, Hid (u6.heap.size = G) := ⟨_, rfl⟩
  rw [hGq.out] at HGq ⊢
  clear hu7
  have b57 : Hid (Below u5.heap.size u5 u7) := hd (b6.out.trans (xu7.out.mono b6.out.size))
  have b7 : Hid (Below u3.heap.size u3 u7) := hd (b5.out.trans (b57.out.mono b5.out.size))
  have Bu7 : Hid (Below w0.heap.size w0 u7) := hd (Bu3.out.trans (b7.out.mono Bu3.out.size))
  have nek : Nonempty (BelW u7) := ⟨⟨u7, below_same u7⟩⟩
  have s1 : ∀ p : BelW u7, (convert 31 9 (.slice (some ⟨ob, 0, none⟩) N ocp)).run Tryd.prog p.val = .ok (.string ⟨(toU bN).toArray⟩) p.val := fun p => by
    have h1 := string_rd (w := p.val) (cap := ocp) (HOr.out p.val (b7.out.trans (p.bel.mono b7.out.size))) HbN.out (fun e => by cases e)
    rw [HlN.out] at h1
    exact h1
  have s2 : ∀ p : BelW u7, (convert 31 9 (.slice a N cap)).run Tryd.prog p.val = .ok (.string ⟨(toU bN).toArray⟩) p.val := fun p => by
    have h1 := string_rd (w := p.val) (HRdN.out p.val (Bu7.out.trans (p.bel.mono Bu7.out.size))) HbN.out hnone.out
    rw [HlN.out] at h1
    exact h1
  have s3 : ∀ p : BelW u7, p.val.cell? ⟨ob, N, none⟩ = some (.int .u8 161) := fun p => by
    have h1 : Rd p.val (some ⟨ob, N, none⟩) [Value.int .u8 161, Value.int .u8 162] := rd_off (HOw.out.below (b7.out.trans (p.bel.mono b7.out.size))).rd (by rw [bCells_len, HlN.out])
    exact rd_at h1 0 _ rfl
  have s4 : ∀ p : BelW u7, p.val.cell? ⟨ob, N + 1, none⟩ = some (.int .u8 162) := fun p => by
    have h1 : Rd p.val (some ⟨ob, N, none⟩) [Value.int .u8 161, Value.int .u8 162] := rd_off (HOw.out.below (b7.out.trans (p.bel.mono b7.out.size))).rd (by rw [bCells_len, HlN.out])
    exact rd_at h1 1 _ rfl
  have hM2 := hM.out
  have hNM : (N : Int) < (M : Int) := by omega
  have hNM1 : (N : Int) + 1 < (M : Int) := by omega
  have hNn : N < M := by omega
  have hNn1 : N + 1 < M := by omega
  clear hM2
  have eN : IntKind.i64.wrap ((N : Int) + 1) = (N : Int) + 1 := by rw [IntKind.wrap_i64]; omega
  generalize toU bN = X at s1 s2
  refine wp_region_family (α := BelW u7) BelW.val (by kernel_rfl) (by kernel_rfl) ⟨u7.drew, below_draw u7 1⟩ rfl ?_
  repeat (go_big_quiet_step (fail))
  refine wpQuiet_nil ?_
  rintro w' ⟨p, rfl⟩
  have b8 := hd p.bel
  generalize p.val = u8 at *
  clear s1 s2 s3 s4 hNM hNM1 hNn hNn1 eN nek p
  go_upto_block 4 with fail
  have hMb : M ≤ 2097154 := by have := hM.out; omega
  have b38 : Hid (Below u3.heap.size u3 u8) := hd (b7.out.trans (b8.out.mono b7.out.size))
  have HO8 : Hid (∃ zs : List Int, Row u8 5 1 (some ⟨ob, 0, none⟩) M ocp (zs.map (Value.int .u8 ·))) := hd ⟨bN.map (fun x : Nat => (x : Int)) ++ [161, 162], by
    have h1 := HOw.out.below b38.out
    have h2 : (bN.map (fun x : Nat => (x : Int)) ++ [161, 162]).map (Value.int .u8 ·) = bCells bN ++ [Value.int .u8 161, Value.int .u8 162] := by simp [bCells]
    rw [h2]
    exact h1⟩
  go_cut [20, 155] (fun v20 v155 wy => Hid (Mod (fun k => k = ob) u8 wy))
  case first =>
    go_wp2_with fail
    go_loopg [20, 155, 156, 157, 158, 159, 160, 161, 162, 163, 164] M (fun gg v20 v155 v156 v157 v158 v159 v160 v161 v162 v163 v164 wr => ∃ i : Nat, v155 = .int .i64 (i : Int) ∧ i + gg = M ∧ Hid ((∃ zs : List Int, Row wr 5 1 (some ⟨ob, 0, none⟩) M ocp (zs.map (Value.int .u8 ·))) ∧ Mod (fun k => k = ob) u8 wr))
    case atStart => exact ⟨0, by go_num, by omega, hd ⟨HO8.out, Mod.refl _ _⟩⟩
    case round =>
      clear HO8
      obtain ⟨i, rfl, hi, HW⟩ := hrel
      by_cases h0 : gk = 0
      · subst h0
        obtain rfl : i = M := by omega
        have hge : decide ((i : Int) < (i : Int)) = false := by simp
        go_wp2_with fail
        go_meet
        exact hd HW.out.2
      · have hlt : (i : Int) < (M : Int) := by omega
        obtain ⟨⟨zs, hz⟩, hmo⟩ := HW.out
        have hzl : zs.length = M := by have := hz.len; simpa using this
        have y := row_cell hz i (.int .u8 (zs.getD i 0)) (by simp [List.getD_eq_getElem?_getD, List.getElem?_eq_getElem (show i < zs.length by omega)])
        have yf := row_free hz i
        have HN : Hid (∀ v : Int, (∃ zs : List Int, Row (wr.setCell ⟨ob, i, none⟩ (.int .u8 v)) 5 1 (some ⟨ob, 0, none⟩) M ocp (zs.map (Value.int .u8 ·))) ∧ Mod (fun k => k = ob) u8 (wr.setCell ⟨ob, i, none⟩ (.int .u8 v))) := hd (fun v => ⟨⟨zs.set i v, by
          rw [List.map_set]
          exact (row_set hz i (by omega) (.int .u8 v)).1⟩, hmo.setCell (.inl rfl) _⟩)
        generalize zs.getD i 0 = zz at *
        clear HW hz hmo hzl
        go_wp2_with fail
        go_roundg (gk - 1)
        case rel => exact ⟨i + 1, by go_num, by omega, hd (HN.out _)⟩
        case measure => omega
  case rest =>
  clear HO8
  obtain ⟨z0, rfl⟩ : ∃ W, W = wc := ⟨_, rfl⟩
  have hm0 : Hid (Mod (fun k => k = ob) u8 z0) := hcut
  clear hcut
  have hsz : Hid (u3.heap.size ≤ Gp ∧ Gp < u5.heap.size ∧ u5.heap.size ≤ Gq ∧ Gq < u7.heap.size ∧ u7.heap.size ≤ u8.heap.size ∧ u8.heap.size ≤ z0.heap.size ∧ ob < u3.heap.size) := hd (by
    have h1 := b4.out.size
    have h2 := hGp.out
    have h3 := (Array.getElem?_eq_some_iff.1 HGp.out).1
    have h4 := b6.out.size
    have h5 := hGq.out
    have h6 := (Array.getElem?_eq_some_iff.1 HGq.out).1
    have h7 := b8.out.size
    have h8 := hm0.out.size
    have h9 := hob.out
    omega)
  have HP0 : Hid (CfO u3.heap.size z0 C kp) := hd ⟨(((hop.out.own.below xu5.out).below b57.out).below b8.out).mod hm0.out (fun d hd k hk e => by have h1 := hop.out.own.new d hd k hk; have h2 := hob.out; omega), hop.out.ps⟩
  have HQ0 : Hid (CfO u5.heap.size z0 C kq) := hd ⟨((hoq.out.own.below xu7.out).below b8.out).mod hm0.out (fun d hd k hk e => by have h1 := hoq.out.own.new d hd k hk; have h2 := hob.out; have h3 := b5.out.size; omega), hoq.out.ps⟩
  have hSp : Hid (∀ k, blks C kp k → u3.heap.size ≤ k ∧ k < Gp) := hd (fun k ⟨d, hd, hk⟩ => ⟨hop.out.own.new d hd k hk, by have := hop.out.own.lt d hd k hk; have := hGp.out; omega⟩)
  have hSq : Hid (∀ k, blks C kq k → u5.heap.size ≤ k ∧ k < Gq) := hd (fun k ⟨d, hd, hk⟩ => ⟨hoq.out.own.new d hd k hk, by have := hoq.out.own.lt d hd k hk; have := hGq.out; omega⟩)
  have HGp0 : Hid (z0.heap[Gp]? = some (.cells #[.slice kp.la C.labels.length kp.lc, .slice kp.ta C.table.length kp.tc, .int .i64 C.fuel, .int .i64 C.lane, .int .i64 C.locks, .int .i64 C.log, .slice kp.pa C.procs.length kp.pc] 27 (0, 0))) := hd (by
    have hs := hsz.out
    rw [hm0.out.block Gp (by omega) (by omega), b8.out.block Gp (by omega), b57.out.block Gp (by omega)]
    exact HGp.out)
  have HGq0 : Hid (z0.heap[Gq]? = some (.cells #[.slice kq.la C.labels.length kq.lc, .slice kq.ta C.table.length kq.tc, .int .i64 C.fuel, .int .i64 C.lane, .int .i64 C.locks, .int .i64 C.log, .slice kq.pa C.procs.length kq.pc] 27 (0, 0))) := hd (by
    have hs := hsz.out
    rw [hm0.out.block Gq (by omega) (by omega), b8.out.block Gq (by omega)]
    exact HGq.out)
  have Bz0 : Hid (Below w0.heap.size w0 z0) := hd ((Bu7.out.trans (b8.out.mono Bu7.out.size)).trans (hm0.out.below (B := w0.heap.size) (Bu7.out.trans (b8.out.mono Bu7.out.size)).size (fun k _ hk => by have := hob0.out; omega)))
  clear hop hoq HGp HGq xu5 xu7 b4 b5 b57 b6 b7 b8 b38 hm0 HOw HOr Bu7 Bu3 hob hob0 hGp hGq
  have hd1 := HC2.out z0 Bz0.out
  go_upto_region 39 with (go_at_call 17; refine hd1.mono ?_; rintro e z1 ⟨kd, rfl, hod, b1⟩; replace hod := hd hod; replace b1 := hd b1)
  clear hd1 HC2
  obtain ⟨z2, hz2⟩ : ∃ W, Hid (z1.alloc (.cells #[.slice kd.la C.labels.length kd.lc, .slice kd.ta C.table.length kd.tc, .int .i64 C.fuel, .int .i64 C.lane, .int .i64 C.locks, .int .i64 C.log, .slice kd.pa C.procs.length kd.pc] 27) = W) := ⟨_, rfl⟩
  rw [hz2.out]
  have xz2 : Hid (Below z1.heap.size z1 z2) := hd (by rw [← hz2.out]; exact below_al z1 _)
  have HGd : Hid (z2.heap[z1.heap.size]? = some (.cells #[.slice kd.la C.labels.length kd.lc, .slice kd.ta C.table.length kd.tc, .int .i64 C.fuel, .int .i64 C.lane, .int .i64 C.locks, .int .i64 C.log, .slice kd.pa C.procs.length kd.pc] 27 (0, 0))) := hd (by rw [← hz2.out]; exact heap_alloc_new z1 _)
  obtain ⟨Gd, hGd⟩ : ∃ G, Hid (z1.heap.size = G) := ⟨_, rfl⟩
  rw [hGd.out] at HGd ⊢
  clear hz2
  have b2 : Hid (Below z0.heap.size z0 z2) := hd (b1.out.trans (xz2.out.mono b1.out.size))
  have HP2 : Hid (CfO u3.heap.size z2 C kp) := hd (HP0.out.below b2.out)
  have HQ2 : Hid (CfO u5.heap.size z2 C kq) := hd (HQ0.out.below b2.out)
  have HD2 : Hid (CfO z0.heap.size z2 C kd) := hd (hod.out.below xz2.out)
  have hSd : Hid (∀ k, blks C kd k → z0.heap.size ≤ k) := hd (fun k ⟨d, hd, hk⟩ => hod.out.own.new d hd k hk)
  have HGp2 : Hid (z2.heap[Gp]? = some (.cells #[.slice kp.la C.labels.length kp.lc, .slice kp.ta C.table.length kp.tc, .int .i64 C.fuel, .int .i64 C.lane, .int .i64 C.locks, .int .i64 C.log, .slice kp.pa C.procs.length kp.pc] 27 (0, 0))) := hd (by rw [b2.out.block Gp (Array.getElem?_eq_some_iff.1 HGp0.out).1]; exact HGp0.out)
  have HGq2 : Hid (z2.heap[Gq]? = some (.cells #[.slice kq.la C.labels.length kq.lc, .slice kq.ta C.table.length kq.tc, .int .i64 C.fuel, .int .i64 C.lane, .int .i64 C.locks, .int .i64 C.log, .slice kq.pa C.procs.length kq.pc] 27 (0, 0))) := hd (by rw [b2.out.block Gq (Array.getElem?_eq_some_iff.1 HGq0.out).1]; exact HGq0.out)
  have hGdz : Hid (z0.heap.size ≤ Gd) := hd (by have := b1.out.size; have := hGd.out; omega)
  clear HP0 HQ0 hod HGp0 HGq0 b1 xz2 hGd
  have hln : C.labels.length ≤ 9223372036854775807 ∧ C.table.length ≤ 9223372036854775807 ∧ C.procs.length ≤ 9223372036854775807 := by
    obtain ⟨h1, h2, h3, -⟩ := HFC.out
    omega
  replace hln := hd hln
  have hcd2 : Hid (∀ p ∈ C.procs, p.code.length ≤ 2000000) := hd (fun p hp => by have := HFC.out.2.2.2 p hp; omega)
  have hs1 : Calls Tryd.prog 18 #[.agg #[.slice kp.la C.labels.length kp.lc, .slice kp.ta C.table.length kp.tc, .int .i64 C.fuel, .int .i64 C.lane, .int .i64 C.locks, .int .i64 C.log, .slice kp.pa C.procs.length kp.pc], .agg #[.slice kd.la C.labels.length kd.lc, .slice kd.ta C.table.length kd.tc, .int .i64 C.fuel, .int .i64 C.lane, .int .i64 C.locks, .int .i64 C.log, .slice kd.pa C.procs.length kd.pc]] z2 fun e w' => e = .returned (.bool true) ∧ Below z2.heap.size z2 w' := dsame_yes C kp kd z2 HP2.out.rd HD2.out.rd hln.out hcd2.out
  have HS2 : Hid (∀ W, Below z2.heap.size z2 W → Calls Tryd.prog 18 #[.agg #[.slice kq.la C.labels.length kq.lc, .slice kq.ta C.table.length kq.tc, .int .i64 C.fuel, .int .i64 C.lane, .int .i64 C.locks, .int .i64 C.log, .slice kq.pa C.procs.length kq.pc], .agg #[.slice kd.la C.labels.length kd.lc, .slice kd.ta C.table.length kd.tc, .int .i64 C.fuel, .int .i64 C.lane, .int .i64 C.locks, .int .i64 C.log, .slice kd.pa C.procs.length kd.pc]] W fun e w' => e = .returned (.bool true) ∧ Below W.heap.size W w') := hd (fun W h => dsame_yes C kq kd W (HQ2.out.below h).rd (HD2.out.below h).rd hln.out hcd2.out)
  obtain ⟨c0, c1, c2, c3, c4, c5, c6⟩ : z2.cell? ⟨Gp, 0, none⟩ = some (.slice kp.la C.labels.length kp.lc) ∧ z2.cell? ⟨Gp, 1, none⟩ = some (.slice kp.ta C.table.length kp.tc) ∧ z2.cell? ⟨Gp, 2, none⟩ = some (.int .i64 C.fuel) ∧ z2.cell? ⟨Gp, 3, none⟩ = some (.int .i64 C.lane) ∧ z2.cell? ⟨Gp, 4, none⟩ = some (.int .i64 C.locks) ∧ z2.cell? ⟨Gp, 5, none⟩ = some (.int .i64 C.log) ∧ z2.cell? ⟨Gp, 6, none⟩ = some (.slice kp.pa C.procs.length kp.pc) := ⟨cell_of_row z2 Gp 0 _ _ _ HGp2.out, cell_of_row z2 Gp 1 _ _ _ HGp2.out, cell_of_row z2 Gp 2 _ _ _ HGp2.out, cell_of_row z2 Gp 3 _ _ _ HGp2.out, cell_of_row z2 Gp 4 _ _ _ HGp2.out, cell_of_row z2 Gp 5 _ _ _ HGp2.out, cell_of_row z2 Gp 6 _ _ _ HGp2.out⟩
  obtain ⟨d0, d1, d2, d3, d4, d5, d6⟩ : z2.cell? ⟨Gd, 0, none⟩ = some (.slice kd.la C.labels.length kd.lc) ∧ z2.cell? ⟨Gd, 1, none⟩ = some (.slice kd.ta C.table.length kd.tc) ∧ z2.cell? ⟨Gd, 2, none⟩ = some (.int .i64 C.fuel) ∧ z2.cell? ⟨Gd, 3, none⟩ = some (.int .i64 C.lane) ∧ z2.cell? ⟨Gd, 4, none⟩ = some (.int .i64 C.locks) ∧ z2.cell? ⟨Gd, 5, none⟩ = some (.int .i64 C.log) ∧ z2.cell? ⟨Gd, 6, none⟩ = some (.slice kd.pa C.procs.length kd.pc) := ⟨cell_of_row z2 Gd 0 _ _ _ HGd.out, cell_of_row z2 Gd 1 _ _ _ HGd.out, cell_of_row z2 Gd 2 _ _ _ HGd.out, cell_of_row z2 Gd 3 _ _ _ HGd.out, cell_of_row z2 Gd 4 _ _ _ HGd.out, cell_of_row z2 Gd 5 _ _ _ HGd.out, cell_of_row z2 Gd 6 _ _ _ HGd.out⟩
  go_wp2_with fail
  with_reducible refine hs1.mono ?_
  rintro e z3 ⟨rfl, b3⟩
  replace b3 := hd b3
  clear hs1 c0 c1 c2 c3 c4 c5 c6 d0 d1 d2 d3 d4 d5 d6
  have HGd3 : Hid (z3.heap[Gd]? = some (.cells #[.slice kd.la C.labels.length kd.lc, .slice kd.ta C.table.length kd.tc, .int .i64 C.fuel, .int .i64 C.lane, .int .i64 C.locks, .int .i64 C.log, .slice kd.pa C.procs.length kd.pc] 27 (0, 0))) := hd (by rw [b3.out.block Gd (Array.getElem?_eq_some_iff.1 HGd.out).1]; exact HGd.out)
  have HGq3 : Hid (z3.heap[Gq]? = some (.cells #[.slice kq.la C.labels.length kq.lc, .slice kq.ta C.table.length kq.tc, .int .i64 C.fuel, .int .i64 C.lane, .int .i64 C.locks, .int .i64 C.log, .slice kq.pa C.procs.length kq.pc] 27 (0, 0))) := hd (by rw [b3.out.block Gq (Array.getElem?_eq_some_iff.1 HGq2.out).1]; exact HGq2.out)
  have HGp3 : Hid (z3.heap[Gp]? = some (.cells #[.slice kp.la C.labels.length kp.lc, .slice kp.ta C.table.length kp.tc, .int .i64 C.fuel, .int .i64 C.lane, .int .i64 C.locks, .int .i64 C.log, .slice kp.pa C.procs.length kp.pc] 27 (0, 0))) := hd (by rw [b3.out.block Gp (Array.getElem?_eq_some_iff.1 HGp2.out).1]; exact HGp2.out)
  have hs2 := HS2.out z3 b3.out
  obtain ⟨c0, c1, c2, c3, c4, c5, c6⟩ : z3.cell? ⟨Gq, 0, none⟩ = some (.slice kq.la C.labels.length kq.lc) ∧ z3.cell? ⟨Gq, 1, none⟩ = some (.slice kq.ta C.table.length kq.tc) ∧ z3.cell? ⟨Gq, 2, none⟩ = some (.int .i64 C.fuel) ∧ z3.cell? ⟨Gq, 3, none⟩ = some (.int .i64 C.lane) ∧ z3.cell? ⟨Gq, 4, none⟩ = some (.int .i64 C.locks) ∧ z3.cell? ⟨Gq, 5, none⟩ = some (.int .i64 C.log) ∧ z3.cell? ⟨Gq, 6, none⟩ = some (.slice kq.pa C.procs.length kq.pc) := ⟨cell_of_row z3 Gq 0 _ _ _ HGq3.out, cell_of_row z3 Gq 1 _ _ _ HGq3.out, cell_of_row z3 Gq 2 _ _ _ HGq3.out, cell_of_row z3 Gq 3 _ _ _ HGq3.out, cell_of_row z3 Gq 4 _ _ _ HGq3.out, cell_of_row z3 Gq 5 _ _ _ HGq3.out, cell_of_row z3 Gq 6 _ _ _ HGq3.out⟩
  obtain ⟨d0, d1, d2, d3, d4, d5, d6⟩ : z3.cell? ⟨Gd, 0, none⟩ = some (.slice kd.la C.labels.length kd.lc) ∧ z3.cell? ⟨Gd, 1, none⟩ = some (.slice kd.ta C.table.length kd.tc) ∧ z3.cell? ⟨Gd, 2, none⟩ = some (.int .i64 C.fuel) ∧ z3.cell? ⟨Gd, 3, none⟩ = some (.int .i64 C.lane) ∧ z3.cell? ⟨Gd, 4, none⟩ = some (.int .i64 C.locks) ∧ z3.cell? ⟨Gd, 5, none⟩ = some (.int .i64 C.log) ∧ z3.cell? ⟨Gd, 6, none⟩ = some (.slice kd.pa C.procs.length kd.pc) := ⟨cell_of_row z3 Gd 0 _ _ _ HGd3.out, cell_of_row z3 Gd 1 _ _ _ HGd3.out, cell_of_row z3 Gd 2 _ _ _ HGd3.out, cell_of_row z3 Gd 3 _ _ _ HGd3.out, cell_of_row z3 Gd 4 _ _ _ HGd3.out, cell_of_row z3 Gd 5 _ _ _ HGd3.out, cell_of_row z3 Gd 6 _ _ _ HGd3.out⟩
  go_wp2_with fail
  with_reducible refine hs2.mono ?_
  rintro e z4 ⟨rfl, b4⟩
  replace b4 := hd b4
  clear hs2 c0 c1 c2 c3 c4 c5 c6 d0 d1 d2 d3 d4 d5 d6
  have b24 : Hid (Below z2.heap.size z2 z4) := hd (b3.out.trans (b4.out.mono b3.out.size))
  have HP4 : Hid (CfO u3.heap.size z4 C kp) := hd (HP2.out.below b24.out)
  have HQ4 : Hid (CfO u5.heap.size z4 C kq) := hd (HQ2.out.below b24.out)
  have HD4 : Hid (CfO z0.heap.size z4 C kd) := hd (HD2.out.below b24.out)
  have HGp4 : Hid (z4.heap[Gp]? = some (.cells #[.slice kp.la C.labels.length kp.lc, .slice kp.ta C.table.length kp.tc, .int .i64 C.fuel, .int .i64 C.lane, .int .i64 C.locks, .int .i64 C.log, .slice kp.pa C.procs.length kp.pc] 27 (0, 0))) := hd (by rw [b4.out.block Gp (Array.getElem?_eq_some_iff.1 HGp3.out).1]; exact HGp3.out)
  have HGq4 : Hid (z4.heap[Gq]? = some (.cells #[.slice kq.la C.labels.length kq.lc, .slice kq.ta C.table.length kq.tc, .int .i64 C.fuel, .int .i64 C.lane, .int .i64 C.locks, .int .i64 C.log, .slice kq.pa C.procs.length kq.pc] 27 (0, 0))) := hd (by rw [b4.out.block Gq (Array.getElem?_eq_some_iff.1 HGq3.out).1]; exact HGq3.out)
  have HGd4 : Hid (z4.heap[Gd]? = some (.cells #[.slice kd.la C.labels.length kd.lc, .slice kd.ta C.table.length kd.tc, .int .i64 C.fuel, .int .i64 C.lane, .int .i64 C.locks, .int .i64 C.log, .slice kd.pa C.procs.length kd.pc] 27 (0, 0))) := hd (by rw [b4.out.block Gd (Array.getElem?_eq_some_iff.1 HGd3.out).1]; exact HGd3.out)
  have Bz4 : Hid (Below w0.heap.size w0 z4) := hd (Bz0.out.trans ((b2.out.trans (b24.out.mono b2.out.size)).mono Bz0.out.size))
  have hz04 : Hid (z0.heap.size ≤ z4.heap.size) := hd (Nat.le_trans b2.out.size b24.out.size)
  clear HP2 HQ2 HD2 HGp2 HGq2 HGd HGp3 HGq3 HGd3 HS2 b2 b3 b4 b24
  have hnSp : Hid (¬ blks C kp Gp) := hd (fun h => by have := (hSp.out Gp h).2; omega)
  have hnSq : Hid (¬ blks C kq Gq) := hd (fun h => by have := (hSq.out Gq h).2; omega)
  have hwk : Calls Tryd.prog 22 #[.agg #[.slice kp.la C.labels.length kp.lc, .slice kp.ta C.table.length kp.tc, .int .i64 C.fuel, .int .i64 C.lane, .int .i64 C.locks, .int .i64 C.log, .slice kp.pa C.procs.length kp.pc], .int .i64 55] z4 (WreckOut z4 C kp 55) := wreck_any C kp 55 _ z4 HP4.out (by decide) HFC.out
  unfold WreckOut at hwk
  obtain ⟨c0, c1, c2, c3, c4, c5, c6⟩ : z4.cell? ⟨Gp, 0, none⟩ = some (.slice kp.la C.labels.length kp.lc) ∧ z4.cell? ⟨Gp, 1, none⟩ = some (.slice kp.ta C.table.length kp.tc) ∧ z4.cell? ⟨Gp, 2, none⟩ = some (.int .i64 C.fuel) ∧ z4.cell? ⟨Gp, 3, none⟩ = some (.int .i64 C.lane) ∧ z4.cell? ⟨Gp, 4, none⟩ = some (.int .i64 C.locks) ∧ z4.cell? ⟨Gp, 5, none⟩ = some (.int .i64 C.log) ∧ z4.cell? ⟨Gp, 6, none⟩ = some (.slice kp.pa C.procs.length kp.pc) := ⟨cell_of_row z4 Gp 0 _ _ _ HGp4.out, cell_of_row z4 Gp 1 _ _ _ HGp4.out, cell_of_row z4 Gp 2 _ _ _ HGp4.out, cell_of_row z4 Gp 3 _ _ _ HGp4.out, cell_of_row z4 Gp 4 _ _ _ HGp4.out, cell_of_row z4 Gp 5 _ _ _ HGp4.out, cell_of_row z4 Gp 6 _ _ _ HGp4.out⟩
  go_wp2_with fail
  with_reducible refine hwk.mono ?_
  rintro e z5 ⟨dp, hp, rfl, hwop, hmkp, hlp1, hlp2, hlp3, hlp4⟩
  replace hwop := hd hwop
  replace hmkp := hd hmkp
  replace hlp4 := hd hlp4
  replace hlp1 := hd hlp1
  replace hlp2 := hd hlp2
  replace hlp3 := hd hlp3
  unfold cfV cfA
  clear hwk c0 c1 c2 c3 c4 c5 c6
  have HBp : Hid (z5.heap[Gp]? = some (.cells #[.slice kp.la C.labels.length kp.lc, .slice kp.ta C.table.length kp.tc, .int .i64 C.fuel, .int .i64 C.lane, .int .i64 C.locks, .int .i64 C.log, .slice kp.pa C.procs.length kp.pc] 27 (0, 0))) := hd ((hwop.out.mod.block Gp (Array.getElem?_eq_some_iff.1 HGp4.out).1 (hnSp.out)).trans HGp4.out)
  have a0 := cell_of_row z5 Gp 0 _ _ _ HBp.out
  have a1 := cell_of_row z5 Gp 1 _ _ _ HBp.out
  have a2 := cell_of_row z5 Gp 2 _ _ _ HBp.out
  have a3 := cell_of_row z5 Gp 3 _ _ _ HBp.out
  have a4 := cell_of_row z5 Gp 4 _ _ _ HBp.out
  have a5 := cell_of_row z5 Gp 5 _ _ _ HBp.out
  have a6 := cell_of_row z5 Gp 6 _ _ _ HBp.out
  simp at a0 a1 a2 a3 a4 a5 a6
  have fz : ∀ i, z5.frozen? ⟨Gp, i, none⟩ = false := fun i => by simp [World.frozen?, HBp.out]
  go_upto_region 42 with fail
  obtain ⟨e2, e3⟩ := put7_out HBp.out (.slice hp.la dp.labels.length hp.lc) (.slice hp.ta dp.table.length hp.tc) (.int .i64 dp.fuel) (.int .i64 dp.lane) (.int .i64 dp.locks) (.int .i64 dp.log) (.slice hp.pa dp.procs.length hp.pc)
  unfold put7 at e2 e3
  generalize ((((((z5.setCell ⟨Gp, 0, none⟩ (.slice hp.la dp.labels.length hp.lc)).setCell ⟨Gp, 1, none⟩ (.slice hp.ta dp.table.length hp.tc)).setCell ⟨Gp, 2, none⟩ (.int .i64 dp.fuel)).setCell ⟨Gp, 3, none⟩ (.int .i64 dp.lane)).setCell ⟨Gp, 4, none⟩ (.int .i64 dp.locks)).setCell ⟨Gp, 5, none⟩ (.int .i64 dp.log)).setCell ⟨Gp, 6, none⟩ (.slice hp.pa dp.procs.length hp.pc) = z6 at e2 e3 ⊢
  replace e2 := hd e2
  replace e3 := hd e3
  clear a0 a1 a2 a3 a4 a5 a6 fz
  have HQ6 : Hid (CfO u5.heap.size z6 C kq) := hd ⟨(HQ4.out.own.mod hwop.out.mod (fun d hd k hk hs => by have h1 := HQ4.out.own.new d hd k hk; have h2 := (hSp.out k hs).2; have h3 := hsz.out; omega)).mod e3.out (fun d hd k hk e => by have h1 := HQ4.out.own.new d hd k hk; have h3 := hsz.out; omega), HQ4.out.ps⟩
  have HD6 : Hid (CfO z0.heap.size z6 C kd) := hd ⟨(HD4.out.own.mod hwop.out.mod (fun d hd k hk hs => by have h1 := HD4.out.own.new d hd k hk; have h2 := (hSp.out k hs).2; have h3 := hsz.out; omega)).mod e3.out (fun d hd k hk e => by have h1 := HD4.out.own.new d hd k hk; have h3 := hsz.out; omega), HD4.out.ps⟩
  have HGq6 : Hid (z6.heap[Gq]? = some (.cells #[.slice kq.la C.labels.length kq.lc, .slice kq.ta C.table.length kq.tc, .int .i64 C.fuel, .int .i64 C.lane, .int .i64 C.locks, .int .i64 C.log, .slice kq.pa C.procs.length kq.pc] 27 (0, 0))) := hd (by
    have hs := hsz.out
    have h1 := hwop.out.mod.size
    have h2 := (Array.getElem?_eq_some_iff.1 HGq4.out).1
    rw [e3.out.block Gq (by omega) (by omega), hwop.out.mod.block Gq h2 (fun h => by have := (hSp.out Gq h).2; omega)]
    exact HGq4.out)
  have HGd6 : Hid (z6.heap[Gd]? = some (.cells #[.slice kd.la C.labels.length kd.lc, .slice kd.ta C.table.length kd.tc, .int .i64 C.fuel, .int .i64 C.lane, .int .i64 C.locks, .int .i64 C.log, .slice kd.pa C.procs.length kd.pc] 27 (0, 0))) := hd (by
    have hs := hsz.out
    have h0 := hGdz.out
    have h1 := hwop.out.mod.size
    have h2 := (Array.getElem?_eq_some_iff.1 HGd4.out).1
    rw [e3.out.block Gd (by omega) (by omega), hwop.out.mod.block Gd h2 (fun h => by have := (hSp.out Gd h).2; omega)]
    exact HGd4.out)
  have HPr6 : Hid (∀ x ∈ cfD dp hp, x.ok z6 ∧ ∀ k, blk x.a = some k → (blks C kp k ∨ z4.heap.size ≤ k)) := hd (fun x hx => ⟨Row.mod (hwop.out.ok x hx) e3.out (fun k hk e => by
    rcases hwop.out.frm x hx k hk with h1 | h1
    · have := (hSp.out k h1).2
      omega
    · have h3 := hsz.out
      have h4 := hz04.out
      omega), hwop.out.frm x hx⟩)
  have hpps : Hid (psOf hp.ms = dp.procs) := hd hwop.out.rd.ps
  have HGp6 : Hid (z6.heap[Gp]? = some (.cells #[.slice hp.la dp.labels.length hp.lc, .slice hp.ta dp.table.length hp.tc, .int .i64 dp.fuel, .int .i64 dp.lane, .int .i64 dp.locks, .int .i64 dp.log, .slice hp.pa dp.procs.length hp.pc] 27 (0, 0))) := e2
  have Bz6 : Hid (Below w0.heap.size w0 z6) := hd ((Bz4.out.trans (hwop.out.mod.below (B := w0.heap.size) Bz4.out.size (fun k _ hk => by have := (hSp.out k hk).1; have := hw03.out; omega))).trans (e3.out.below (B := w0.heap.size) (Nat.le_trans Bz4.out.size hwop.out.mod.size) (fun k _ hk => by have := hsz.out; have := hw03.out; omega)))
  have hz46 : Hid (z4.heap.size ≤ z6.heap.size) := hd (Nat.le_trans hwop.out.mod.size e3.out.size)
  clear e2 e3 hwop HBp HP4 HQ4 HD4 HGp4 HGq4 HGd4 Bz4
  have hs1 : Calls Tryd.prog 18 #[.agg #[.slice kq.la C.labels.length kq.lc, .slice kq.ta C.table.length kq.tc, .int .i64 C.fuel, .int .i64 C.lane, .int .i64 C.locks, .int .i64 C.log, .slice kq.pa C.procs.length kq.pc], .agg #[.slice kd.la C.labels.length kd.lc, .slice kd.ta C.table.length kd.tc, .int .i64 C.fuel, .int .i64 C.lane, .int .i64 C.locks, .int .i64 C.log, .slice kd.pa C.procs.length kd.pc]] z6 fun e w' => e = .returned (.bool true) ∧ Below z6.heap.size z6 w' := dsame_yes C kq kd z6 HQ6.out.rd HD6.out.rd hln.out hcd2.out
  obtain ⟨c0, c1, c2, c3, c4, c5, c6⟩ : z6.cell? ⟨Gq, 0, none⟩ = some (.slice kq.la C.labels.length kq.lc) ∧ z6.cell? ⟨Gq, 1, none⟩ = some (.slice kq.ta C.table.length kq.tc) ∧ z6.cell? ⟨Gq, 2, none⟩ = some (.int .i64 C.fuel) ∧ z6.cell? ⟨Gq, 3, none⟩ = some (.int .i64 C.lane) ∧ z6.cell? ⟨Gq, 4, none⟩ = some (.int .i64 C.locks) ∧ z6.cell? ⟨Gq, 5, none⟩ = some (.int .i64 C.log) ∧ z6.cell? ⟨Gq, 6, none⟩ = some (.slice kq.pa C.procs.length kq.pc) := ⟨cell_of_row z6 Gq 0 _ _ _ HGq6.out, cell_of_row z6 Gq 1 _ _ _ HGq6.out, cell_of_row z6 Gq 2 _ _ _ HGq6.out, cell_of_row z6 Gq 3 _ _ _ HGq6.out, cell_of_row z6 Gq 4 _ _ _ HGq6.out, cell_of_row z6 Gq 5 _ _ _ HGq6.out, cell_of_row z6 Gq 6 _ _ _ HGq6.out⟩
  obtain ⟨d0, d1, d2, d3, d4, d5, d6⟩ : z6.cell? ⟨Gd, 0, none⟩ = some (.slice kd.la C.labels.length kd.lc) ∧ z6.cell? ⟨Gd, 1, none⟩ = some (.slice kd.ta C.table.length kd.tc) ∧ z6.cell? ⟨Gd, 2, none⟩ = some (.int .i64 C.fuel) ∧ z6.cell? ⟨Gd, 3, none⟩ = some (.int .i64 C.lane) ∧ z6.cell? ⟨Gd, 4, none⟩ = some (.int .i64 C.locks) ∧ z6.cell? ⟨Gd, 5, none⟩ = some (.int .i64 C.log) ∧ z6.cell? ⟨Gd, 6, none⟩ = some (.slice kd.pa C.procs.length kd.pc) := ⟨cell_of_row z6 Gd 0 _ _ _ HGd6.out, cell_of_row z6 Gd 1 _ _ _ HGd6.out, cell_of_row z6 Gd 2 _ _ _ HGd6.out, cell_of_row z6 Gd 3 _ _ _ HGd6.out, cell_of_row z6 Gd 4 _ _ _ HGd6.out, cell_of_row z6 Gd 5 _ _ _ HGd6.out, cell_of_row z6 Gd 6 _ _ _ HGd6.out⟩
  go_upto_region 44 with (go_at_call 18; refine hs1.mono ?_; rintro e z7 ⟨rfl, b7⟩; replace b7 := hd b7)
  clear hs1 c0 c1 c2 c3 c4 c5 c6 d0 d1 d2 d3 d4 d5 d6 HGd6 HD6
  have HQ7 : Hid (CfO u5.heap.size z7 C kq) := hd (HQ6.out.below b7.out)
  have HGq7 : Hid (z7.heap[Gq]? = some (.cells #[.slice kq.la C.labels.length kq.lc, .slice kq.ta C.table.length kq.tc, .int .i64 C.fuel, .int .i64 C.lane, .int .i64 C.locks, .int .i64 C.log, .slice kq.pa C.procs.length kq.pc] 27 (0, 0))) := hd (by rw [b7.out.block Gq (Array.getElem?_eq_some_iff.1 HGq6.out).1]; exact HGq6.out)
  have HGp7 : Hid (z7.heap[Gp]? = some (.cells #[.slice hp.la dp.labels.length hp.lc, .slice hp.ta dp.table.length hp.tc, .int .i64 dp.fuel, .int .i64 dp.lane, .int .i64 dp.locks, .int .i64 dp.log, .slice hp.pa dp.procs.length hp.pc] 27 (0, 0))) := hd (by rw [b7.out.block Gp (Array.getElem?_eq_some_iff.1 HGp6.out).1]; exact HGp6.out)
  have Bz7 : Hid (Below w0.heap.size w0 z7) := hd (Bz6.out.trans (b7.out.mono Bz6.out.size))
  have HPr7 : Hid (∀ x ∈ cfD dp hp, x.ok z7 ∧ ∀ k, blk x.a = some k → (blks C kp k ∨ z4.heap.size ≤ k)) := hd (fun x hx => ⟨Row.below (HPr6.out x hx).1 b7.out, (HPr6.out x hx).2⟩)
  have hz47 : Hid (z4.heap.size ≤ z7.heap.size) := hd (Nat.le_trans hz46.out b7.out.size)
  clear HQ6 HGq6 HGp6 Bz6 HPr6 b7 hz46
  have hwk : Calls Tryd.prog 22 #[.agg #[.slice kq.la C.labels.length kq.lc, .slice kq.ta C.table.length kq.tc, .int .i64 C.fuel, .int .i64 C.lane, .int .i64 C.locks, .int .i64 C.log, .slice kq.pa C.procs.length kq.pc], .int .i64 66] z7 (WreckOut z7 C kq 66) := wreck_any C kq 66 _ z7 HQ7.out (by decide) HFC.out
  unfold WreckOut at hwk
  obtain ⟨c0, c1, c2, c3, c4, c5, c6⟩ : z7.cell? ⟨Gq, 0, none⟩ = some (.slice kq.la C.labels.length kq.lc) ∧ z7.cell? ⟨Gq, 1, none⟩ = some (.slice kq.ta C.table.length kq.tc) ∧ z7.cell? ⟨Gq, 2, none⟩ = some (.int .i64 C.fuel) ∧ z7.cell? ⟨Gq, 3, none⟩ = some (.int .i64 C.lane) ∧ z7.cell? ⟨Gq, 4, none⟩ = some (.int .i64 C.locks) ∧ z7.cell? ⟨Gq, 5, none⟩ = some (.int .i64 C.log) ∧ z7.cell? ⟨Gq, 6, none⟩ = some (.slice kq.pa C.procs.length kq.pc) := ⟨cell_of_row z7 Gq 0 _ _ _ HGq7.out, cell_of_row z7 Gq 1 _ _ _ HGq7.out, cell_of_row z7 Gq 2 _ _ _ HGq7.out, cell_of_row z7 Gq 3 _ _ _ HGq7.out, cell_of_row z7 Gq 4 _ _ _ HGq7.out, cell_of_row z7 Gq 5 _ _ _ HGq7.out, cell_of_row z7 Gq 6 _ _ _ HGq7.out⟩
  go_wp2_with fail
  with_reducible refine hwk.mono ?_
  rintro e z8 ⟨dq, hq, rfl, hwoq, hmkq, hlq1, hlq2, hlq3, hlq4⟩
  replace hwoq := hd hwoq
  replace hmkq := hd hmkq
  replace hlq4 := hd hlq4
  replace hlq1 := hd hlq1
  replace hlq2 := hd hlq2
  replace hlq3 := hd hlq3
  unfold cfV cfA
  clear hwk c0 c1 c2 c3 c4 c5 c6
  have HBq : Hid (z8.heap[Gq]? = some (.cells #[.slice kq.la C.labels.length kq.lc, .slice kq.ta C.table.length kq.tc, .int .i64 C.fuel, .int .i64 C.lane, .int .i64 C.locks, .int .i64 C.log, .slice kq.pa C.procs.length kq.pc] 27 (0, 0))) := hd ((hwoq.out.mod.block Gq (Array.getElem?_eq_some_iff.1 HGq7.out).1 (hnSq.out)).trans HGq7.out)
  have a0 := cell_of_row z8 Gq 0 _ _ _ HBq.out
  have a1 := cell_of_row z8 Gq 1 _ _ _ HBq.out
  have a2 := cell_of_row z8 Gq 2 _ _ _ HBq.out
  have a3 := cell_of_row z8 Gq 3 _ _ _ HBq.out
  have a4 := cell_of_row z8 Gq 4 _ _ _ HBq.out
  have a5 := cell_of_row z8 Gq 5 _ _ _ HBq.out
  have a6 := cell_of_row z8 Gq 6 _ _ _ HBq.out
  simp at a0 a1 a2 a3 a4 a5 a6
  have fz : ∀ i, z8.frozen? ⟨Gq, i, none⟩ = false := fun i => by simp [World.frozen?, HBq.out]
  go_upto_region 45 with fail
  obtain ⟨e2, e3⟩ := put7_out HBq.out (.slice hq.la dq.labels.length hq.lc) (.slice hq.ta dq.table.length hq.tc) (.int .i64 dq.fuel) (.int .i64 dq.lane) (.int .i64 dq.locks) (.int .i64 dq.log) (.slice hq.pa dq.procs.length hq.pc)
  unfold put7 at e2 e3
  generalize ((((((z8.setCell ⟨Gq, 0, none⟩ (.slice hq.la dq.labels.length hq.lc)).setCell ⟨Gq, 1, none⟩ (.slice hq.ta dq.table.length hq.tc)).setCell ⟨Gq, 2, none⟩ (.int .i64 dq.fuel)).setCell ⟨Gq, 3, none⟩ (.int .i64 dq.lane)).setCell ⟨Gq, 4, none⟩ (.int .i64 dq.locks)).setCell ⟨Gq, 5, none⟩ (.int .i64 dq.log)).setCell ⟨Gq, 6, none⟩ (.slice hq.pa dq.procs.length hq.pc) = z9 at e2 e3 ⊢
  replace e2 := hd e2
  replace e3 := hd e3
  clear a0 a1 a2 a3 a4 a5 a6 fz
  have HPr9 : Hid (∀ x ∈ cfD dp hp, x.ok z9) := hd (fun x hx => Row.mod (Row.mod (HPr7.out x hx).1 hwoq.out.mod (fun k hk hs => by
    have h0 := hsz.out
    have h9 := hz04.out
    have h5 := hSq.out k hs
    rcases (HPr7.out x hx).2 k hk with h1 | h1
    · have := (hSp.out k h1).2
      omega
    · omega)) e3.out (fun k hk e => by
    have h0 := hsz.out
    have h9 := hz04.out
    rcases (HPr7.out x hx).2 k hk with h1 | h1
    · have := (hSp.out k h1).2
      omega
    · omega))
  have HQr9 : Hid (∀ x ∈ cfD dq hq, x.ok z9) := hd (fun x hx => Row.mod (hwoq.out.ok x hx) e3.out (fun k hk e => by
    rcases hwoq.out.frm x hx k hk with h1 | h1
    · have := (hSq.out k h1).2
      omega
    · have h3 := hsz.out
      have h4 := hz04.out
      have h5 := hz47.out
      omega))
  have hqps : Hid (psOf hq.ms = dq.procs) := hd hwoq.out.rd.ps
  have HGp9 : Hid (z9.heap[Gp]? = some (.cells #[.slice hp.la dp.labels.length hp.lc, .slice hp.ta dp.table.length hp.tc, .int .i64 dp.fuel, .int .i64 dp.lane, .int .i64 dp.locks, .int .i64 dp.log, .slice hp.pa dp.procs.length hp.pc] 27 (0, 0))) := hd (by
    have hs := hsz.out
    have h1 := hwoq.out.mod.size
    have h2 := (Array.getElem?_eq_some_iff.1 HGp7.out).1
    rw [e3.out.block Gp (by omega) (by omega), hwoq.out.mod.block Gp h2 (fun h => by have := (hSq.out Gp h).1; omega)]
    exact HGp7.out)
  have Bz9 : Hid (Below w0.heap.size w0 z9) := hd ((Bz7.out.trans (hwoq.out.mod.below (B := w0.heap.size) Bz7.out.size (fun k _ hk => by have := (hSq.out k hk).1; have := hw03.out; have := hsz.out; omega))).trans (e3.out.below (B := w0.heap.size) (Nat.le_trans Bz7.out.size hwoq.out.mod.size) (fun k _ hk => by have := hsz.out; have := hw03.out; omega)))
  have hFC2 := HFC.out
  have hmk1 : Calls Tryd.prog 23 #[.agg #[.slice hp.la dp.labels.length hp.lc, .slice hp.ta dp.table.length hp.tc, .int .i64 dp.fuel, .int .i64 dp.lane, .int .i64 dp.locks, .int .i64 dp.log, .slice hp.pa dp.procs.length hp.pc], .int .i64 55] z9 fun e w' => e = .returned (.bool true) ∧ Below z9.heap.size z9 w' := marked_any dp hp 55 z9 (cfR_ok HPr9.out hpps.out) (by decide) hmkp.out (by rw [hlp1.out, hlp2.out, hlp3.out]; have h1 := hFC2.1; have h2 := hFC2.2.1; have h3 := hFC2.2.2.1; omega) (fun p hp' => by have := hlp4.out p hp'; omega)
  have HM2 : Hid (∀ W, Below z9.heap.size z9 W → Calls Tryd.prog 23 #[.agg #[.slice hq.la dq.labels.length hq.lc, .slice hq.ta dq.table.length hq.tc, .int .i64 dq.fuel, .int .i64 dq.lane, .int .i64 dq.locks, .int .i64 dq.log, .slice hq.pa dq.procs.length hq.pc], .int .i64 66] W fun e w' => e = .returned (.bool true) ∧ Below W.heap.size W w') := hd (fun W h => marked_any dq hq 66 W ((cfR_ok HQr9.out hqps.out).below h) (by decide) hmkq.out (by rw [hlq1.out, hlq2.out, hlq3.out]; have h1 := hFC2.1; have h2 := hFC2.2.1; have h3 := hFC2.2.2.1; omega) (fun p hp' => by have := hlq4.out p hp'; omega))
  have hsm : Hid (∀ W, Calls Tryd.prog 24 #[.slice none 0 0, .slice none 0 0] W fun e w' => e = .returned (.bool true) ∧ ∃ n, w' = W.drewN n) := hd (fun W => same_yes none none 0 0 [] W (by decide) (fun i hi => by simp at hi) (fun i hi => by simp at hi))
  obtain ⟨c0, c1, c2, c3, c4, c5, c6⟩ : z9.cell? ⟨Gp, 0, none⟩ = some (.slice hp.la dp.labels.length hp.lc) ∧ z9.cell? ⟨Gp, 1, none⟩ = some (.slice hp.ta dp.table.length hp.tc) ∧ z9.cell? ⟨Gp, 2, none⟩ = some (.int .i64 dp.fuel) ∧ z9.cell? ⟨Gp, 3, none⟩ = some (.int .i64 dp.lane) ∧ z9.cell? ⟨Gp, 4, none⟩ = some (.int .i64 dp.locks) ∧ z9.cell? ⟨Gp, 5, none⟩ = some (.int .i64 dp.log) ∧ z9.cell? ⟨Gp, 6, none⟩ = some (.slice hp.pa dp.procs.length hp.pc) := ⟨cell_of_row z9 Gp 0 _ _ _ HGp9.out, cell_of_row z9 Gp 1 _ _ _ HGp9.out, cell_of_row z9 Gp 2 _ _ _ HGp9.out, cell_of_row z9 Gp 3 _ _ _ HGp9.out, cell_of_row z9 Gp 4 _ _ _ HGp9.out, cell_of_row z9 Gp 5 _ _ _ HGp9.out, cell_of_row z9 Gp 6 _ _ _ HGp9.out⟩
  go_wp2_with fail
  with_reducible refine hmk1.mono ?_
  rintro e y1 ⟨rfl, c1y⟩
  replace c1y := hd c1y
  clear hmk1 c0 c1 c2 c3 c4 c5 c6
  have HGq9 : Hid (y1.heap[Gq]? = some (.cells #[.slice hq.la dq.labels.length hq.lc, .slice hq.ta dq.table.length hq.tc, .int .i64 dq.fuel, .int .i64 dq.lane, .int .i64 dq.locks, .int .i64 dq.log, .slice hq.pa dq.procs.length hq.pc] 27 (0, 0))) := hd (by rw [c1y.out.block Gq (Array.getElem?_eq_some_iff.1 e2.out).1]; exact e2.out)
  obtain ⟨c0, c1, c2, c3, c4, c5, c6⟩ : y1.cell? ⟨Gq, 0, none⟩ = some (.slice hq.la dq.labels.length hq.lc) ∧ y1.cell? ⟨Gq, 1, none⟩ = some (.slice hq.ta dq.table.length hq.tc) ∧ y1.cell? ⟨Gq, 2, none⟩ = some (.int .i64 dq.fuel) ∧ y1.cell? ⟨Gq, 3, none⟩ = some (.int .i64 dq.lane) ∧ y1.cell? ⟨Gq, 4, none⟩ = some (.int .i64 dq.locks) ∧ y1.cell? ⟨Gq, 5, none⟩ = some (.int .i64 dq.log) ∧ y1.cell? ⟨Gq, 6, none⟩ = some (.slice hq.pa dq.procs.length hq.pc) := ⟨cell_of_row y1 Gq 0 _ _ _ HGq9.out, cell_of_row y1 Gq 1 _ _ _ HGq9.out, cell_of_row y1 Gq 2 _ _ _ HGq9.out, cell_of_row y1 Gq 3 _ _ _ HGq9.out, cell_of_row y1 Gq 4 _ _ _ HGq9.out, cell_of_row y1 Gq 5 _ _ _ HGq9.out, cell_of_row y1 Gq 6 _ _ _ HGq9.out⟩
  have hmk2 := HM2.out y1 c1y.out
  go_wp2_with fail
  with_reducible refine hmk2.mono ?_
  rintro e y2 ⟨rfl, c2y⟩
  replace c2y := hd c2y
  clear hmk2 c0 c1 c2 c3 c4 c5 c6
  have hsm2 := hsm.out y2
  go_wp2_with fail
  with_reducible refine hsm2.mono ?_
  rintro e y3 ⟨rfl, c3y⟩
  replace c3y := hd c3y
  clear hsm2
  have By : Hid (Below z9.heap.size z9 y3) := hd (c1y.out.trans ((c2y.out.trans (by obtain ⟨n, e⟩ := c3y.out; rw [e]; exact (below_draw y2 n).mono c2y.out.size)).mono c1y.out.size))
  go_wp2_with fail
  go_ret
  exact ⟨rfl, B0.out.trans ((Bz9.out.trans (By.out.mono Bz9.out.size)).mono B0.out.size)⟩
end Go.Proofs.YtmjokinagbpihaaDoor
