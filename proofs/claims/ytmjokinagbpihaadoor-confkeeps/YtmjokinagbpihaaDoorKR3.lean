/- ConfCut: bytes that are cut, bytes with something behind them, another program. -/
import Derived.Test.YtmjokinagbpihaaDoorKW3
namespace Go.Proofs.YtmjokinagbpihaaDoor
open Go.RowKit

/-- A program that came in. -/
theorem view_prog {H : Type} {enc : TypeId × Value → H} {W : World} {a : Option Addr} {len cap : Nat} {d : Go.DataW H} {p : List MemPlace} (h : Go.DataW.Trod enc Tryd.prog W 0 (fun _ => true) true 39 (.slice a len cap) d p) :
    ∃ l : List Ins, l.length = len ∧ len ≤ cap ∧ cap ≤ maxLen ∧ (a = none → cap = 0) ∧ Rd W a (pCells l) ∧ ∀ x ∈ l, FitI x := by
  obtain ⟨fuel, hf⟩ := h
  have hf : Go.DataW.trod enc Tryd.prog W 0 (fun _ => true) true fuel 39 [.slice a len cap] = some (d, p) := hf
  obtain ⟨a0, l0, k0, e0, h1, h2, h3, hr0, hf0⟩ := raw_prog _ _ _ hf
  simp at e0
  obtain ⟨rfl, rfl, rfl⟩ := e0
  exact ⟨l0, rfl, h1, h2, h3, hr0, hf0⟩
theorem decF_cut (c : Cfg) (g : Good c) (h : (mayC c).1 = 0) (k : Nat) (hk : k < (encC c).length) : decF ((encC c).take k) = (noC, 5, (k : Int)) := by
  unfold decF
  rw [dec_cut c g h k hk]
theorem decF_rest (c : Cfg) (g : Good c) (h : (mayC c).1 = 0) (t : List Nat) (h0 : 0 < t.length) (ht : t.length ≤ 100) : decF (encC c ++ t) = (noC, 6, ((encC c).length : Int)) := by
  unfold decF
  rw [dec_rest c g h t h0 ht]
theorem byte_take {bs : List Nat} (h : Byte bs) (n : Nat) : Byte (bs.take n) := fun i => by
  rw [List.getD_eq_getElem?_getD, List.getElem?_take]
  split
  · rw [← List.getD_eq_getElem?_getD]; exact h i
  · decide
theorem byte_app {xs bs : List Nat} (h : Byte xs) (k : Byte bs) : Byte (xs ++ bs) := fun i => by
  rw [List.getD_eq_getElem?_getD]
  by_cases hi : i < xs.length
  · rw [List.getElem?_append_left hi, ← List.getD_eq_getElem?_getD]; exact h i
  · rw [List.getElem?_append_right (by omega), ← List.getD_eq_getElem?_getD]; exact k _
theorem rd_take {W : World} {a : Option Addr} {bs : List Nat} (h : Rd W a (bCells bs)) (n : Nat) : Rd W a (bCells (bs.take n)) := fun j u hj => h j u (by
  unfold bCells at hj ⊢
  rw [List.map_take, List.getElem?_take] at hj
  split at hj
  · exact hj
  · cases hj)

set_option maxRecDepth 100000 in
set_option maxHeartbeats 8000000 in
theorem confCut_any (c : Cfg) (g : Loc) (cut : Int) (am : Option Addr) (cm : Nat) (ys : List Nat) (al : Option Addr) (cl : Nat) (l : List Ins) (w : World) (hR : CfR w c g) (hI : CfI c) (hrd : Rd w am (bCells ys)) (hby : Byte ys) (hcap : ys.length ≤ cm) (hnone : am = none → cm = 0) (hpr : Rd w al (pCells l)) (hF : Fld w) (hL : Lim w) :
    Calls Tryd.prog 7 #[cfV c g, .int .i64 cut, .slice am ys.length cm, .slice al l.length cl] w fun e w' => e = .returned (.bool true) ∧ Below w.heap.size w w' := by
  unfold cfV cfA
  have HGood : Hid (Good c) := hd ⟨hI.lab, fun p hp x hx => ((hI.prs p hp).2 x hx).2.2.2.2⟩
  have HBy := hd hby
  replace hnone := hd hnone
  obtain ⟨w0, hw0⟩ : ∃ W, Hid (w.alloc (.cells #[.slice g.la c.labels.length g.lc, .slice g.ta c.table.length g.tc, .int .i64 c.fuel, .int .i64 c.lane, .int .i64 c.locks, .int .i64 c.log, .slice g.pa c.procs.length g.pc] 27) = W) := ⟨_, rfl⟩
  have x0 : Below w.heap.size w w0 := by rw [← hw0.out]; exact below_al w _
  have B0 : Hid (Below w.heap.size w w0) := hd x0
  have HG : Hid (w0.heap[w.heap.size]? = some (.cells #[.slice g.la c.labels.length g.lc, .slice g.ta c.table.length g.tc, .int .i64 c.fuel, .int .i64 c.lane, .int .i64 c.locks, .int .i64 c.log, .slice g.pa c.procs.length g.pc] 27 (0, 0))) := hd (by rw [← hw0.out]; exact heap_alloc_new w _)
  have HRk : Hid (∀ W, Below w0.heap.size w0 W → CfR W c g) := hd (fun W hW => (hR.below x0).below hW)
  have HRd : Hid (∀ W, Below w0.heap.size w0 W → Rd W am (bCells ys)) := hd (fun W hW => (hrd.below x0).below hW)
  have HPr : Hid (∀ W, Below w0.heap.size w0 W → Rd W al (pCells l)) := hd (fun W hW => (hpr.below x0).below hW)
  have HPb : Hid (∀ k, blk al = some k → l ≠ [] → k < w0.heap.size) := hd (fun k hk hx => by
    obtain ⟨x, r, rfl⟩ := List.exists_cons_of_ne_nil hx
    obtain ⟨b, o, rfl, hc⟩ := hpr.below x0 0 (.int .i64 x.op) (by simp [pCells, insCells])
    cases hk
    exact World.block_lt_of_cell? w0 _ hc)
  have HFk : Hid (∀ W, Below w0.heap.size w0 W → Fld W) := hd (fun W hW => (hF.kept x0).kept hW)
  have HLk : Hid (∀ W, Below w0.heap.size w0 W → Lim W) := hd (fun W hW => (hL.kept x0).kept hW)
  obtain ⟨G, hG⟩ : ∃ G, Hid (w.heap.size = G) := ⟨_, rfl⟩
  rw [hG.out] at HG
  have K0 : Hid (∀ W, Below w0.heap.size w0 W → W.cell? ⟨G, 0, none⟩ = some (.slice g.la c.labels.length g.lc) ∧ W.cell? ⟨G, 1, none⟩ = some (.slice g.ta c.table.length g.tc) ∧ W.cell? ⟨G, 2, none⟩ = some (.int .i64 c.fuel) ∧ W.cell? ⟨G, 3, none⟩ = some (.int .i64 c.lane) ∧ W.cell? ⟨G, 4, none⟩ = some (.int .i64 c.locks) ∧ W.cell? ⟨G, 5, none⟩ = some (.int .i64 c.log) ∧ W.cell? ⟨G, 6, none⟩ = some (.slice g.pa c.procs.length g.pc)) := hd (fun W hW => by
    have h : W.heap[G]? = _ := (hW.block G (Array.getElem?_eq_some_iff.1 HG.out).1).trans HG.out
    exact ⟨cell_of_row W G 0 _ _ _ h, cell_of_row W G 1 _ _ _ h, cell_of_row W G 2 _ _ _ h, cell_of_row W G 3 _ _ _ h, cell_of_row W G 4 _ _ _ h, cell_of_row W G 5 _ _ _ h, cell_of_row W G 6 _ _ _ h⟩)
  have h1 := awake_any w0 (HFk.out w0 (below_same w0)) (HLk.out w0 (below_same w0))
  have HGl : Hid (G < w0.heap.size) := hd (Array.getElem?_eq_some_iff.1 HG.out).1
  clear hR hI hrd hby hF hL x0 HG hpr
  go_enter Tryd.func7, Tryd.ntmps7
  go_upto_region 1 with fail
  rw [hw0.out, hG.out]
  clear hw0 hG
  go_upto_region 3 with (go_at_call 9; refine h1.mono ?_; rintro e w1 ⟨rfl, b1⟩; replace b1 := hd b1)
  clear h1
  by_cases hm : (mayC c).1 = 0
  · have henc : Calls Tryd.prog 12 #[.agg #[.slice g.la c.labels.length g.lc, .slice g.ta c.table.length g.tc, .int .i64 c.fuel, .int .i64 c.lane, .int .i64 c.locks, .int .i64 c.log, .slice g.pa c.procs.length g.pc]] w1 (EncOut w1 c) := cenc_ok c g w1 (HRk.out w1 b1.out) (HFk.out w1 b1.out) (HLk.out w1 b1.out) hm
    unfold EncOut at henc
    have hl1 : (encC c).length ≤ 98542 := enc_len c hm
    have hl0 : 0 < (encC c).length := by simp [encC, hdB]
    obtain ⟨hml, hmc, hp1⟩ : (c.labels.length ≤ 1048576 ∧ c.table.length ≤ 1048576 ∧ c.procs.length ≤ 1048576) ∧ (∀ p ∈ c.procs, p.code.length ≤ 1048576) ∧ 1 ≤ c.procs.length := by
      obtain ⟨h0, h1, -, -, -, -, h6, h7⟩ := (mayC_iff c).1 hm
      have l1 := lab_len h0
      have l2 := tab_len h1
      have l3 := cnt_len h6
      exact ⟨by omega, fun p hp => by have := prE_len (h7 p hp); omega, by omega⟩
    have hp32 : c.procs.length ≤ 1048576 := hml.2.2
    replace hml := hd hml
    replace hmc := hd hmc
    have HCut : Hid (∀ k, k < (encC c).length → decF ((encC c).take k) = (noC, 5, (k : Int))) := hd (fun k hk => decF_cut c HGood.out hm k hk)
    have HRest : Hid (∀ t : List Nat, 0 < t.length → t.length ≤ 100 → decF (encC c ++ t) = (noC, 6, ((encC c).length : Int))) := hd (fun t h0 ht => decF_rest c HGood.out hm t h0 ht)
    have hbE : Hid (Byte (encC c)) := hd (enc_byte c)
    clear hm
    generalize encC c = xs at *
    obtain ⟨c0, c1, c2, c3, c4, c5, c6⟩ := K0.out w1 b1.out
    go_upto_region 4 with (go_at_call 12; refine henc.mono ?_; rintro e w2 ⟨ea, ec, rfl, hrow, hnew, b2⟩; replace hrow := hd hrow; replace hnew := hd hnew; replace b2 := hd b2)
    clear henc c0 c1 c2 c3 c4 c5 c6
    have Bw2 : Hid (Below w0.heap.size w0 w2) := hd (b1.out.trans (b2.out.mono b1.out.size))
    have hec := hrow.out.capLe
    obtain ⟨eb, rfl⟩ := hrow.out.head hl0
    obtain ⟨k, hk, hcase⟩ := rem_at cut hl0
    have hL0 : ((xs.length : Int) == 0) = false := by rw [beq_eq_false_iff_ne]; omega
    obtain ⟨z, hz⟩ : ∃ z, cut.tmod (xs.length : Int) = z := ⟨_, rfl⟩
    rw [hz] at hcase
    go_upto_if 36 with fail
    go_cut [11] (fun v11 wy => v11 = .int .i64 (k : Int) ∧ wy = w2)
    case first =>
      rcases hcase with ⟨h1, h2⟩ | ⟨h1, h2⟩
      · have d1 : decide (z < 0) = false := by simp; omega
        go_wp2_with fail
        go_meet
        exact ⟨by rw [h2], rfl⟩
      · have d1 : z < 0 := h1
        go_wp2_with fail
        go_meet
        exact ⟨rfl, rfl⟩
    case rest =>
    obtain ⟨rfl, hwc⟩ := hcut
    obtain rfl : w2 = wc := hwc.symm
    clear hcase hz hL0
    have hdec : Calls Tryd.prog 16 #[.slice (some ⟨eb, 0, none⟩) k k] w2 fun e w' => ∃ h : Loc, e = .returned (.tuple #[.agg #[.slice h.la 0 h.lc, .slice h.ta 0 h.tc, .int .i64 0, .int .i64 0, .int .i64 0, .int .i64 0, .slice h.pa 0 h.pc], .int .i64 5, .int .i64 (k : Int)]) ∧ Below w2.heap.size w2 w' := by
      have h := cdecode_any (some ⟨eb, 0, none⟩) k (xs.take k) w2 (rd_take hrow.out.rd k) (byte_take hbE.out k) (by rw [List.length_take]; omega) (HFk.out w2 Bw2.out) (HLk.out w2 Bw2.out)
      unfold DecOut at h
      rw [HCut.out k hk, show (xs.take k).length = k by rw [List.length_take]; omega] at h
      exact h.mono fun e w' ⟨h, he, _, hb⟩ => ⟨h, he, hb⟩
    have hkI : (k : Int) ≤ (ec : Int) := by omega
    have hkL : (k : Int) < (xs.length : Int) := by omega
    go_upto_region 12 with (go_at_call 16; refine hdec.mono ?_; rintro e v1 ⟨h, rfl, b3⟩; replace b3 := hd b3)
    clear hdec hkI HCut
    obtain ⟨v2, hv2⟩ : ∃ W, Hid (v1.alloc (.cells #[.slice h.la 0 h.lc, .slice h.ta 0 h.tc, .int .i64 0, .int .i64 0, .int .i64 0, .int .i64 0, .slice h.pa 0 h.pc] 27) = W) := ⟨_, rfl⟩
    rw [hv2.out]
    have b4 : Hid (Below w2.heap.size w2 v2) := hd (b3.out.trans (by rw [← hv2.out]; exact (below_al v1 _).mono b3.out.size))
    generalize v1.heap.size = Gx
    clear hv2 b3
    have Bv2 : Hid (Below w0.heap.size w0 v2) := hd (Bw2.out.trans (b4.out.mono Bw2.out.size))
    obtain ⟨N, hN, hN1⟩ : ∃ N : Nat, min (ys.length : Int) 100 = (N : Int) ∧ (N ≤ 100 ∧ N ≤ ys.length ∧ (ys.take N).length = N) := by
      refine ⟨min ys.length 100, by omega, by omega, by omega, by rw [List.length_take]; omega⟩
    have hNc : N ≤ cm := by omega
    have hNy : N ≤ ys.length := hN1.2.1
    have hN100 : N ≤ 100 := hN1.1
    replace hN1 := hd hN1.2.2
    go_upto_region 13 with fail
    obtain ⟨i8, k81, k82, k83, k84⟩ := info_parts info_u8
    have hrw : Row v2 5 1 (some ⟨eb, 0, none⟩) xs.length xs.length (bCells xs) := by
      have h1 := (hrow.out.below b4.out).cut xs.length xs.length (Nat.le_refl _) (Nat.le_refl _) hec (fun e => by cases e)
      rw [List.take_of_length_le (by rw [bCells_len]; omega)] at h1
      exact h1
    have hsr : Src Tryd.prog 1 31 (.slice am N cm) N (bCells (ys.take N)) v2 := (rd_take (HRd.out v2 Bv2.out) N).src Tryd.underlying31 (by rw [bCells_len, hN1.out]; omega) (by omega) (bCells_one _)
    obtain ⟨a3, c3, v3, hap, hr3, hm3, hn3, -⟩ := run_append_row (P := Tryd.prog) v2 31 5 i8 _ 1 1 Tryd.underlying31 k81 k82 k83 k84 rfl hrw _ N _ hsr (by unfold maxLen; omega) (by omega)
    rw [bCells_app] at hr3
    replace hap := hd hap
    have Bv3 : Hid (Below w0.heap.size w0 v3) := hd (Bv2.out.trans (hm3.below (B := w0.heap.size) Bv2.out.size (fun k _ hk => Nat.le_trans b1.out.size (hnew.out k hk))))
    have hdec : Calls Tryd.prog 16 #[.slice a3 (xs.length + N) c3] v3 fun e w' => ∃ h : Loc, e = .returned (.tuple #[.agg #[.slice h.la (decF (xs ++ ys.take N)).1.labels.length h.lc, .slice h.ta (decF (xs ++ ys.take N)).1.table.length h.tc, .int .i64 (decF (xs ++ ys.take N)).1.fuel, .int .i64 (decF (xs ++ ys.take N)).1.lane, .int .i64 (decF (xs ++ ys.take N)).1.locks, .int .i64 (decF (xs ++ ys.take N)).1.log, .slice h.pa (decF (xs ++ ys.take N)).1.procs.length h.pc], .int .i64 (decF (xs ++ ys.take N)).2.1, .int .i64 (decF (xs ++ ys.take N)).2.2]) ∧ Below v3.heap.size v3 w' := by
      have h := cdecode_any a3 c3 (xs ++ ys.take N) v3 hr3.rd (byte_app hbE.out (byte_take HBy.out N)) (by rw [List.length_append, hN1.out]; exact hr3.capLe) (HFk.out v3 Bv3.out) (HLk.out v3 Bv3.out)
      unfold DecOut cfV cfA at h
      rw [List.length_append, hN1.out] at h
      exact h.mono fun e w' ⟨h, he, _, hb⟩ => ⟨h, he, hb⟩
    have HZ : Hid (0 < N → (decF (xs ++ ys.take N)).2.1 = 6 ∧ (decF (xs ++ ys.take N)).2.2 = (xs.length : Int)) := hd (fun h0 => by
      rw [HRest.out (ys.take N) (by rw [hN1.out]; exact h0) (by rw [hN1.out]; omega)]
      exact ⟨rfl, rfl⟩)
    clear hrw hsr hr3 hm3 hn3 HRest
    generalize (decF (xs ++ ys.take N)).1 = D1 at *
    generalize (decF (xs ++ ys.take N)).2.1 = E1 at *
    generalize (decF (xs ++ ys.take N)).2.2 = P1 at *
    have hLe : (xs.length : Int) ≤ (ec : Int) := by omega
    go_upto_region 14 with (first | (at_builtin; refine wpList_append_run rfl _ _ _ rfl _ _ _ _ rfl rfl hap.out ?_; clear hap) | (go_at_call 16; refine hdec.mono ?_; rintro e v4 ⟨h2, rfl, b5⟩; replace b5 := hd b5))
    clear hdec hLe
    obtain ⟨v5, hv5⟩ : ∃ W, Hid (v4.alloc (.cells #[.slice h2.la D1.labels.length h2.lc, .slice h2.ta D1.table.length h2.tc, .int .i64 D1.fuel, .int .i64 D1.lane, .int .i64 D1.locks, .int .i64 D1.log, .slice h2.pa D1.procs.length h2.pc] 27) = W) := ⟨_, rfl⟩
    rw [hv5.out]
    have Bv5 : Hid (Below w0.heap.size w0 v5) := hd (Bv3.out.trans ((b5.out.trans (by rw [← hv5.out]; exact (below_al v4 _).mono b5.out.size)).mono Bv3.out.size))
    generalize v4.heap.size = Gy
    clear hv5 b5 Bv3 Bv2 b4 Bw2 b2 hrow
    go_cut [87] (fun v87 wy => v87 = .bool false ∧ wy = v5)
    case first =>
      by_cases h0 : N = 0
      · have d0 : decide ((0 : Int) < (N : Int)) = false := by simp; omega
        have d0n : decide (0 < N) = false := by simp; omega
        have d0' : (N : Int) ≤ 0 := by omega
        clear h0
        go_wp2_with fail
        go_meet
        exact ⟨rfl, rfl⟩
      · have d0 : (0 : Int) < (N : Int) := by omega
        have d0n : 0 < N := by omega
        obtain ⟨rfl, rfl⟩ := HZ.out (by omega)
        go_wp2_with fail
        go_meet
        exact ⟨rfl, rfl⟩
    case rest =>
    obtain ⟨rfl, hwc⟩ := hcut
    obtain rfl : v5 = wc := hwc.symm
    have hwd : Calls Tryd.prog 19 #[.agg #[.slice g.la c.labels.length g.lc, .slice g.ta c.table.length g.tc, .int .i64 c.fuel, .int .i64 c.lane, .int .i64 c.locks, .int .i64 c.log, .slice g.pa c.procs.length g.pc]] v5 fun e w' => ∃ g', e = .returned (cfV c g') ∧ WdO v5.heap.size w' c g' ∧ Below v5.heap.size v5 w' := wide_any c g v5 (HRk.out v5 Bv5.out) hml.out hmc.out
    obtain ⟨c0, c1, c2, c3, c4, c5, c6⟩ := K0.out v5 Bv5.out
    go_upto_region 17 with (go_at_call 19; refine hwd.mono ?_; rintro e v6 ⟨g', rfl, ho, b6⟩; unfold cfV cfA; replace ho := hd ho; replace b6 := hd b6)
    clear hwd c0 c1 c2 c3 c4 c5 c6
    have Bv6 : Hid (Below w0.heap.size w0 v6) := hd (Bv5.out.trans (b6.out.mono Bv5.out.size))
    obtain ⟨v7, hv7⟩ : ∃ W, Hid (v6.alloc (.cells #[.slice g'.la c.labels.length g'.lc, .slice g'.ta c.table.length g'.tc, .int .i64 c.fuel, .int .i64 c.lane, .int .i64 c.locks, .int .i64 c.log, .slice g'.pa c.procs.length g'.pc] 27) = W) := ⟨_, rfl⟩
    rw [hv7.out]
    have xv7 : Below v6.heap.size v6 v7 := by rw [← hv7.out]; exact below_al v6 _
    have Bv7 : Hid (Below w0.heap.size w0 v7) := hd (Bv6.out.trans (xv7.mono Bv6.out.size))
    have HGd : Hid (v7.heap[v6.heap.size]? = some (.cells #[.slice g'.la c.labels.length g'.lc, .slice g'.ta c.table.length g'.tc, .int .i64 c.fuel, .int .i64 c.lane, .int .i64 c.locks, .int .i64 c.log, .slice g'.pa c.procs.length g'.pc] 27 (0, 0))) := hd (by rw [← hv7.out]; exact heap_alloc_new v6 _)
    have HO7 := hd (ho.out.below xv7)
    have hprow := (HO7.out.own.ok _ (List.mem_cons_of_mem _ (List.mem_cons_of_mem _ List.mem_cons_self)))
    obtain ⟨bq, hbq⟩ := hprow.head (by simp only; omega)
    simp only at hbq
    obtain ⟨Gd, hGd⟩ : ∃ G, Hid (v6.heap.size = G) := ⟨_, rfl⟩
    have hnb : ∀ k, blk g'.pa = some k → v5.heap.size ≤ k ∧ k < v6.heap.size := fun k hk => ⟨HO7.out.own.new _ (List.mem_cons_of_mem _ (List.mem_cons_of_mem _ List.mem_cons_self)) k hk, ho.out.own.lt _ (List.mem_cons_of_mem _ (List.mem_cons_of_mem _ List.mem_cons_self)) k hk⟩
    rw [hGd.out] at HGd ⊢
    obtain ⟨hq1, hq2⟩ := hnb bq (by rw [hbq]; rfl)
    have hml2 : Hid (g'.ms.length = c.procs.length) := hd (by rw [← ho.out.ps, psOf_len])
    have hqG : bq < Gd := by rw [← hGd.out]; exact hq2
    have hqw : Hid (w0.heap.size ≤ bq) := hd (Nat.le_trans Bv5.out.size hq1)
    clear hGd hv7 xv7 ho b6 Bv6 hnb hq1 hq2
    obtain ⟨la', lc', ta', tc', pa', pc', ms'⟩ := g'
    simp only at hbq HGd hprow hml2 ⊢
    subst hbq
    obtain ⟨j, hj⟩ : ∃ j, k % c.procs.length = j := ⟨_, rfl⟩
    have hjl : j < c.procs.length := by rw [← hj]; exact Nat.mod_lt _ (by omega)
    have hjI : (k : Int).tmod (c.procs.length : Int) = (j : Int) := by rw [← hj]; rfl
    have hP0 : ((c.procs.length : Int) == 0) = false := by rw [beq_eq_false_iff_ne]; omega
    clear hj
    have d6 := cell_of_row v7 Gd 6 _ _ _ HGd.out
    simp at d6
    obtain ⟨bq', ebq, htg⟩ := hprow.cell (j * 2 + 1) (by simp only; omega)
    simp only at ebq
    cases ebq
    have hpf := hprow.free (j * 2 + 1) bq rfl
    have htg2 : v7.cell? ⟨bq, j * 2 + 1, none⟩ = some (.slice (ms'.getD j default).a (ms'.getD j default).p.code.length (ms'.getD j default).c) := by
      rw [htg]
      simp only
      rw [List.getElem?_append_left (by rw [psC_len, hml2.out]; omega)]
      exact (psC_at ms' j (by rw [hml2.out]; exact hjl)).2
    obtain ⟨cur, hcur⟩ : ∃ cur, v7.heap[bq]? = some (.cells cur 42 (0, 0)) := by
      obtain ⟨-, -, -, ⟨h5, -⟩ | ⟨g2, cu, h5, h6, -⟩⟩ := hprow
      · simp only at h5
        cases h5
      · simp only at h5 h6
        cases h5
        exact ⟨cu, h6⟩
    have HCR : Hid (CfR (v7.setCell ⟨bq, j * 2 + 1, none⟩ (.slice al l.length cl)) { c with procs := c.procs.set j ⟨(ms'.getD j default).p.part, l⟩ } ⟨la', lc', ta', tc', some ⟨bq, 0, none⟩, pc', ms'.set j ⟨⟨(ms'.getD j default).p.part, l⟩, al, cl⟩⟩) := hd (code_set HO7.out.cfO rfl (by rw [hml2.out]; exact hjl) al l cl (HPr.out v7 Bv7.out) (fun k hk hx e => by have h1 := HPb.out k hk hx; have h2 := hqw.out; omega) hcur)
    have HSB : Hid (skB c { c with procs := c.procs.set j ⟨(ms'.getD j default).p.part, l⟩ } = true) := hd (skB_set c j _ hjl (by simp only; rw [HO7.out.cfO.rd.at j]))
    have HM8 : Hid (Below w0.heap.size w0 (v7.setCell ⟨bq, j * 2 + 1, none⟩ (.slice al l.length cl))) := hd (Bv7.out.trans (((Mod.refl (fun k => k = bq) v7).setCell (.inl rfl) _).below (B := w0.heap.size) Bv7.out.size (fun k _ hk => by have := hqw.out; omega)))
    have HGd8 : Hid ((v7.setCell ⟨bq, j * 2 + 1, none⟩ (.slice al l.length cl)).heap[Gd]? = some (.cells #[.slice la' c.labels.length lc', .slice ta' c.table.length tc', .int .i64 c.fuel, .int .i64 c.lane, .int .i64 c.locks, .int .i64 c.log, .slice (some ⟨bq, 0, none⟩) c.procs.length pc'] 27 (0, 0))) := hd ((((Mod.refl (fun k => k = bq) v7).setCell (.inl rfl) _).block Gd (Array.getElem?_eq_some_iff.1 HGd.out).1 (by omega)).trans HGd.out)
    generalize (ms'.getD j default).p.part = part at *
    generalize (ms'.getD j default).a = ma at *
    generalize (ms'.getD j default).p.code.length = mn at *
    generalize (ms'.getD j default).c = mc at *
    have ne1 : Gd ≠ bq := by omega
    have ne2 : bq ≠ Gd := by omega
    have hjI2 : (j : Int) < (c.procs.length : Int) := by omega
    clear hprow htg HO7 hcur hml2
    obtain ⟨np, hnp⟩ : ∃ np, Hid (c.procs.length = np) := ⟨_, rfl⟩
    rw [hnp.out] at hjI hjI2 hP0 d6 hjl hp1 HGd8 ⊢
    have hn0 : np ≠ 0 := by omega
    have hn0' : (np : Int) ≠ 0 := by omega
    go_region_held3 (fun w' => w'.cell? ⟨Gd, 6, none⟩ = some (.slice (some ⟨bq, 0, none⟩) np pc')) (go_keep) (fail)
    obtain ⟨v8, hv8⟩ : ∃ W, Hid (v7.setCell ⟨bq, j * 2 + 1, none⟩ (.slice al l.length cl) = W) := ⟨_, rfl⟩
    rw [hv8.out] at HCR HM8 HGd8 ⊢
    have Bv9 : Hid (Below w0.heap.size w0 v8.drew) := hd (HM8.out.trans ((below_draw v8 1).mono HM8.out.size))
    have HGd9 : Hid (v8.drew.heap[Gd]? = some (.cells #[.slice la' c.labels.length lc', .slice ta' c.table.length tc', .int .i64 c.fuel, .int .i64 c.lane, .int .i64 c.locks, .int .i64 c.log, .slice (some ⟨bq, 0, none⟩) np pc'] 27 (0, 0))) := hd HGd8.out
    have hsk : Calls Tryd.prog 14 #[.agg #[.slice g.la c.labels.length g.lc, .slice g.ta c.table.length g.tc, .int .i64 c.fuel, .int .i64 c.lane, .int .i64 c.locks, .int .i64 c.log, .slice g.pa np g.pc], .agg #[.slice la' c.labels.length lc', .slice ta' c.table.length tc', .int .i64 c.fuel, .int .i64 c.lane, .int .i64 c.locks, .int .i64 c.log, .slice (some ⟨bq, 0, none⟩) np pc']] v8.drew fun e w' => e = .returned (.bool true) ∧ Below v8.drew.heap.size v8.drew w' := by
      have h := skel_any c { c with procs := c.procs.set j ⟨part, l⟩ } g ⟨la', lc', ta', tc', some ⟨bq, 0, none⟩, pc', ms'.set j ⟨⟨part, l⟩, al, cl⟩⟩ v8.drew (HRk.out _ Bv9.out) (HCR.out.below (below_draw v8 1)) (by have := hml.out; omega)
      rw [HSB.out] at h
      unfold cfV cfA at h
      simp only [List.length_set, hnp.out] at h
      exact h
    obtain ⟨c0, c1, c2, c3, c4, c5, c6⟩ := K0.out v8.drew Bv9.out
    rw [hnp.out] at c6
    obtain ⟨e0, e1, e2, e3, e4, e5, e6⟩ : v8.drew.cell? ⟨Gd, 0, none⟩ = some (.slice la' c.labels.length lc') ∧ v8.drew.cell? ⟨Gd, 1, none⟩ = some (.slice ta' c.table.length tc') ∧ v8.drew.cell? ⟨Gd, 2, none⟩ = some (.int .i64 c.fuel) ∧ v8.drew.cell? ⟨Gd, 3, none⟩ = some (.int .i64 c.lane) ∧ v8.drew.cell? ⟨Gd, 4, none⟩ = some (.int .i64 c.locks) ∧ v8.drew.cell? ⟨Gd, 5, none⟩ = some (.int .i64 c.log) ∧ v8.drew.cell? ⟨Gd, 6, none⟩ = some (.slice (some ⟨bq, 0, none⟩) np pc') := ⟨cell_of_row v8.drew Gd 0 _ _ _ HGd9.out, cell_of_row v8.drew Gd 1 _ _ _ HGd9.out, cell_of_row v8.drew Gd 2 _ _ _ HGd9.out, cell_of_row v8.drew Gd 3 _ _ _ HGd9.out, cell_of_row v8.drew Gd 4 _ _ _ HGd9.out, cell_of_row v8.drew Gd 5 _ _ _ HGd9.out, cell_of_row v8.drew Gd 6 _ _ _ HGd9.out⟩
    clear d6 htg2 hpf hv8
    go_wp2_with (go_at_call 14; refine hsk.mono ?_; rintro e v9 ⟨rfl, b9⟩; replace b9 := hd b9)
    go_ret
    exact ⟨rfl, B0.out.trans ((Bv9.out.trans (b9.out.mono Bv9.out.size)).mono B0.out.size)⟩
  · have henc : Calls Tryd.prog 12 #[.agg #[.slice g.la c.labels.length g.lc, .slice g.ta c.table.length g.tc, .int .i64 c.fuel, .int .i64 c.lane, .int .i64 c.locks, .int .i64 c.log, .slice g.pa c.procs.length g.pc]] w1 fun e w' => e = .returned (.tuple #[.slice none 0 0, .int .i64 (mayC c).1]) ∧ Below w1.heap.size w1 w' := cenc_no c g w1 (HRk.out w1 b1.out) (HFk.out w1 b1.out) (HLk.out w1 b1.out) hm
    have dE : ((mayC c).1 != 0) = true := by simpa using hm
    generalize (mayC c).1 = E at *
    clear hm
    obtain ⟨c0, c1, c2, c3, c4, c5, c6⟩ := K0.out w1 b1.out
    go_wp2_with (go_at_call 12; refine henc.mono ?_; rintro e w2 ⟨rfl, b2⟩; replace b2 := hd b2)
    go_ret
    exact ⟨rfl, B0.out.trans ((b1.out.trans (b2.out.mono b1.out.size)).mono B0.out.size)⟩
end Go.Proofs.YtmjokinagbpihaaDoor
