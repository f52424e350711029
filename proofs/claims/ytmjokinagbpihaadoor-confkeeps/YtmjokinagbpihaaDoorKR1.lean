/- ConfReads: any bytes, as the document reads them. -/
import Derived.Test.YtmjokinagbpihaaDoorKD7
import Derived.Test.YtmjokinagbpihaaDoorQR1
namespace Go.Proofs.YtmjokinagbpihaaDoor
open Go.RowKit

theorem decF_small {bs : List Nat} (hb : Byte bs) : ((decF bs).1.labels.length ≤ 9223372036854775807 ∧ (decF bs).1.table.length ≤ 9223372036854775807 ∧ (decF bs).1.procs.length ≤ 9223372036854775807) ∧ ∀ p ∈ (decF bs).1.procs, p.code.length ≤ 2000000 := by
  rcases decF_cases hb with ⟨d, hD, hmd, -⟩ | ⟨E1, P1, hD, -⟩
  · rw [hD]
    have hm : (mayC d).1 = 0 := by rw [hmd]
    obtain ⟨h0, h1, -, -, -, -, h6, h7⟩ := (mayC_iff d).1 hm
    have l1 := lab_len h0
    have l2 := tab_len h1
    have l3 := cnt_len h6
    refine ⟨by simp only; omega, fun p hp => ?_⟩
    have := prE_len (h7 p hp)
    omega
  · rw [hD]
    exact ⟨by simp [noC], fun p hp => by simp [noC] at hp⟩

set_option maxRecDepth 100000 in
set_option maxHeartbeats 8000000 in
theorem confReads_any (a : Option Addr) (cap : Nat) (bs : List Nat) (w : World) (hrd : Rd w a (bCells bs)) (hby : Byte bs) (hcap : bs.length ≤ cap) (hF : Fld w) (hL : Lim w) :
    Calls Tryd.prog 5 #[.slice a bs.length cap] w fun e w' => e = .returned (.bool true) ∧ Below w.heap.size w w' := by
  obtain ⟨hl3, hcd⟩ := decF_small hby
  have HRd : Hid (∀ W, Below w.heap.size w W → Rd W a (bCells bs)) := hd (fun W hW => hrd.below hW)
  have HFk : Hid (∀ W, Below w.heap.size w W → Fld W) := hd (fun W hW => hF.kept hW)
  have HLk : Hid (∀ W, Below w.heap.size w W → Lim W) := hd (fun W hW => hL.kept hW)
  have h1 := awake_any w hF hL
  have HC : Hid (∀ W, Below w.heap.size w W → Calls Tryd.prog 16 #[.slice a bs.length cap] W (DecOut W bs)) := hd (fun W hW => cdecode_any a cap bs W (HRd.out W hW) hby hcap (HFk.out W hW) (HLk.out W hW))
  have HDc : Hid (∀ W, Below w.heap.size w W → Calls Tryd.prog 17 #[.slice a bs.length cap] W (DecOut W bs)) := hd (fun W hW => Doc.ddecode_any a cap bs W (HRd.out W hW) hby hcap)
  unfold DecOut at HC HDc
  generalize decF bs = R at *
  obtain ⟨c, E, P⟩ := R
  simp only at HC HDc hl3 hcd
  unfold cfV cfA at HC HDc
  replace hl3 := hd hl3
  replace hcd := hd hcd
  clear hrd hby hF hL
  go_enter Tryd.func5, Tryd.ntmps5
  go_upto_region 3 with (go_at_call 9; refine h1.mono ?_; rintro e w0 ⟨rfl, b1⟩; replace b1 := hd b1)
  clear h1
  have B0 : Hid (Below w.heap.size w w0) := b1
  have hc1 := HC.out w0 b1.out
  go_upto_region 4 with (go_at_call 16; refine hc1.mono ?_; rintro e w2 ⟨k, rfl, ho, b2⟩; replace ho := hd ho; replace b2 := hd b2)
  clear hc1 HC
  have Bw2 : Hid (Below w0.heap.size w0 w2) := b2
  obtain ⟨w3, hw3⟩ : ∃ W, Hid (w2.alloc (.cells #[.slice k.la c.labels.length k.lc, .slice k.ta c.table.length k.tc, .int .i64 c.fuel, .int .i64 c.lane, .int .i64 c.locks, .int .i64 c.log, .slice k.pa c.procs.length k.pc] 27) = W) := ⟨_, rfl⟩
  rw [hw3.out]
  have xw3 : Below w2.heap.size w2 w3 := by rw [← hw3.out]; exact below_al w2 _
  have Bw3 : Hid (Below w0.heap.size w0 w3) := hd (Bw2.out.trans (xw3.mono Bw2.out.size))
  have HGc : Hid (w3.heap[w2.heap.size]? = some (.cells #[.slice k.la c.labels.length k.lc, .slice k.ta c.table.length k.tc, .int .i64 c.fuel, .int .i64 c.lane, .int .i64 c.locks, .int .i64 c.log, .slice k.pa c.procs.length k.pc] 27 (0, 0))) := hd (by rw [← hw3.out]; exact heap_alloc_new w2 _)
  obtain ⟨Gc, hGc⟩ : ∃ G, Hid (w2.heap.size = G) := ⟨_, rfl⟩
  rw [hGc.out] at HGc ⊢
  have HO3 := hd (ho.out.rd.below xw3)
  clear hGc hw3 xw3 ho b2
  have Ww3 : Hid (Below w.heap.size w w3) := hd (B0.out.trans (Bw3.out.mono B0.out.size))
  have hc2 := HDc.out w3 Ww3.out
  go_upto_region 5 with (go_at_call 17; refine hc2.mono ?_; rintro e w4 ⟨g, rfl, ho, b4⟩; replace ho := hd ho; replace b4 := hd b4)
  clear hc2 HDc
  have Bw4 : Hid (Below w0.heap.size w0 w4) := hd (Bw3.out.trans (b4.out.mono Bw3.out.size))
  obtain ⟨w5, hw5⟩ : ∃ W, Hid (w4.alloc (.cells #[.slice g.la c.labels.length g.lc, .slice g.ta c.table.length g.tc, .int .i64 c.fuel, .int .i64 c.lane, .int .i64 c.locks, .int .i64 c.log, .slice g.pa c.procs.length g.pc] 27) = W) := ⟨_, rfl⟩
  rw [hw5.out]
  have xw5 : Below w4.heap.size w4 w5 := by rw [← hw5.out]; exact below_al w4 _
  have Bw5 : Hid (Below w0.heap.size w0 w5) := hd (Bw4.out.trans (xw5.mono Bw4.out.size))
  have HGd : Hid (w5.heap[w4.heap.size]? = some (.cells #[.slice g.la c.labels.length g.lc, .slice g.ta c.table.length g.tc, .int .i64 c.fuel, .int .i64 c.lane, .int .i64 c.locks, .int .i64 c.log, .slice g.pa c.procs.length g.pc] 27 (0, 0))) := hd (by rw [← hw5.out]; exact heap_alloc_new w4 _)
  have HO5 := hd (ho.out.rd.below xw5)
  have HK5 := hd ((HO3.out.below b4.out).below xw5)
  have HGc5 : Hid (w5.heap[Gc]? = some (.cells #[.slice k.la c.labels.length k.lc, .slice k.ta c.table.length k.tc, .int .i64 c.fuel, .int .i64 c.lane, .int .i64 c.locks, .int .i64 c.log, .slice k.pa c.procs.length k.pc] 27 (0, 0))) := hd (by
    have h4 := (b4.out.block Gc (Array.getElem?_eq_some_iff.1 HGc.out).1).trans HGc.out
    exact (xw5.block Gc (Array.getElem?_eq_some_iff.1 h4).1).trans h4)
  obtain ⟨Gd, hGd⟩ : ∃ G, Hid (w4.heap.size = G) := ⟨_, rfl⟩
  rw [hGd.out] at HGd ⊢
  clear hGd hw5 xw5 ho b4 HGc HO3
  have hsame : Calls Tryd.prog 18 #[.agg #[.slice k.la c.labels.length k.lc, .slice k.ta c.table.length k.tc, .int .i64 c.fuel, .int .i64 c.lane, .int .i64 c.locks, .int .i64 c.log, .slice k.pa c.procs.length k.pc], .agg #[.slice g.la c.labels.length g.lc, .slice g.ta c.table.length g.tc, .int .i64 c.fuel, .int .i64 c.lane, .int .i64 c.locks, .int .i64 c.log, .slice g.pa c.procs.length g.pc]] w5 fun e w' => e = .returned (.bool true) ∧ Below w5.heap.size w5 w' := dsame_yes c k g w5 HK5.out HO5.out hl3.out hcd.out
  obtain ⟨c0, c1, c2, c3, c4, c5, c6⟩ : w5.cell? ⟨Gc, 0, none⟩ = some (.slice k.la c.labels.length k.lc) ∧ w5.cell? ⟨Gc, 1, none⟩ = some (.slice k.ta c.table.length k.tc) ∧ w5.cell? ⟨Gc, 2, none⟩ = some (.int .i64 c.fuel) ∧ w5.cell? ⟨Gc, 3, none⟩ = some (.int .i64 c.lane) ∧ w5.cell? ⟨Gc, 4, none⟩ = some (.int .i64 c.locks) ∧ w5.cell? ⟨Gc, 5, none⟩ = some (.int .i64 c.log) ∧ w5.cell? ⟨Gc, 6, none⟩ = some (.slice k.pa c.procs.length k.pc) := ⟨cell_of_row w5 Gc 0 _ _ _ HGc5.out, cell_of_row w5 Gc 1 _ _ _ HGc5.out, cell_of_row w5 Gc 2 _ _ _ HGc5.out, cell_of_row w5 Gc 3 _ _ _ HGc5.out, cell_of_row w5 Gc 4 _ _ _ HGc5.out, cell_of_row w5 Gc 5 _ _ _ HGc5.out, cell_of_row w5 Gc 6 _ _ _ HGc5.out⟩
  obtain ⟨d0, d1, d2, d3, d4, d5, d6⟩ : w5.cell? ⟨Gd, 0, none⟩ = some (.slice g.la c.labels.length g.lc) ∧ w5.cell? ⟨Gd, 1, none⟩ = some (.slice g.ta c.table.length g.tc) ∧ w5.cell? ⟨Gd, 2, none⟩ = some (.int .i64 c.fuel) ∧ w5.cell? ⟨Gd, 3, none⟩ = some (.int .i64 c.lane) ∧ w5.cell? ⟨Gd, 4, none⟩ = some (.int .i64 c.locks) ∧ w5.cell? ⟨Gd, 5, none⟩ = some (.int .i64 c.log) ∧ w5.cell? ⟨Gd, 6, none⟩ = some (.slice g.pa c.procs.length g.pc) := ⟨cell_of_row w5 Gd 0 _ _ _ HGd.out, cell_of_row w5 Gd 1 _ _ _ HGd.out, cell_of_row w5 Gd 2 _ _ _ HGd.out, cell_of_row w5 Gd 3 _ _ _ HGd.out, cell_of_row w5 Gd 4 _ _ _ HGd.out, cell_of_row w5 Gd 5 _ _ _ HGd.out, cell_of_row w5 Gd 6 _ _ _ HGd.out⟩
  go_wp2_with (go_at_call 18; refine hsame.mono ?_; rintro e w6 ⟨rfl, b6⟩; replace b6 := hd b6)
  go_ret
  exact ⟨rfl, B0.out.trans ((Bw5.out.trans (b6.out.mono Bw5.out.size)).mono B0.out.size)⟩
end Go.Proofs.YtmjokinagbpihaaDoor
