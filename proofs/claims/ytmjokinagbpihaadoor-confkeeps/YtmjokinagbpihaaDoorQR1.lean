/- ConfReturns: there and back, both ways. -/
import Derived.Test.YtmjokinagbpihaaDoorQA2
import Derived.Test.YtmjokinagbpihaaDoorQLV
namespace Go.Proofs.YtmjokinagbpihaaDoor
open Go.RowKit

theorem decF_cases {bs : List Nat} (hb : Byte bs) : (∃ d, decF bs = (d, 0, 0) ∧ mayC d = (0, 0) ∧ encC d = bs) ∨ (∃ e1 p1 : Int, decF bs = (noC, e1, p1) ∧ e1 ≠ 0 ∧ 0 ≤ p1 ∧ p1 ≤ bs.length) := by
  unfold decF
  cases h : decC bs with
  | ok c q => exact .inl ⟨c, rfl, (dec_ok hb h).2.1, (dec_ok hb h).2.2.1⟩
  | er e a => exact .inr ⟨e, a, rfl, dec_place h⟩
theorem decF_enc (c : Cfg) (g : Good c) (h : (mayC c).1 = 0) : decF (encC c) = (c, 0, 0) := by
  unfold decF
  rw [decC_enc c g h]
theorem row_zero {w : World} {e s : Nat} {a : Option Addr} {n cap : Nat} {xs : List Value} (h : Row w e s a n cap xs) : a = none → cap = 0 := fun h0 => by
  rcases h.2.2.2 with ⟨_, h1⟩ | ⟨g, cur, e, _⟩
  · exact h1
  · cases h0.symm.trans e
def toU (bs : List Nat) : List UInt8 := bs.map UInt8.ofNat
theorem string_rd {a : Option Addr} {cap : Nat} {bs : List Nat} {w : World} (hB : Rd w a (bCells bs)) (hb : Byte bs) (hn : a = none → cap = 0) :
    (convert 31 9 (.slice a bs.length cap)).run Tryd.prog w = .ok (.string ⟨(toU bs).toArray⟩) w := by
  cases a with
  | none =>
    have h0 : bs = [] := by
      cases bs with
      | nil => rfl
      | cons x r =>
        obtain ⟨b, o, e, _⟩ := hB 0 _ rfl
        cases e
    subst h0
    rw [hn rfl]
    exact run_convert_bytes_nil w 31 5 Tryd.underlying31 Tryd.underlying5 _ _ 9 Tryd.underlying9
  | some ad =>
    have hl : bs.length = (toU bs).length := by simp [toU]
    rw [hl]
    refine run_convert_bytes_back w 31 9 5 _ cap (toU bs) Tryd.underlying31 Tryd.underlying5 Tryd.underlying9 ?_
    intro j hj
    have hj' : j < bs.length := by omega
    obtain ⟨b, off, e, hc⟩ := hB j (.int .u8 (bs.getD j 0)) (by simp [bCells, List.getD_eq_getElem?_getD, hj'])
    cases e
    rw [addr_add', hc]
    have h9 := hb j
    rw [List.getD_eq_getElem?_getD, List.getElem?_eq_getElem hj'] at h9 ⊢
    simp [toU] at h9 ⊢
    omega

set_option maxRecDepth 100000 in
set_option maxHeartbeats 8000000 in
theorem confReturns_any (c : Cfg) (g : Loc) (a : Option Addr) (cap : Nat) (bs : List Nat) (w : World) (hR : CfR w c g) (hI : CfI c) (hrd : Rd w a (bCells bs)) (hby : Byte bs) (hcap : bs.length ≤ cap) (hnone : a = none → cap = 0) (hF : Fld w) (hL : Lim w) :
    Calls Tryd.prog 6 #[cfV c g, .slice a bs.length cap] w fun e w' => e = .returned (.bool true) ∧ Below w.heap.size w w' := by
  unfold cfV cfA
  have HGood : Hid (Good c) := hd ⟨hI.lab, fun p hp x hx => ((hI.prs p hp).2 x hx).2.2.2.2⟩
  have HBy := hd hby
  replace hnone := hd hnone
  obtain ⟨w0, hw0⟩ : ∃ W, Hid (w.alloc (.cells #[.slice g.la c.labels.length g.lc, .slice g.ta c.table.length g.tc, .int .i64 c.fuel, .int .i64 c.lane, .int .i64 c.locks, .int .i64 c.log, .slice g.pa c.procs.length g.pc] 27) = W) := ⟨_, rfl⟩
  have x0 : Below w.heap.size w w0 := by rw [← hw0.out]; exact below_al w _
  have B0 : Hid (Below w.heap.size w w0) := hd x0
  have HG : Hid (w0.heap[w.heap.size]? = some (.cells #[.slice g.la c.labels.length g.lc, .slice g.ta c.table.length g.tc, .int .i64 c.fuel, .int .i64 c.lane, .int .i64 c.locks, .int .i64 c.log, .slice g.pa c.procs.length g.pc] 27 (0, 0))) := hd (by rw [← hw0.out]; exact heap_alloc_new w _)
  have HRk : Hid (∀ W, Below w0.heap.size w0 W → CfR W c g) := hd (fun W hW => (hR.below x0).below hW)
  have HRd : Hid (∀ W, Below w0.heap.size w0 W → Rd W a (bCells bs)) := hd (fun W hW => (hrd.below x0).below hW)
  have HFk : Hid (∀ W, Below w0.heap.size w0 W → Fld W) := hd (fun W hW => (hF.kept x0).kept hW)
  have HLk : Hid (∀ W, Below w0.heap.size w0 W → Lim W) := hd (fun W hW => (hL.kept x0).kept hW)
  obtain ⟨G, hG⟩ : ∃ G, Hid (w.heap.size = G) := ⟨_, rfl⟩
  rw [hG.out] at HG
  have K0 : Hid (∀ W, Below w0.heap.size w0 W → W.cell? ⟨G, 0, none⟩ = some (.slice g.la c.labels.length g.lc) ∧ W.cell? ⟨G, 1, none⟩ = some (.slice g.ta c.table.length g.tc) ∧ W.cell? ⟨G, 2, none⟩ = some (.int .i64 c.fuel) ∧ W.cell? ⟨G, 3, none⟩ = some (.int .i64 c.lane) ∧ W.cell? ⟨G, 4, none⟩ = some (.int .i64 c.locks) ∧ W.cell? ⟨G, 5, none⟩ = some (.int .i64 c.log) ∧ W.cell? ⟨G, 6, none⟩ = some (.slice g.pa c.procs.length g.pc)) := hd (fun W hW => by
    have h : W.heap[G]? = _ := (hW.block G (Array.getElem?_eq_some_iff.1 HG.out).1).trans HG.out
    exact ⟨cell_of_row W G 0 _ _ _ h, cell_of_row W G 1 _ _ _ h, cell_of_row W G 2 _ _ _ h, cell_of_row W G 3 _ _ _ h, cell_of_row W G 4 _ _ _ h, cell_of_row W G 5 _ _ _ h, cell_of_row W G 6 _ _ _ h⟩)
  have h1 := awake_any w0 (HFk.out w0 (below_same w0)) (HLk.out w0 (below_same w0))
  clear hR hI hrd hby hF hL x0 HG
  go_enter Tryd.func6, Tryd.ntmps6
  go_upto_region 1 with fail
  rw [hw0.out, hG.out]
  clear hw0 hG
  go_upto_region 3 with (go_at_call 9; refine h1.mono ?_; rintro e w1 ⟨rfl, b1⟩; replace b1 := hd b1)
  clear h1
  by_cases hm : (mayC c).1 = 0
  · have hl1 : (encC c).length ≤ 98542 := enc_len c hm
    have hlen3 : Hid (c.labels.length ≤ 9223372036854775807 ∧ c.table.length ≤ 9223372036854775807 ∧ c.procs.length ≤ 9223372036854775807) := hd (by
      obtain ⟨h0, h1, -, -, -, -, h6, -⟩ := (mayC_iff c).1 hm
      have l1 := lab_len h0
      have l2 := tab_len h1
      have l3 := cnt_len h6
      omega)
    have hcod : Hid (∀ p ∈ c.procs, p.code.length ≤ 2000000) := hd (by
      obtain ⟨-, -, -, -, -, -, -, h7⟩ := (mayC_iff c).1 hm
      intro p hp
      have := prE_len (h7 p hp)
      omega)
    have henc : Calls Tryd.prog 12 #[.agg #[.slice g.la c.labels.length g.lc, .slice g.ta c.table.length g.tc, .int .i64 c.fuel, .int .i64 c.lane, .int .i64 c.locks, .int .i64 c.log, .slice g.pa c.procs.length g.pc]] w1 (EncOut w1 c) := cenc_ok c g w1 (HRk.out w1 b1.out) (HFk.out w1 b1.out) (HLk.out w1 b1.out) hm
    unfold EncOut at henc
    have hmz : Hid (mayC c = (0, 0)) := hd (mayC_zero c hm)
    have hdF : Hid (decF (encC c) = (c, 0, 0)) := hd (decF_enc c HGood.out hm)
    have hbE : Hid (Byte (encC c)) := hd (enc_byte c)
    clear hm
    generalize encC c = xs at henc hl1 hdF hbE
    have hlt : ((xs.length : Int) ≥ 1048576) = False := by simp; omega
    have hlt' : (xs.length : Int) < 1048576 := by omega
    have hlt2 : decide ((1048576 : Int) ≤ (xs.length : Int)) = false := by simp; omega
    obtain ⟨c0, c1, c2, c3, c4, c5, c6⟩ := K0.out w1 b1.out
    go_upto_region 4 with (go_at_call 12; refine henc.mono ?_; rintro e w2 ⟨ea, ec, rfl, hrow, hnew, b2⟩; replace hrow := hd hrow; clear hnew; replace b2 := hd b2)
    clear henc c0 c1 c2 c3 c4 c5 c6
    have Bw2 : Hid (Below w0.heap.size w0 w2) := hd (b1.out.trans (b2.out.mono b1.out.size))
    have hmay : Calls Tryd.prog 10 #[.agg #[.slice g.la c.labels.length g.lc, .slice g.ta c.table.length g.tc, .int .i64 c.fuel, .int .i64 c.lane, .int .i64 c.locks, .int .i64 c.log, .slice g.pa c.procs.length g.pc]] w2 fun e w' => e = .returned (.tuple #[.int .i64 0, .int .i64 0]) ∧ Below w2.heap.size w2 w' := by
      have h := cmay_any c g w2 (HRk.out w2 Bw2.out) (HFk.out w2 Bw2.out) (HLk.out w2 Bw2.out)
      rw [hmz.out] at h
      exact h
    obtain ⟨c0, c1, c2, c3, c4, c5, c6⟩ := K0.out w2 Bw2.out
    go_upto_region 5 with (go_at_call 10; refine hmay.mono ?_; rintro e w3 ⟨rfl, b3⟩; replace b3 := hd b3)
    clear hmay c0 c1 c2 c3 c4 c5 c6
    have Bw3 : Hid (Below w0.heap.size w0 w3) := hd (Bw2.out.trans (b3.out.mono Bw2.out.size))
    have hdec : Calls Tryd.prog 16 #[.slice ea xs.length ec] w3 fun e w' => ∃ k, e = .returned (.tuple #[.agg #[.slice k.la c.labels.length k.lc, .slice k.ta c.table.length k.tc, .int .i64 c.fuel, .int .i64 c.lane, .int .i64 c.locks, .int .i64 c.log, .slice k.pa c.procs.length k.pc], .int .i64 0, .int .i64 0]) ∧ CfO w3.heap.size w' c k ∧ Below w3.heap.size w3 w' := by
      have h := cdecode_any ea ec xs w3 (hrow.out.rd.below b3.out) hbE.out hrow.out.capLe (HFk.out w3 Bw3.out) (HLk.out w3 Bw3.out)
      unfold DecOut at h
      rw [hdF.out] at h
      exact h
    go_upto_region 9 with (go_at_call 16; refine hdec.mono ?_; rintro e w4 ⟨k, rfl, ho, b4⟩; replace ho := hd ho; replace b4 := hd b4)
    clear hdec
    have Bw4 : Hid (Below w0.heap.size w0 w4) := hd (Bw3.out.trans (b4.out.mono Bw3.out.size))
    obtain ⟨w5, hw5⟩ : ∃ W, Hid (w4.alloc (.cells #[.slice k.la c.labels.length k.lc, .slice k.ta c.table.length k.tc, .int .i64 c.fuel, .int .i64 c.lane, .int .i64 c.locks, .int .i64 c.log, .slice k.pa c.procs.length k.pc] 27) = W) := ⟨_, rfl⟩
    rw [hw5.out]
    have xw5 : Below w4.heap.size w4 w5 := by rw [← hw5.out]; exact below_al w4 _
    have Bw5 : Hid (Below w0.heap.size w0 w5) := hd (Bw4.out.trans (xw5.mono Bw4.out.size))
    have HGd : Hid (w5.heap[w4.heap.size]? = some (.cells #[.slice k.la c.labels.length k.lc, .slice k.ta c.table.length k.tc, .int .i64 c.fuel, .int .i64 c.lane, .int .i64 c.locks, .int .i64 c.log, .slice k.pa c.procs.length k.pc] 27 (0, 0))) := hd (by rw [← hw5.out]; exact heap_alloc_new w4 _)
    have hsame : Calls Tryd.prog 18 #[.agg #[.slice k.la c.labels.length k.lc, .slice k.ta c.table.length k.tc, .int .i64 c.fuel, .int .i64 c.lane, .int .i64 c.locks, .int .i64 c.log, .slice k.pa c.procs.length k.pc], .agg #[.slice g.la c.labels.length g.lc, .slice g.ta c.table.length g.tc, .int .i64 c.fuel, .int .i64 c.lane, .int .i64 c.locks, .int .i64 c.log, .slice g.pa c.procs.length g.pc]] w5 fun e w' => e = .returned (.bool true) ∧ Below w5.heap.size w5 w' := dsame_yes c k g w5 (ho.out.rd.below xw5) (HRk.out w5 Bw5.out) hlen3.out hcod.out
    obtain ⟨Gd, hGd⟩ : ∃ G, Hid (w4.heap.size = G) := ⟨_, rfl⟩
    rw [hGd.out] at HGd ⊢
    clear hGd hw5 xw5 ho b4 b3 b2
    obtain ⟨c0, c1, c2, c3, c4, c5, c6⟩ := K0.out w5 Bw5.out
    obtain ⟨d0, d1, d2, d3, d4, d5, d6⟩ : w5.cell? ⟨Gd, 0, none⟩ = some (.slice k.la c.labels.length k.lc) ∧ w5.cell? ⟨Gd, 1, none⟩ = some (.slice k.ta c.table.length k.tc) ∧ w5.cell? ⟨Gd, 2, none⟩ = some (.int .i64 c.fuel) ∧ w5.cell? ⟨Gd, 3, none⟩ = some (.int .i64 c.lane) ∧ w5.cell? ⟨Gd, 4, none⟩ = some (.int .i64 c.locks) ∧ w5.cell? ⟨Gd, 5, none⟩ = some (.int .i64 c.log) ∧ w5.cell? ⟨Gd, 6, none⟩ = some (.slice k.pa c.procs.length k.pc) := ⟨cell_of_row w5 Gd 0 _ _ _ HGd.out, cell_of_row w5 Gd 1 _ _ _ HGd.out, cell_of_row w5 Gd 2 _ _ _ HGd.out, cell_of_row w5 Gd 3 _ _ _ HGd.out, cell_of_row w5 Gd 4 _ _ _ HGd.out, cell_of_row w5 Gd 5 _ _ _ HGd.out, cell_of_row w5 Gd 6 _ _ _ HGd.out⟩
    go_upto_region 13 with (go_at_call 18; refine hsame.mono ?_; rintro e w6 ⟨rfl, b6⟩; replace b6 := hd b6)
    clear hsame c0 c1 c2 c3 c4 c5 c6 d0 d1 d2 d3 d4 d5 d6
    have Bw6 : Hid (Below w0.heap.size w0 w6) := hd (Bw5.out.trans (b6.out.mono Bw5.out.size))
    clear b6 HGd Bw5 Bw4 Bw3 Bw2 hrow hlt hlt' hlt2 hl1 hdF hbE hmz hlen3 hcod
    rcases decF_cases HBy.out with ⟨d, hD, hmd, hed⟩ | ⟨E1, P1, hD, hE1, hP0, hP1⟩
    · replace hmd := hd hmd
      replace hed := hd hed
      have hdec : Calls Tryd.prog 16 #[.slice a bs.length cap] w6 fun e w' => ∃ h, e = .returned (.tuple #[.agg #[.slice h.la d.labels.length h.lc, .slice h.ta d.table.length h.tc, .int .i64 d.fuel, .int .i64 d.lane, .int .i64 d.locks, .int .i64 d.log, .slice h.pa d.procs.length h.pc], .int .i64 0, .int .i64 0]) ∧ CfO w6.heap.size w' d h ∧ Below w6.heap.size w6 w' := by
        have h := cdecode_any a cap bs w6 (HRd.out w6 Bw6.out) HBy.out hcap (HFk.out w6 Bw6.out) (HLk.out w6 Bw6.out)
        unfold DecOut at h
        rw [hD] at h
        exact h
      replace hD := hd hD
      go_upto_region 14 with (go_at_call 16; refine hdec.mono ?_; rintro e v1 ⟨h, rfl, ho, hb⟩; replace ho := hd ho; replace hb := hd hb)
      clear hdec
      have Bv1 : Hid (Below w0.heap.size w0 v1) := hd (Bw6.out.trans (hb.out.mono Bw6.out.size))
      obtain ⟨v2, hv2⟩ : ∃ W, Hid (v1.alloc (.cells #[.slice h.la d.labels.length h.lc, .slice h.ta d.table.length h.tc, .int .i64 d.fuel, .int .i64 d.lane, .int .i64 d.locks, .int .i64 d.log, .slice h.pa d.procs.length h.pc] 27) = W) := ⟨_, rfl⟩
      rw [hv2.out]
      have xv2 : Below v1.heap.size v1 v2 := by rw [← hv2.out]; exact below_al v1 _
      have Bv2 : Hid (Below w0.heap.size w0 v2) := hd (Bv1.out.trans (xv2.mono Bv1.out.size))
      have HGe : Hid (v2.heap[v1.heap.size]? = some (.cells #[.slice h.la d.labels.length h.lc, .slice h.ta d.table.length h.tc, .int .i64 d.fuel, .int .i64 d.lane, .int .i64 d.locks, .int .i64 d.log, .slice h.pa d.procs.length h.pc] 27 (0, 0))) := hd (by rw [← hv2.out]; exact heap_alloc_new v1 _)
      have HO2 : Hid (CfR v2 d h) := hd (ho.out.rd.below xv2)
      obtain ⟨Ge, hGe⟩ : ∃ G, Hid (v1.heap.size = G) := ⟨_, rfl⟩
      rw [hGe.out] at HGe ⊢
      clear hGe hv2 xv2 ho hb Bv1
      have K2 : Hid (∀ W, Below v2.heap.size v2 W → W.cell? ⟨Ge, 0, none⟩ = some (.slice h.la d.labels.length h.lc) ∧ W.cell? ⟨Ge, 1, none⟩ = some (.slice h.ta d.table.length h.tc) ∧ W.cell? ⟨Ge, 2, none⟩ = some (.int .i64 d.fuel) ∧ W.cell? ⟨Ge, 3, none⟩ = some (.int .i64 d.lane) ∧ W.cell? ⟨Ge, 4, none⟩ = some (.int .i64 d.locks) ∧ W.cell? ⟨Ge, 5, none⟩ = some (.int .i64 d.log) ∧ W.cell? ⟨Ge, 6, none⟩ = some (.slice h.pa d.procs.length h.pc)) := hd (fun W hW => by
        have h : W.heap[Ge]? = _ := (hW.block Ge (Array.getElem?_eq_some_iff.1 HGe.out).1).trans HGe.out
        exact ⟨cell_of_row W Ge 0 _ _ _ h, cell_of_row W Ge 1 _ _ _ h, cell_of_row W Ge 2 _ _ _ h, cell_of_row W Ge 3 _ _ _ h, cell_of_row W Ge 4 _ _ _ h, cell_of_row W Ge 5 _ _ _ h, cell_of_row W Ge 6 _ _ _ h⟩)
      have hmay : Calls Tryd.prog 10 #[.agg #[.slice h.la d.labels.length h.lc, .slice h.ta d.table.length h.tc, .int .i64 d.fuel, .int .i64 d.lane, .int .i64 d.locks, .int .i64 d.log, .slice h.pa d.procs.length h.pc]] v2 fun e w' => e = .returned (.tuple #[.int .i64 0, .int .i64 0]) ∧ Below v2.heap.size v2 w' := by
        have h := cmay_any d h v2 HO2.out (HFk.out v2 Bv2.out) (HLk.out v2 Bv2.out)
        rw [hmd.out] at h
        exact h
      obtain ⟨c0, c1, c2, c3, c4, c5, c6⟩ := K2.out v2 (below_same v2)
      go_upto_region 17 with (go_at_call 10; refine hmay.mono ?_; rintro e v3 ⟨rfl, b3⟩; replace b3 := hd b3)
      clear hmay c0 c1 c2 c3 c4 c5 c6
      have Bv3 : Hid (Below w0.heap.size w0 v3) := hd (Bv2.out.trans (b3.out.mono Bv2.out.size))
      have henc : Calls Tryd.prog 12 #[.agg #[.slice h.la d.labels.length h.lc, .slice h.ta d.table.length h.tc, .int .i64 d.fuel, .int .i64 d.lane, .int .i64 d.locks, .int .i64 d.log, .slice h.pa d.procs.length h.pc]] v3 fun e w' => ∃ a' c', e = .returned (.tuple #[.slice a' bs.length c', .int .i64 0]) ∧ Row w' 5 1 a' bs.length c' (bCells bs) ∧ Below v3.heap.size v3 w' := by
        have h := cenc_ok d h v3 (HO2.out.below b3.out) (HFk.out v3 Bv3.out) (HLk.out v3 Bv3.out) (by rw [hmd.out])
        unfold EncOut at h
        rw [hed.out] at h
        exact h.mono fun e w' ⟨a', c', he, hr, _, hb⟩ => ⟨a', c', he, hr, hb⟩
      obtain ⟨c0, c1, c2, c3, c4, c5, c6⟩ := K2.out v3 b3.out
      go_upto_region 18 with (go_at_call 12; refine henc.mono ?_; rintro e v4 ⟨ya, yc, rfl, hrow, b4⟩; replace hrow := hd hrow; replace b4 := hd b4)
      clear henc c0 c1 c2 c3 c4 c5 c6
      have Bv4 : Hid (Below w0.heap.size w0 v4) := hd (Bv3.out.trans (b4.out.mono Bv3.out.size))
      have s1 := string_rd (w := v4) hrow.out.rd HBy.out (row_zero hrow.out)
      have s2 := string_rd (w := v4) (HRd.out v4 Bv4.out) HBy.out hnone.out
      generalize toU bs = X at s1 s2
      go_wp2_with fail
      go_ret
      exact ⟨rfl, B0.out.trans (Bv4.out.mono B0.out.size)⟩
    · have hdec : Calls Tryd.prog 16 #[.slice a bs.length cap] w6 fun e w' => ∃ h, e = .returned (.tuple #[.agg #[.slice h.la 0 h.lc, .slice h.ta 0 h.tc, .int .i64 0, .int .i64 0, .int .i64 0, .int .i64 0, .slice h.pa 0 h.pc], .int .i64 E1, .int .i64 P1]) ∧ CfO w6.heap.size w' noC h ∧ Below w6.heap.size w6 w' := by
        have h := cdecode_any a cap bs w6 (HRd.out w6 Bw6.out) HBy.out hcap (HFk.out w6 Bw6.out) (HLk.out w6 Bw6.out)
        unfold DecOut at h
        rw [hD] at h
        exact h
      replace hD := hd hD
      have dE : (E1 == 0) = false := by simpa using hE1
      clear hE1
      go_upto_region 14 with (go_at_call 16; refine hdec.mono ?_; rintro e v1 ⟨h, rfl, ho, hb⟩; replace ho := hd ho; replace hb := hd hb)
      clear hdec
      have Bv1 : Hid (Below w0.heap.size w0 v1) := hd (Bw6.out.trans (hb.out.mono Bw6.out.size))
      obtain ⟨v2, hv2⟩ : ∃ W, Hid (v1.alloc (.cells #[.slice h.la 0 h.lc, .slice h.ta 0 h.tc, .int .i64 0, .int .i64 0, .int .i64 0, .int .i64 0, .slice h.pa 0 h.pc] 27) = W) := ⟨_, rfl⟩
      rw [hv2.out]
      have xv2 : Below v1.heap.size v1 v2 := by rw [← hv2.out]; exact below_al v1 _
      have Bv2 : Hid (Below w0.heap.size w0 v2) := hd (Bv1.out.trans (xv2.mono Bv1.out.size))
      have HGe : Hid (v2.heap[v1.heap.size]? = some (.cells #[.slice h.la 0 h.lc, .slice h.ta 0 h.tc, .int .i64 0, .int .i64 0, .int .i64 0, .int .i64 0, .slice h.pa 0 h.pc] 27 (0, 0))) := hd (by rw [← hv2.out]; exact heap_alloc_new v1 _)
      have HO2 : Hid (CfR v2 noC h) := hd (ho.out.rd.below xv2)
      obtain ⟨Ge, hGe⟩ : ∃ G, Hid (v1.heap.size = G) := ⟨_, rfl⟩
      rw [hGe.out] at HGe ⊢
      clear hGe hv2 xv2 ho hb Bv1
      have hsame : Calls Tryd.prog 18 #[.agg #[.slice h.la 0 h.lc, .slice h.ta 0 h.tc, .int .i64 0, .int .i64 0, .int .i64 0, .int .i64 0, .slice h.pa 0 h.pc], .agg #[.slice none 0 0, .slice none 0 0, .int .i64 0, .int .i64 0, .int .i64 0, .int .i64 0, .slice none 0 0]] v2 fun e w' => e = .returned (.bool true) ∧ Below v2.heap.size v2 w' := dsame_yes noC h noL v2 HO2.out (CfO.none 0 v2).rd (by decide) (by decide)
      have c0 := cell_of_row v2 Ge 0 _ _ _ HGe.out
      have c1 := cell_of_row v2 Ge 1 _ _ _ HGe.out
      have c2 := cell_of_row v2 Ge 2 _ _ _ HGe.out
      have c3 := cell_of_row v2 Ge 3 _ _ _ HGe.out
      have c4 := cell_of_row v2 Ge 4 _ _ _ HGe.out
      have c5 := cell_of_row v2 Ge 5 _ _ _ HGe.out
      have c6 := cell_of_row v2 Ge 6 _ _ _ HGe.out
      go_wp2_with (go_at_call 18; refine hsame.mono ?_; rintro e v3 ⟨rfl, b3⟩; replace b3 := hd b3)
      go_ret
      exact ⟨rfl, B0.out.trans ((Bv2.out.trans (b3.out.mono Bv2.out.size)).mono B0.out.size)⟩

  · have henc : Calls Tryd.prog 12 #[.agg #[.slice g.la c.labels.length g.lc, .slice g.ta c.table.length g.tc, .int .i64 c.fuel, .int .i64 c.lane, .int .i64 c.locks, .int .i64 c.log, .slice g.pa c.procs.length g.pc]] w1 fun e w' => e = .returned (.tuple #[.slice none 0 0, .int .i64 (mayC c).1]) ∧ Below w1.heap.size w1 w' := cenc_no c g w1 (HRk.out w1 b1.out) (HFk.out w1 b1.out) (HLk.out w1 b1.out) hm
    have hmy : Hid (∀ W, Below w0.heap.size w0 W → Calls Tryd.prog 10 #[.agg #[.slice g.la c.labels.length g.lc, .slice g.ta c.table.length g.tc, .int .i64 c.fuel, .int .i64 c.lane, .int .i64 c.locks, .int .i64 c.log, .slice g.pa c.procs.length g.pc]] W fun e w' => e = .returned (.tuple #[.int .i64 (mayC c).1, .int .i64 (mayC c).2]) ∧ Below W.heap.size W w') := hd (fun W hW => cmay_any c g W (HRk.out W hW) (HFk.out W hW) (HLk.out W hW))
    generalize mayC c = M at henc hmy hm
    obtain ⟨E0, P0⟩ := M
    simp only at henc hmy hm
    have dE0 : (E0 == 0) = false := by simpa using hm
    clear hm
    obtain ⟨c0, c1, c2, c3, c4, c5, c6⟩ := K0.out w1 b1.out
    go_upto_region 4 with (go_at_call 12; refine henc.mono ?_; rintro e w2 ⟨rfl, b2⟩; replace b2 := hd b2)
    clear henc c0 c1 c2 c3 c4 c5 c6
    have Bw2 : Hid (Below w0.heap.size w0 w2) := hd (b1.out.trans (b2.out.mono b1.out.size))
    have hmay := hmy.out w2 Bw2.out
    obtain ⟨c0, c1, c2, c3, c4, c5, c6⟩ := K0.out w2 Bw2.out
    go_upto_region 5 with (go_at_call 10; refine hmay.mono ?_; rintro e w3 ⟨rfl, b3⟩; replace b3 := hd b3)
    clear hmay hmy c0 c1 c2 c3 c4 c5 c6
    have Bw3 : Hid (Below w0.heap.size w0 w3) := hd (Bw2.out.trans (b3.out.mono Bw2.out.size))
    go_upto_region 13 with fail
    clear b3 b2 Bw2
    rcases decF_cases HBy.out with ⟨d, hD, hmd, hed⟩ | ⟨E1, P1, hD, hE1, hP0, hP1⟩
    · replace hmd := hd hmd
      replace hed := hd hed
      have hdec : Calls Tryd.prog 16 #[.slice a bs.length cap] w3 fun e w' => ∃ h, e = .returned (.tuple #[.agg #[.slice h.la d.labels.length h.lc, .slice h.ta d.table.length h.tc, .int .i64 d.fuel, .int .i64 d.lane, .int .i64 d.locks, .int .i64 d.log, .slice h.pa d.procs.length h.pc], .int .i64 0, .int .i64 0]) ∧ CfO w3.heap.size w' d h ∧ Below w3.heap.size w3 w' := by
        have h := cdecode_any a cap bs w3 (HRd.out w3 Bw3.out) HBy.out hcap (HFk.out w3 Bw3.out) (HLk.out w3 Bw3.out)
        unfold DecOut at h
        rw [hD] at h
        exact h
      replace hD := hd hD
      go_upto_region 14 with (go_at_call 16; refine hdec.mono ?_; rintro e v1 ⟨h, rfl, ho, hb⟩; replace ho := hd ho; replace hb := hd hb)
      clear hdec
      have Bv1 : Hid (Below w0.heap.size w0 v1) := hd (Bw3.out.trans (hb.out.mono Bw3.out.size))
      obtain ⟨v2, hv2⟩ : ∃ W, Hid (v1.alloc (.cells #[.slice h.la d.labels.length h.lc, .slice h.ta d.table.length h.tc, .int .i64 d.fuel, .int .i64 d.lane, .int .i64 d.locks, .int .i64 d.log, .slice h.pa d.procs.length h.pc] 27) = W) := ⟨_, rfl⟩
      rw [hv2.out]
      have xv2 : Below v1.heap.size v1 v2 := by rw [← hv2.out]; exact below_al v1 _
      have Bv2 : Hid (Below w0.heap.size w0 v2) := hd (Bv1.out.trans (xv2.mono Bv1.out.size))
      have HGe : Hid (v2.heap[v1.heap.size]? = some (.cells #[.slice h.la d.labels.length h.lc, .slice h.ta d.table.length h.tc, .int .i64 d.fuel, .int .i64 d.lane, .int .i64 d.locks, .int .i64 d.log, .slice h.pa d.procs.length h.pc] 27 (0, 0))) := hd (by rw [← hv2.out]; exact heap_alloc_new v1 _)
      have HO2 : Hid (CfR v2 d h) := hd (ho.out.rd.below xv2)
      obtain ⟨Ge, hGe⟩ : ∃ G, Hid (v1.heap.size = G) := ⟨_, rfl⟩
      rw [hGe.out] at HGe ⊢
      clear hGe hv2 xv2 ho hb Bv1
      have K2 : Hid (∀ W, Below v2.heap.size v2 W → W.cell? ⟨Ge, 0, none⟩ = some (.slice h.la d.labels.length h.lc) ∧ W.cell? ⟨Ge, 1, none⟩ = some (.slice h.ta d.table.length h.tc) ∧ W.cell? ⟨Ge, 2, none⟩ = some (.int .i64 d.fuel) ∧ W.cell? ⟨Ge, 3, none⟩ = some (.int .i64 d.lane) ∧ W.cell? ⟨Ge, 4, none⟩ = some (.int .i64 d.locks) ∧ W.cell? ⟨Ge, 5, none⟩ = some (.int .i64 d.log) ∧ W.cell? ⟨Ge, 6, none⟩ = some (.slice h.pa d.procs.length h.pc)) := hd (fun W hW => by
        have h : W.heap[Ge]? = _ := (hW.block Ge (Array.getElem?_eq_some_iff.1 HGe.out).1).trans HGe.out
        exact ⟨cell_of_row W Ge 0 _ _ _ h, cell_of_row W Ge 1 _ _ _ h, cell_of_row W Ge 2 _ _ _ h, cell_of_row W Ge 3 _ _ _ h, cell_of_row W Ge 4 _ _ _ h, cell_of_row W Ge 5 _ _ _ h, cell_of_row W Ge 6 _ _ _ h⟩)
      have hmay : Calls Tryd.prog 10 #[.agg #[.slice h.la d.labels.length h.lc, .slice h.ta d.table.length h.tc, .int .i64 d.fuel, .int .i64 d.lane, .int .i64 d.locks, .int .i64 d.log, .slice h.pa d.procs.length h.pc]] v2 fun e w' => e = .returned (.tuple #[.int .i64 0, .int .i64 0]) ∧ Below v2.heap.size v2 w' := by
        have h := cmay_any d h v2 HO2.out (HFk.out v2 Bv2.out) (HLk.out v2 Bv2.out)
        rw [hmd.out] at h
        exact h
      obtain ⟨c0, c1, c2, c3, c4, c5, c6⟩ := K2.out v2 (below_same v2)
      go_upto_region 17 with (go_at_call 10; refine hmay.mono ?_; rintro e v3 ⟨rfl, b3⟩; replace b3 := hd b3)
      clear hmay c0 c1 c2 c3 c4 c5 c6
      have Bv3 : Hid (Below w0.heap.size w0 v3) := hd (Bv2.out.trans (b3.out.mono Bv2.out.size))
      have henc : Calls Tryd.prog 12 #[.agg #[.slice h.la d.labels.length h.lc, .slice h.ta d.table.length h.tc, .int .i64 d.fuel, .int .i64 d.lane, .int .i64 d.locks, .int .i64 d.log, .slice h.pa d.procs.length h.pc]] v3 fun e w' => ∃ a' c', e = .returned (.tuple #[.slice a' bs.length c', .int .i64 0]) ∧ Row w' 5 1 a' bs.length c' (bCells bs) ∧ Below v3.heap.size v3 w' := by
        have h := cenc_ok d h v3 (HO2.out.below b3.out) (HFk.out v3 Bv3.out) (HLk.out v3 Bv3.out) (by rw [hmd.out])
        unfold EncOut at h
        rw [hed.out] at h
        exact h.mono fun e w' ⟨a', c', he, hr, _, hb⟩ => ⟨a', c', he, hr, hb⟩
      obtain ⟨c0, c1, c2, c3, c4, c5, c6⟩ := K2.out v3 b3.out
      go_upto_region 18 with (go_at_call 12; refine henc.mono ?_; rintro e v4 ⟨ya, yc, rfl, hrow, b4⟩; replace hrow := hd hrow; replace b4 := hd b4)
      clear henc c0 c1 c2 c3 c4 c5 c6
      have Bv4 : Hid (Below w0.heap.size w0 v4) := hd (Bv3.out.trans (b4.out.mono Bv3.out.size))
      have s1 := string_rd (w := v4) hrow.out.rd HBy.out (row_zero hrow.out)
      have s2 := string_rd (w := v4) (HRd.out v4 Bv4.out) HBy.out hnone.out
      generalize toU bs = X at s1 s2
      go_wp2_with fail
      go_ret
      exact ⟨rfl, B0.out.trans (Bv4.out.mono B0.out.size)⟩
    · have hdec : Calls Tryd.prog 16 #[.slice a bs.length cap] w3 fun e w' => ∃ h, e = .returned (.tuple #[.agg #[.slice h.la 0 h.lc, .slice h.ta 0 h.tc, .int .i64 0, .int .i64 0, .int .i64 0, .int .i64 0, .slice h.pa 0 h.pc], .int .i64 E1, .int .i64 P1]) ∧ CfO w3.heap.size w' noC h ∧ Below w3.heap.size w3 w' := by
        have h := cdecode_any a cap bs w3 (HRd.out w3 Bw3.out) HBy.out hcap (HFk.out w3 Bw3.out) (HLk.out w3 Bw3.out)
        unfold DecOut at h
        rw [hD] at h
        exact h
      replace hD := hd hD
      have dE : (E1 == 0) = false := by simpa using hE1
      clear hE1
      go_upto_region 14 with (go_at_call 16; refine hdec.mono ?_; rintro e v1 ⟨h, rfl, ho, hb⟩; replace ho := hd ho; replace hb := hd hb)
      clear hdec
      have Bv1 : Hid (Below w0.heap.size w0 v1) := hd (Bw3.out.trans (hb.out.mono Bw3.out.size))
      obtain ⟨v2, hv2⟩ : ∃ W, Hid (v1.alloc (.cells #[.slice h.la 0 h.lc, .slice h.ta 0 h.tc, .int .i64 0, .int .i64 0, .int .i64 0, .int .i64 0, .slice h.pa 0 h.pc] 27) = W) := ⟨_, rfl⟩
      rw [hv2.out]
      have xv2 : Below v1.heap.size v1 v2 := by rw [← hv2.out]; exact below_al v1 _
      have Bv2 : Hid (Below w0.heap.size w0 v2) := hd (Bv1.out.trans (xv2.mono Bv1.out.size))
      have HGe : Hid (v2.heap[v1.heap.size]? = some (.cells #[.slice h.la 0 h.lc, .slice h.ta 0 h.tc, .int .i64 0, .int .i64 0, .int .i64 0, .int .i64 0, .slice h.pa 0 h.pc] 27 (0, 0))) := hd (by rw [← hv2.out]; exact heap_alloc_new v1 _)
      have HO2 : Hid (CfR v2 noC h) := hd (ho.out.rd.below xv2)
      obtain ⟨Ge, hGe⟩ : ∃ G, Hid (v1.heap.size = G) := ⟨_, rfl⟩
      rw [hGe.out] at HGe ⊢
      clear hGe hv2 xv2 ho hb Bv1
      have hsame : Calls Tryd.prog 18 #[.agg #[.slice h.la 0 h.lc, .slice h.ta 0 h.tc, .int .i64 0, .int .i64 0, .int .i64 0, .int .i64 0, .slice h.pa 0 h.pc], .agg #[.slice none 0 0, .slice none 0 0, .int .i64 0, .int .i64 0, .int .i64 0, .int .i64 0, .slice none 0 0]] v2 fun e w' => e = .returned (.bool true) ∧ Below v2.heap.size v2 w' := dsame_yes noC h noL v2 HO2.out (CfO.none 0 v2).rd (by decide) (by decide)
      have c0 := cell_of_row v2 Ge 0 _ _ _ HGe.out
      have c1 := cell_of_row v2 Ge 1 _ _ _ HGe.out
      have c2 := cell_of_row v2 Ge 2 _ _ _ HGe.out
      have c3 := cell_of_row v2 Ge 3 _ _ _ HGe.out
      have c4 := cell_of_row v2 Ge 4 _ _ _ HGe.out
      have c5 := cell_of_row v2 Ge 5 _ _ _ HGe.out
      have c6 := cell_of_row v2 Ge 6 _ _ _ HGe.out
      go_wp2_with (go_at_call 18; refine hsame.mono ?_; rintro e v3 ⟨rfl, b3⟩; replace b3 := hd b3)
      go_ret
      exact ⟨rfl, B0.out.trans ((Bv2.out.trans (b3.out.mono Bv2.out.size)).mono B0.out.size)⟩

end Go.Proofs.YtmjokinagbpihaaDoor
