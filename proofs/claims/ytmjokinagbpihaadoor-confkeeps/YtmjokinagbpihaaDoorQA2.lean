/- Some answers that the document fixes. -/
import Derived.Test.YtmjokinagbpihaaDoorQA1
namespace Go.Proofs.YtmjokinagbpihaaDoor
open Go.RowKit

def smC0 : Cfg := ⟨[0, 1], [0, 1], 0, 1, 1, 4, [⟨1, [smI]⟩]⟩
theorem sm_good : Good smC := ⟨by decide, fun p hp x hx => by
  simp only [smC, List.mem_cons, List.not_mem_nil, or_false] at hp
  subst hp
  simp only [List.mem_cons, List.not_mem_nil, or_false] at hx
  subst hx
  exact ⟨by decide, by decide⟩⟩
theorem sm_may : mayC smC = (0, 0) := by decide +kernel
theorem sm_may0 : mayC smC0 = (2, 2) := by decide +kernel
theorem sm_len : (encC smC).length = 47 := by decide +kernel
theorem sm_dec : decF (encC smC) = (smC, 0, 0) := by
  unfold decF
  rw [decC_enc smC sm_good (by rw [sm_may])]
theorem sm_bad : (decF [70, 66, 67, 70, 2]).2 = (4, 4) := by decide +kernel
theorem sm_badC : decF [70, 66, 67, 70, 2] = (noC, 4, 4) := rfl
theorem sm_skel : skB smC smC0 = false := by decide +kernel
theorem sm_byte (bs : List Nat) (h : bs.all (fun b => decide (b < 256)) = true) : Byte bs := byte_of_mem (fun y hy => by simpa using List.all_eq_true.1 h y hy)

theorem CfR.other {W : World} {B G : Nat} {c : Cfg} {g : Loc} (h : CfO B W c g) (hG : ∀ d ∈ cfD c g, ∀ k, blk d.a = some k → k ≠ G) (i : Nat) (v : Value) : CfO B (W.setCell ⟨G, i, none⟩ v) c g := ⟨h.own.other hG i v, h.ps⟩


theorem small_v (w : World) : Calls Tryd.prog 25 #[] w fun e w' => ∃ g : Loc, e = .returned (.agg #[.slice g.la 2 g.lc, .slice g.ta 2 g.tc, .int .i64 2, .int .i64 1, .int .i64 1, .int .i64 4, .slice g.pa 1 g.pc]) ∧ CfO w.heap.size w' smC g ∧ Below w.heap.size w w' := small_cfg w

theorem dsame_v (g h : Loc) (w : World) (hR : CfR w smC g) (hS : CfR w smC h) : Calls Tryd.prog 18 #[.agg #[.slice g.la 2 g.lc, .slice g.ta 2 g.tc, .int .i64 2, .int .i64 1, .int .i64 1, .int .i64 4, .slice g.pa 1 g.pc], .agg #[.slice h.la 2 h.lc, .slice h.ta 2 h.tc, .int .i64 2, .int .i64 1, .int .i64 1, .int .i64 4, .slice h.pa 1 h.pc]] w fun e w' => e = .returned (.bool true) ∧ Below w.heap.size w w' := dsame_yes smC g h w hR hS (by decide) (by decide)
theorem skel_v (g h : Loc) (w : World) (hR : CfR w smC g) (hS : CfR w smC h) : Calls Tryd.prog 14 #[.agg #[.slice g.la 2 g.lc, .slice g.ta 2 g.tc, .int .i64 2, .int .i64 1, .int .i64 1, .int .i64 4, .slice g.pa 1 g.pc], .agg #[.slice h.la 2 h.lc, .slice h.ta 2 h.tc, .int .i64 2, .int .i64 1, .int .i64 1, .int .i64 4, .slice h.pa 1 h.pc]] w fun e w' => e = .returned (.bool true) ∧ Below w.heap.size w w' := by
  have h := skel_any smC smC g h w hR hS (by decide)
  rw [show skB smC smC = true by decide +kernel] at h
  exact h
theorem skel_v0 (g h : Loc) (w : World) (hR : CfR w smC g) (hS : CfR w smC0 h) : Calls Tryd.prog 14 #[.agg #[.slice g.la 2 g.lc, .slice g.ta 2 g.tc, .int .i64 2, .int .i64 1, .int .i64 1, .int .i64 4, .slice g.pa 1 g.pc], .agg #[.slice h.la 2 h.lc, .slice h.ta 2 h.tc, .int .i64 0, .int .i64 1, .int .i64 1, .int .i64 4, .slice h.pa 1 h.pc]] w fun e w' => e = .returned (.bool false) ∧ Below w.heap.size w w' := by
  have h := skel_any smC smC0 g h w hR hS (by decide)
  rw [sm_skel] at h
  exact h

set_option maxRecDepth 100000 in
set_option maxHeartbeats 8000000 in
theorem awake_any (w : World) (hF : Fld w) (hL : Lim w) :
    Calls Tryd.prog 9 #[] w fun e w' => e = .returned (.bool true) ∧ Below w.heap.size w w' := by
  have HF := hd hF
  have HL := hd hL
  clear hF hL
  have h1 := small_v w
  go_enter Tryd.func9, Tryd.ntmps9
  go_upto_region 2 with (go_at_call 25; refine h1.mono ?_; rintro e w1 ⟨g, rfl, ho1, hb1⟩; replace ho1 := hd ho1; replace hb1 := hd hb1)
  clear h1
  obtain ⟨w2, hw2⟩ : ∃ W, Hid (w1.alloc (.cells #[.slice g.la 2 g.lc, .slice g.ta 2 g.tc, .int .i64 2, .int .i64 1, .int .i64 1, .int .i64 4, .slice g.pa 1 g.pc] 27) = W) := ⟨_, rfl⟩
  rw [hw2.out]
  have b2 : Below w1.heap.size w1 w2 := by rw [← hw2.out]; exact below_al w1 _
  have HGc : Hid (w2.heap[w1.heap.size]? = some (.cells #[.slice g.la 2 g.lc, .slice g.ta 2 g.tc, .int .i64 2, .int .i64 1, .int .i64 1, .int .i64 4, .slice g.pa 1 g.pc] 27 (0, 0))) := hd (by rw [← hw2.out]; exact heap_alloc_new w1 _)
  have HO : Hid (CfO w.heap.size w2 smC g) := hd (ho1.out.below b2)
  have HLt : Hid (∀ d ∈ cfD smC g, ∀ k, blk d.a = some k → k < w1.heap.size) := hd ho1.out.own.lt
  have HB : Hid (Below w.heap.size w w2) := hd (hb1.out.trans (b2.mono hb1.out.size))
  have hGc0 : w.heap.size ≤ w1.heap.size := hb1.out.size
  obtain ⟨Gc, hGc⟩ : ∃ G, Hid (w1.heap.size = G) := ⟨_, rfl⟩
  rw [hGc.out] at HGc HLt hGc0 ⊢
  clear hw2 b2 ho1 hb1 hGc
  have K2 : Hid (∀ W, Below w2.heap.size w2 W → W.heap[Gc]? = some (.cells #[.slice g.la 2 g.lc, .slice g.ta 2 g.tc, .int .i64 2, .int .i64 1, .int .i64 1, .int .i64 4, .slice g.pa 1 g.pc] 27 (0, 0)) ∧ (W.cell? ⟨Gc, 0, none⟩ = some (.slice g.la 2 g.lc) ∧ W.cell? ⟨Gc, 1, none⟩ = some (.slice g.ta 2 g.tc) ∧ W.cell? ⟨Gc, 2, none⟩ = some (.int .i64 2) ∧ W.cell? ⟨Gc, 3, none⟩ = some (.int .i64 1) ∧ W.cell? ⟨Gc, 4, none⟩ = some (.int .i64 1) ∧ W.cell? ⟨Gc, 5, none⟩ = some (.int .i64 4) ∧ W.cell? ⟨Gc, 6, none⟩ = some (.slice g.pa 1 g.pc))) := hd (fun W hW => by
    have h : W.heap[Gc]? = some (.cells #[.slice g.la 2 g.lc, .slice g.ta 2 g.tc, .int .i64 2, .int .i64 1, .int .i64 1, .int .i64 4, .slice g.pa 1 g.pc] 27 (0, 0)) := (hW.block Gc (Array.getElem?_eq_some_iff.1 HGc.out).1).trans HGc.out
    exact ⟨h, cell_of_row W Gc 0 _ _ _ h, cell_of_row W Gc 1 _ _ _ h, cell_of_row W Gc 2 _ _ _ h, cell_of_row W Gc 3 _ _ _ h, cell_of_row W Gc 4 _ _ _ h, cell_of_row W Gc 5 _ _ _ h, cell_of_row W Gc 6 _ _ _ h⟩)
  have hmay : Calls Tryd.prog 10 #[.agg #[.slice g.la 2 g.lc, .slice g.ta 2 g.tc, .int .i64 2, .int .i64 1, .int .i64 1, .int .i64 4, .slice g.pa 1 g.pc]] w2 fun e w' => e = .returned (.tuple #[.int .i64 0, .int .i64 0]) ∧ Below w2.heap.size w2 w' := by
    have h := cmay_any smC g w2 HO.out.rd (HF.out.kept HB.out) (HL.out.kept HB.out)
    rw [sm_may] at h
    exact h
  obtain ⟨-, c0, c1, c2, c3, c4, c5, c6⟩ := K2.out w2 (below_same w2)
  go_upto_region 3 with (go_at_call 10; refine hmay.mono ?_; rintro e w3 ⟨rfl, b3⟩; replace b3 := hd b3)
  clear hmay c0 c1 c2 c3 c4 c5 c6
  have henc : Calls Tryd.prog 12 #[.agg #[.slice g.la 2 g.lc, .slice g.ta 2 g.tc, .int .i64 2, .int .i64 1, .int .i64 1, .int .i64 4, .slice g.pa 1 g.pc]] w3 (EncOut w3 smC) := cenc_ok smC g w3 (HO.out.rd.below b3.out) ((HF.out.kept HB.out).kept b3.out) ((HL.out.kept HB.out).kept b3.out) (by rw [sm_may])
  obtain ⟨-, c0, c1, c2, c3, c4, c5, c6⟩ := K2.out w3 b3.out
  go_upto_region 4 with (go_at_call 12; refine henc.mono ?_; rintro e w4 ⟨ea, ec, rfl, hrow, hnew, b4⟩; rw [sm_len]; replace hrow := hd hrow; replace hnew := hd hnew; replace b4 := hd b4)
  clear henc c0 c1 c2 c3 c4 c5 c6
  have B4 : Hid (Below w2.heap.size w2 w4) := hd (b3.out.trans (b4.out.mono b3.out.size))
  have hdec : Calls Tryd.prog 16 #[.slice ea 47 ec] w4 fun e w' => ∃ g5 : Loc, e = .returned (.tuple #[.agg #[.slice g5.la 2 g5.lc, .slice g5.ta 2 g5.tc, .int .i64 2, .int .i64 1, .int .i64 1, .int .i64 4, .slice g5.pa 1 g5.pc], .int .i64 0, .int .i64 0]) ∧ CfO w4.heap.size w' smC g5 ∧ Below w4.heap.size w4 w' := by
    have h := cdecode_any ea ec (encC smC) w4 hrow.out.rd (enc_byte smC) hrow.out.capLe ((HF.out.kept HB.out).kept B4.out) ((HL.out.kept HB.out).kept B4.out)
    unfold DecOut at h
    rw [sm_dec, sm_len] at h
    exact h
  clear b3 b4 hnew hrow
  go_upto_region 5 with (go_at_call 16; refine hdec.mono ?_; rintro e w5 ⟨g5, rfl, ho5, b5⟩; replace ho5 := hd ho5; replace b5 := hd b5)
  clear hdec
  obtain ⟨w6, hw6⟩ : ∃ W, Hid (w5.alloc (.cells #[.slice g5.la 2 g5.lc, .slice g5.ta 2 g5.tc, .int .i64 2, .int .i64 1, .int .i64 1, .int .i64 4, .slice g5.pa 1 g5.pc] 27) = W) := ⟨_, rfl⟩
  rw [hw6.out]
  have b6 : Below w5.heap.size w5 w6 := by rw [← hw6.out]; exact below_al w5 _
  have HGd : Hid (w6.heap[w5.heap.size]? = some (.cells #[.slice g5.la 2 g5.lc, .slice g5.ta 2 g5.tc, .int .i64 2, .int .i64 1, .int .i64 1, .int .i64 4, .slice g5.pa 1 g5.pc] 27 (0, 0))) := hd (by rw [← hw6.out]; exact heap_alloc_new w5 _)
  have B6 : Hid (Below w2.heap.size w2 w6) := hd (B4.out.trans ((b5.out.trans (b6.mono b5.out.size)).mono B4.out.size))
  have HO5 : Hid (CfO w4.heap.size w6 smC g5) := hd (ho5.out.below b6)
  have hlt2 : Gc < w2.heap.size := (Array.getElem?_eq_some_iff.1 HGc.out).1
  have hlt4 : w2.heap.size ≤ w4.heap.size := B4.out.size
  have hlt5 : w4.heap.size ≤ w5.heap.size := b5.out.size
  obtain ⟨Gd, hGd⟩ : ∃ G, Hid (w5.heap.size = G) := ⟨_, rfl⟩
  rw [hGd.out] at HGd hlt5 ⊢
  clear hw6 b6 hGd ho5 b5 B4
  obtain ⟨hc6, c0, c1, c2, c3, c4, c5, c6⟩ := K2.out w6 B6.out
  replace hc6 := hd hc6
  have fz : w6.frozen? ⟨Gc, 2, none⟩ = false := by simp [World.frozen?, hc6.out]
  go_upto_region 6 with fail
  clear c0 c1 c2 c3 c4 c5 c6 fz
  obtain ⟨w7, hw7⟩ : ∃ W, Hid (w6.setCell ⟨Gc, 2, none⟩ (.int .i64 0) = W) := ⟨_, rfl⟩
  rw [hw7.out]
  have HGc7 : Hid (w7.heap[Gc]? = some (.cells #[.slice g.la 2 g.lc, .slice g.ta 2 g.tc, .int .i64 0, .int .i64 1, .int .i64 1, .int .i64 4, .slice g.pa 1 g.pc] 27 (0, 0))) := hd (by rw [← hw7.out]; exact heap_setCell_same w6 Gc 2 _ _ _ hc6.out)
  have HGd7 : Hid (w7.heap[Gd]? = some (.cells #[.slice g5.la 2 g5.lc, .slice g5.ta 2 g5.tc, .int .i64 2, .int .i64 1, .int .i64 1, .int .i64 4, .slice g5.pa 1 g5.pc] 27 (0, 0))) := hd (by rw [← hw7.out, Below.heap_setCell _ _ _ _ (by simp only; omega)]; exact HGd.out)
  have HO7 : Hid (CfO w.heap.size w7 smC g) := hd (by
    rw [← hw7.out]
    exact CfR.other (HO.out.below B6.out) (fun d hd k hk => Nat.ne_of_lt (HLt.out d hd k hk)) 2 _)
  have HO57 : Hid (CfO w4.heap.size w7 smC g5) := hd (by
    rw [← hw7.out]
    exact CfR.other HO5.out (fun d hd k hk => by have := HO5.out.own.new d hd k hk; omega) 2 _)
  have B7 : Hid (Below w.heap.size w w7) := hd (by
    have h1 : Below w.heap.size w w6 := HB.out.trans (B6.out.mono HB.out.size)
    rw [← hw7.out]
    exact h1.trans (((Mod.refl (fun k => k = Gc) w6).setCell (.inl rfl) _).below (B := w.heap.size) h1.size (fun k _ hk => by omega)))
  clear hw7 hc6 HGd HO5 HO K2 HLt HGc B6 HB
  have HR70 : Hid (CfR w7 smC0 g) := hd ⟨HO7.out.rd.lab, HO7.out.rd.tab, HO7.out.rd.prs, HO7.out.rd.cod, HO7.out.rd.ps⟩
  have K7 : Hid (∀ W, Below w7.heap.size w7 W → (W.cell? ⟨Gc, 0, none⟩ = some (.slice g.la 2 g.lc) ∧ W.cell? ⟨Gc, 1, none⟩ = some (.slice g.ta 2 g.tc) ∧ W.cell? ⟨Gc, 2, none⟩ = some (.int .i64 0) ∧ W.cell? ⟨Gc, 3, none⟩ = some (.int .i64 1) ∧ W.cell? ⟨Gc, 4, none⟩ = some (.int .i64 1) ∧ W.cell? ⟨Gc, 5, none⟩ = some (.int .i64 4) ∧ W.cell? ⟨Gc, 6, none⟩ = some (.slice g.pa 1 g.pc)) ∧ (W.cell? ⟨Gd, 0, none⟩ = some (.slice g5.la 2 g5.lc) ∧ W.cell? ⟨Gd, 1, none⟩ = some (.slice g5.ta 2 g5.tc) ∧ W.cell? ⟨Gd, 2, none⟩ = some (.int .i64 2) ∧ W.cell? ⟨Gd, 3, none⟩ = some (.int .i64 1) ∧ W.cell? ⟨Gd, 4, none⟩ = some (.int .i64 1) ∧ W.cell? ⟨Gd, 5, none⟩ = some (.int .i64 4) ∧ W.cell? ⟨Gd, 6, none⟩ = some (.slice g5.pa 1 g5.pc))) := hd (fun W hW => by
    have h : W.heap[Gc]? = _ := (hW.block Gc (Array.getElem?_eq_some_iff.1 HGc7.out).1).trans HGc7.out
    have h' : W.heap[Gd]? = _ := (hW.block Gd (Array.getElem?_eq_some_iff.1 HGd7.out).1).trans HGd7.out
    exact ⟨⟨cell_of_row W Gc 0 _ _ _ h, cell_of_row W Gc 1 _ _ _ h, cell_of_row W Gc 2 _ _ _ h, cell_of_row W Gc 3 _ _ _ h, cell_of_row W Gc 4 _ _ _ h, cell_of_row W Gc 5 _ _ _ h, cell_of_row W Gc 6 _ _ _ h⟩, ⟨cell_of_row W Gd 0 _ _ _ h', cell_of_row W Gd 1 _ _ _ h', cell_of_row W Gd 2 _ _ _ h', cell_of_row W Gd 3 _ _ _ h', cell_of_row W Gd 4 _ _ _ h', cell_of_row W Gd 5 _ _ _ h', cell_of_row W Gd 6 _ _ _ h'⟩⟩)
  have hmay : Calls Tryd.prog 10 #[.agg #[.slice g.la 2 g.lc, .slice g.ta 2 g.tc, .int .i64 0, .int .i64 1, .int .i64 1, .int .i64 4, .slice g.pa 1 g.pc]] w7 fun e w' => e = .returned (.tuple #[.int .i64 2, .int .i64 2]) ∧ Below w7.heap.size w7 w' := by
    have h := cmay_any smC0 g w7 HR70.out (HF.out.kept B7.out) (HL.out.kept B7.out)
    rw [sm_may0] at h
    exact h
  obtain ⟨⟨c0, c1, c2, c3, c4, c5, c6⟩, -⟩ := K7.out w7 (below_same w7)
  go_upto_region 7 with (go_at_call 10; refine hmay.mono ?_; rintro e w8 ⟨rfl, b8⟩; replace b8 := hd b8)
  clear hmay c0 c1 c2 c3 c4 c5 c6
  have hcv := Lib.run_convert_bytes_const (P := Tryd.prog) w8 31 5 #[.int .u8 70, .int .u8 66, .int .u8 67, .int .u8 70, .int .u8 2] 5 5 Tryd.underlying31 Tryd.underlying5
  obtain ⟨w9, hw9⟩ : ∃ W, Hid (w8.alloc (.cells #[.int .u8 70, .int .u8 66, .int .u8 67, .int .u8 70, .int .u8 2] 5 (5, 6)) = W) := ⟨_, rfl⟩
  replace hcv : (convert 31 31 (.slice (some ⟨w8.heap.size, 0, none⟩) 5 5)).run Tryd.prog (w8.alloc (.cells #[.int .u8 70, .int .u8 66, .int .u8 67, .int .u8 70, .int .u8 2] 5)) = .ok (.slice (some ⟨w8.heap.size, 0, none⟩) 5 5) w9 := by rw [← hw9.out]; exact hcv
  have b9 : Hid (Below w7.heap.size w7 w9) := hd (b8.out.trans (by rw [← hw9.out]; exact (below_al w8 _).mono b8.out.size))
  have hdec : Calls Tryd.prog 16 #[.slice (some ⟨w8.heap.size, 0, none⟩) 5 5] w9 fun e w' => ∃ g9 : Loc, e = .returned (.tuple #[.agg #[.slice g9.la 0 g9.lc, .slice g9.ta 0 g9.tc, .int .i64 0, .int .i64 0, .int .i64 0, .int .i64 0, .slice g9.pa 0 g9.pc], .int .i64 4, .int .i64 4]) ∧ Below w9.heap.size w9 w' := by
    have hrd : Rd w9 (some ⟨w8.heap.size, 0, none⟩) (bCells [70, 66, 67, 70, 2]) := fun j u hj => ⟨_, 0, rfl, by
      rw [← hw9.out, Nat.zero_add, cell_of_row _ _ _ _ _ _ (heap_alloc_new w8 _)]
      simpa [bCells] using hj⟩
    have h := cdecode_any (some ⟨w8.heap.size, 0, none⟩) 5 [70, 66, 67, 70, 2] w9 hrd (sm_byte _ (by decide)) (by decide) ((HF.out.kept B7.out).kept b9.out) ((HL.out.kept B7.out).kept b9.out)
    unfold DecOut at h
    rw [sm_badC] at h
    exact h.mono fun e w' ⟨g9, he, _, hb⟩ => ⟨g9, he, hb⟩
  go_upto_region 8 with (go_at_call 16; refine hdec.mono ?_; rintro e w10 ⟨g9, rfl, b10⟩; replace b10 := hd b10)
  clear hdec hcv
  obtain ⟨w11, hw11⟩ : ∃ W, Hid (w10.alloc (.cells #[.slice g9.la 0 g9.lc, .slice g9.ta 0 g9.tc, .int .i64 0, .int .i64 0, .int .i64 0, .int .i64 0, .slice g9.pa 0 g9.pc] 27) = W) := ⟨_, rfl⟩
  rw [hw11.out]
  have b11 : Hid (Below w7.heap.size w7 w11.drew) := hd (b9.out.trans ((b10.out.trans (by rw [← hw11.out]; exact ((below_al w10 _).trans ((below_draw _ 1).mono (by simp))).mono b10.out.size)).mono b9.out.size))
  obtain ⟨⟨c0, c1, c2, c3, c4, c5, c6⟩, ⟨d0, d1, d2, d3, d4, d5, d6⟩⟩ := K7.out w11.drew b11.out
  have m1 : Hid True := hd trivial
  have m2 : Hid True := hd trivial
  have m3 : Hid True := hd trivial
  have m4 : Hid True := hd trivial
  have m5 : Hid True := hd trivial
  have hlen3 : (smC.labels.length ≤ 9223372036854775807 ∧ smC.table.length ≤ 9223372036854775807 ∧ smC.procs.length ≤ 9223372036854775807) := by decide
  replace hlen3 := hd hlen3
  have hcod : Hid (∀ p ∈ smC.procs, p.code.length ≤ 2000000) := hd (by decide)
  clear hw11 b9 b8 b10
  go_region_held3 (fun w' => (w'.cell? ⟨Gc, 0, none⟩ = some (.slice g.la 2 g.lc) ∧ w'.cell? ⟨Gc, 1, none⟩ = some (.slice g.ta 2 g.tc) ∧ w'.cell? ⟨Gc, 2, none⟩ = some (.int .i64 0) ∧ w'.cell? ⟨Gc, 3, none⟩ = some (.int .i64 1) ∧ w'.cell? ⟨Gc, 4, none⟩ = some (.int .i64 1) ∧ w'.cell? ⟨Gc, 5, none⟩ = some (.int .i64 4) ∧ w'.cell? ⟨Gc, 6, none⟩ = some (.slice g.pa 1 g.pc)) ∧ (w'.cell? ⟨Gd, 0, none⟩ = some (.slice g5.la 2 g5.lc) ∧ w'.cell? ⟨Gd, 1, none⟩ = some (.slice g5.ta 2 g5.tc) ∧ w'.cell? ⟨Gd, 2, none⟩ = some (.int .i64 2) ∧ w'.cell? ⟨Gd, 3, none⟩ = some (.int .i64 1) ∧ w'.cell? ⟨Gd, 4, none⟩ = some (.int .i64 1) ∧ w'.cell? ⟨Gd, 5, none⟩ = some (.int .i64 4) ∧ w'.cell? ⟨Gd, 6, none⟩ = some (.slice g5.pa 1 g5.pc))) (go_keep)
    (first
      | (go_at_call 25; clear m1; with_reducible refine (small_v _).mono ?_; rintro e k1 ⟨g11, rfl, ho1, hb1⟩; replace ho1 := hd ho1; have bk1 : Hid (Below w7.heap.size w7 k1) := hd (b11.out.trans (hb1.mono b11.out.size)); clear hb1; obtain ⟨⟨c0, c1, c2, c3, c4, c5, c6⟩, ⟨d0, d1, d2, d3, d4, d5, d6⟩⟩ := K7.out k1 bk1.out)
      | (go_at_call 18; with_reducible refine (dsame_v g5 g11 k1 (HO57.out.rd.below bk1.out) ho1.out.rd).mono ?_; rintro e k2 ⟨rfl, hb2⟩; have bk2 : Hid (Below w7.heap.size w7 k2) := hd (bk1.out.trans (hb2.mono bk1.out.size)); clear hb2; obtain ⟨⟨c0, c1, c2, c3, c4, c5, c6⟩, ⟨d0, d1, d2, d3, d4, d5, d6⟩⟩ := K7.out k2 bk2.out)
      | (go_at_call 25; clear m2; with_reducible refine (small_v _).mono ?_; rintro e k3 ⟨g13, rfl, ho3, hb3⟩; replace ho3 := hd ho3; have bk3 : Hid (Below w7.heap.size w7 k3) := hd (bk2.out.trans (hb3.mono bk2.out.size)); clear hb3; obtain ⟨⟨c0, c1, c2, c3, c4, c5, c6⟩, ⟨d0, d1, d2, d3, d4, d5, d6⟩⟩ := K7.out k3 bk3.out)
      | (go_at_call 25; clear m3; with_reducible refine (small_v _).mono ?_; rintro e k4 ⟨g14, rfl, ho4, hb4⟩; have hb34 := hd hb4; replace ho4 := hd ho4; have bk4 : Hid (Below w7.heap.size w7 k4) := hd (bk3.out.trans (hb4.mono bk3.out.size)); clear hb4; obtain ⟨⟨c0, c1, c2, c3, c4, c5, c6⟩, ⟨d0, d1, d2, d3, d4, d5, d6⟩⟩ := K7.out k4 bk4.out)
      | (go_at_call 14; clear m5; with_reducible refine (skel_v g13 g14 k4 (ho3.out.rd.below hb34.out) ho4.out.rd).mono ?_; rintro e k5 ⟨rfl, hb5⟩; have bk5 : Hid (Below w7.heap.size w7 k5) := hd (bk4.out.trans (hb5.mono bk4.out.size)); clear hb5; obtain ⟨⟨c0, c1, c2, c3, c4, c5, c6⟩, ⟨d0, d1, d2, d3, d4, d5, d6⟩⟩ := K7.out k5 bk5.out)
      | (go_at_call 25; clear m4; with_reducible refine (small_v _).mono ?_; rintro e k6 ⟨g16, rfl, ho6, hb6⟩; replace ho6 := hd ho6; have bk6 : Hid (Below w7.heap.size w7 k6) := hd (bk5.out.trans (hb6.mono bk5.out.size)); clear hb6; obtain ⟨⟨c0, c1, c2, c3, c4, c5, c6⟩, ⟨d0, d1, d2, d3, d4, d5, d6⟩⟩ := K7.out k6 bk6.out)
      | (go_at_call 14; with_reducible refine (skel_v0 g16 g k6 ho6.out.rd (HR70.out.below bk6.out)).mono ?_; rintro e k7 ⟨rfl, hb7⟩; have bk7 : Hid (Below w7.heap.size w7 k7) := hd (bk6.out.trans (hb7.mono bk6.out.size)); clear hb7; obtain ⟨⟨c0, c1, c2, c3, c4, c5, c6⟩, ⟨d0, d1, d2, d3, d4, d5, d6⟩⟩ := K7.out k7 bk7.out))
  go_wp2_with fail
  go_ret
  exact ⟨rfl, B7.out.trans (bk7.out.mono B7.out.size)⟩
end Go.Proofs.YtmjokinagbpihaaDoor
