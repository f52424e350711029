/- The law's own: stands. -/
import Derived.Test.YthldnbikephncaaLS1
namespace Go.Proofs.Ythldnbikephncaa
open Go.RowKit

/-- Two lanes that stand alike, the program's at bl, the document's at br; they share nothing. -/
structure Two (B : Nat) (w0 w : World) (bl br : Nat) (s : LS) (Fl Fr : Nat → Prop) : Prop where
  l : Ln w 60 bl Fl s
  r : Ln w 62 br Fr s
  ap : ∀ k, Fl k → ¬ Fr k
  nl : ∀ k, Fl k → B ≤ k
  nr : ∀ k, Fr k → B ≤ k
  bel : Below B w0 w
  le : B ≤ w.heap.size
theorem Two.after {B : Nat} {w0 w w' : World} {bl br : Nat} {s : LS} {Fl Fr : Nat → Prop} (h : Two B w0 w bl br s Fl Fr) (hb : Below w.heap.size w w') : Two B w0 w' bl br s Fl Fr :=
  ⟨h.l.below hb, h.r.below hb, h.ap, h.nl, h.nr, h.bel.trans (hb.mono h.le), Nat.le_trans h.le hb.size⟩
/-- What is changed is of neither of them. -/
theorem Two.mod {B : Nat} {w0 w w' : World} {bl br : Nat} {s : LS} {Fl Fr S : Nat → Prop} (h : Two B w0 w bl br s Fl Fr) (hm : Mod S w w') (hl : ∀ k, S k → ¬ Fl k) (hr : ∀ k, S k → ¬ Fr k) (hB : ∀ k, S k → B ≤ k) : Two B w0 w' bl br s Fl Fr :=
  ⟨h.l.mod hm (fun k hk hs => hl k hs hk), h.r.mod hm (fun k hk hs => hr k hs hk), h.ap, h.nl, h.nr, h.bel.trans (hm.below h.le (fun k _ hk => hB k hk)), Nat.le_trans h.le hm.size⟩

/-- The cells of the document's lane that tell how it stands. -/
theorem rcells {w : World} {T : TypeId} {b : Nat} {F : Nat → Prop} {s : LS} (h : Ln w T b F s) : ∃ d1 e1 d2 e2, AL w s.vs s.ws d1 d2 ∧ w.cell? ⟨b, 1, none⟩ = some (.slice d1 s.vs.length e1) ∧ w.cell? ⟨b, 2, none⟩ = some (.slice d2 s.ws.length e2) ∧ w.cell? ⟨b, 3, none⟩ = some (.int .i64 s.tk) ∧ w.cell? ⟨b, 4, none⟩ = some (.int .i64 s.dr) := by
  obtain ⟨a1, c1, a2, c2, h, -, -⟩ := h
  exact ⟨a1, c1, a2, c2, ⟨h.vals.rd, h.wts.rd⟩, h.cells.2⟩

set_option maxRecDepth 100000 in
set_option maxHeartbeats 2000000 in
theorem stands_any {B : Nat} {w0 w : World} {bl br : Nat} {s : LS} {Fl Fr : Nat → Prop} (h : Two B w0 w bl br s Fl Fr) (hv : s.vs.length ≤ 64) (hn : s.ws.length ≤ 7000000000000) :
    Calls Try.prog 15 #[.pointer (some ⟨bl, 0, none⟩), .pointer (some ⟨br, 0, none⟩)] w fun e w' => e = .returned (.bool true) ∧ Two B w0 w' bl br s Fl Fr := by
  have hst := fun W (h : Two B w0 W bl br s Fl Fr) => state_any h.l (by omega) (by omega)
  have HT := hd h
  have hs1 := hst w h
  clear h
  obtain ⟨N, hN⟩ : ∃ N, Hid (s.vs.length = N) := ⟨_, rfl⟩
  obtain ⟨M, hM⟩ : ∃ M, Hid (s.ws.length = M) := ⟨_, rfl⟩
  unfold alV at hst hs1
  rw [hN.out, hM.out] at hst hs1
  go_enter Try.func15, Try.ntmps15
  go_upto_region 2 with (first | (go_at_call 13; refine hs1.mono ?_; rintro e1 w1 ⟨g1, g2, rfl, T1⟩))
  have bx := below_al w1 (.cells #[.slice (some ⟨g1, 0, none⟩) N N, .slice (some ⟨g2, 0, none⟩) M M, .int .i64 s.tk, .int .i64 s.dr] 25)
  have HO1 : Hid (OwnAL w (w1.alloc (.cells #[.slice (some ⟨g1, 0, none⟩) N N, .slice (some ⟨g2, 0, none⟩) M M, .int .i64 s.tk, .int .i64 s.dr] 25)) s.vs s.ws (some ⟨g1, 0, none⟩) s.vs.length (some ⟨g2, 0, none⟩) s.ws.length) := hd ⟨T1.own.vals.below bx, T1.own.wts.below bx, T1.own.n1, T1.own.n2, T1.own.ne, T1.bel.trans (bx.mono T1.bel.size)⟩
  have HX1 : Hid (Box4 (w1.alloc (.cells #[.slice (some ⟨g1, 0, none⟩) N N, .slice (some ⟨g2, 0, none⟩) M M, .int .i64 s.tk, .int .i64 s.dr] 25)) 25 w1.heap.size (.slice (some ⟨g1, 0, none⟩) N N) (.slice (some ⟨g2, 0, none⟩) M M) (.int .i64 s.tk) (.int .i64 s.dr)) := hd (box4_new _ _ _ _ _ _)
  have hG1 : Hid (w.heap.size ≤ w1.heap.size ∧ g1 < w1.heap.size ∧ g2 < w1.heap.size) := hd ⟨T1.bel.size, T1.vals.lt g1 rfl, T1.wts.lt g2 rfl⟩
  obtain ⟨wA, hwA⟩ : ∃ W, Hid (w1.alloc (.cells #[.slice (some ⟨g1, 0, none⟩) N N, .slice (some ⟨g2, 0, none⟩) M M, .int .i64 s.tk, .int .i64 s.dr] 25) = W) := ⟨_, rfl⟩
  obtain ⟨GA, hGA⟩ : ∃ G, Hid (w1.heap.size = G) := ⟨_, rfl⟩
  rw [hwA.out] at HO1 HX1 ⊢
  rw [hGA.out] at HX1 hG1 ⊢
  clear T1 bx hwA hGA
  have HT1 := hd (HT.out.after HO1.out.bel)
  have hs2 := hst wA HT1.out
  go_upto_region 3 with (first | (go_at_call 13; refine hs2.mono ?_; rintro e2 w2 ⟨g3, g4, rfl, T2⟩))
  have by' := below_al w2 (.cells #[.slice (some ⟨g3, 0, none⟩) N N, .slice (some ⟨g4, 0, none⟩) M M, .int .i64 s.tk, .int .i64 s.dr] 25)
  have HO2 : Hid (OwnAL wA (w2.alloc (.cells #[.slice (some ⟨g3, 0, none⟩) N N, .slice (some ⟨g4, 0, none⟩) M M, .int .i64 s.tk, .int .i64 s.dr] 25)) s.vs s.ws (some ⟨g3, 0, none⟩) s.vs.length (some ⟨g4, 0, none⟩) s.ws.length) := hd ⟨T2.own.vals.below by', T2.own.wts.below by', T2.own.n1, T2.own.n2, T2.own.ne, T2.bel.trans (by'.mono T2.bel.size)⟩
  have HX2 : Hid (Box4 (w2.alloc (.cells #[.slice (some ⟨g3, 0, none⟩) N N, .slice (some ⟨g4, 0, none⟩) M M, .int .i64 s.tk, .int .i64 s.dr] 25)) 25 w2.heap.size (.slice (some ⟨g3, 0, none⟩) N N) (.slice (some ⟨g4, 0, none⟩) M M) (.int .i64 s.tk) (.int .i64 s.dr)) := hd (box4_new _ _ _ _ _ _)
  have hG2 : Hid (wA.heap.size ≤ w2.heap.size ∧ g3 < w2.heap.size ∧ g4 < w2.heap.size) := hd ⟨T2.bel.size, T2.vals.lt g3 rfl, T2.wts.lt g4 rfl⟩
  obtain ⟨wB, hwB⟩ : ∃ W, Hid (w2.alloc (.cells #[.slice (some ⟨g3, 0, none⟩) N N, .slice (some ⟨g4, 0, none⟩) M M, .int .i64 s.tk, .int .i64 s.dr] 25) = W) := ⟨_, rfl⟩
  obtain ⟨GB, hGB⟩ : ∃ G, Hid (w2.heap.size = G) := ⟨_, rfl⟩
  rw [hwB.out] at HO2 HX2 ⊢
  rw [hGB.out] at HX2 hG2 ⊢
  clear T2 by' hwB hGB hs1 hs2 hst
  have HT2 := hd (HT1.out.after HO2.out.bel)
  have HX1b := hd (HX1.out.bel HO2.out.bel)
  have HR1b := hd (HO1.out.vals.below HO2.out.bel)
  have HW1b := hd (HO1.out.wts.below HO2.out.bel)
  clear HX1 HT1
  obtain ⟨d1, e1, d2, e2, hAL, r1, r2, r3, r4⟩ := rcells HT2.out.r
  obtain ⟨p0, p1, p2, p3⟩ := HX1b.out.cells
  have bD : Below wB.heap.size wB wB.drew := (Below.refl _ wB).drew
  have hsm := same_any (c1 := s.vs.length) (c2 := s.ws.length) (e1 := e1) (e2 := e2) (tk := s.tk) (dr := s.dr) (w := wB.drew) ((HR1b.out.below bD).al (HW1b.out.below bD)) (hAL.below bD) (by omega) (by omega)
  rw [hN.out] at r1
  rw [hM.out] at r2
  rw [hN.out, hM.out] at hsm
  have HK : Hid (∀ W : World, Below wB.heap.size wB W → (W.cell? ⟨GA, 0, none⟩ = some (.slice (some ⟨g1, 0, none⟩) N N) ∧ W.cell? ⟨GA, 1, none⟩ = some (.slice (some ⟨g2, 0, none⟩) M M) ∧ W.cell? ⟨GA, 2, none⟩ = some (.int .i64 s.tk) ∧ W.cell? ⟨GA, 3, none⟩ = some (.int .i64 s.dr) ∧ W.cell? ⟨br, 1, none⟩ = some (.slice d1 N e1) ∧ W.cell? ⟨br, 2, none⟩ = some (.slice d2 M e2) ∧ W.cell? ⟨br, 3, none⟩ = some (.int .i64 s.tk) ∧ W.cell? ⟨br, 4, none⟩ = some (.int .i64 s.dr))) := hd (fun W hb => by
    have hl1 := HX1b.out.lt
    have hl2 := HT2.out.r.lt br HT2.out.r.at
    refine ⟨?_, ?_, ?_, ?_, ?_, ?_, ?_, ?_⟩
    · rw [hb.cell (p := ⟨GA, 0, none⟩) hl1]; exact p0
    · rw [hb.cell (p := ⟨GA, 1, none⟩) hl1]; exact p1
    · rw [hb.cell (p := ⟨GA, 2, none⟩) hl1]; exact p2
    · rw [hb.cell (p := ⟨GA, 3, none⟩) hl1]; exact p3
    · rw [hb.cell (p := ⟨br, 1, none⟩) hl2]; exact r1
    · rw [hb.cell (p := ⟨br, 2, none⟩) hl2]; exact r2
    · rw [hb.cell (p := ⟨br, 3, none⟩) hl2]; exact r3
    · rw [hb.cell (p := ⟨br, 4, none⟩) hl2]; exact r4)
  go_region_held3 (fun w' => w'.cell? ⟨GA, 0, none⟩ = some (.slice (some ⟨g1, 0, none⟩) N N) ∧ w'.cell? ⟨GA, 1, none⟩ = some (.slice (some ⟨g2, 0, none⟩) M M) ∧ w'.cell? ⟨GA, 2, none⟩ = some (.int .i64 s.tk) ∧ w'.cell? ⟨GA, 3, none⟩ = some (.int .i64 s.dr) ∧ w'.cell? ⟨br, 1, none⟩ = some (.slice d1 N e1) ∧ w'.cell? ⟨br, 2, none⟩ = some (.slice d2 M e2) ∧ w'.cell? ⟨br, 3, none⟩ = some (.int .i64 s.tk) ∧ w'.cell? ⟨br, 4, none⟩ = some (.int .i64 s.dr)) (go_keep)
    (first
      | (go_at_call 10; refine hsm.mono ?_; rintro e3 w3 ⟨rfl, b3⟩
         have HB3 := hd (bD.trans b3)
         obtain ⟨m0, m1, m2, m3, m4, m5, m6, m7⟩ := HK.out w3 HB3.out
         clear b3))
  -- the first one is written over
  have HT3 := hd (HT2.out.after HB3.out)
  have HR3b := hd (HO2.out.vals.below HB3.out)
  have HW3b := hd (HO2.out.wts.below HB3.out)
  have HXB3 := hd (HX2.out.bel HB3.out)
  have hsp := spoil_any (v2 := .int .i64 s.tk) (v3 := .int .i64 s.dr) (HR1b.out.below HB3.out) (HW1b.out.below HB3.out) HO1.out.ne (by omega) (by omega)
  rw [hN.out, hM.out] at hsp
  have hfar : Hid (∀ k, blk (some ⟨g1, 0, none⟩) = some k ∨ blk (some ⟨g2, 0, none⟩) = some k → w.heap.size ≤ k ∧ k < wA.heap.size) := hd (fun k hk => by
    rcases hk with hk | hk
    · exact ⟨HO1.out.n1 k hk, HO1.out.vals.lt k hk⟩
    · exact ⟨HO1.out.n2 k hk, HO1.out.wts.lt k hk⟩)
  clear hsm HK r1 r2 r3 r4 p0 p1 p2 p3 hAL m4 m5 m6 m7 HT2 HX2 HX1b HR1b HW1b bD
  go_upto_region 5 with (first | (go_at_call 11; refine hsp.mono ?_; rintro e4 w4 ⟨rfl, M4⟩))
  have HT4 : Hid (Two B w0 w4 bl br s Fl Fr) := hd (HT3.out.mod M4
    (fun k hk hf => by have := (hfar.out k hk).1; have := HT.out.l.lt k hf; omega) (fun k hk hf => by have := (hfar.out k hk).1; have := HT.out.r.lt k hf; omega) (fun k hk => by have := (hfar.out k hk).1; have := HT.out.le; omega))
  have HR4 := hd (HR3b.out.mod M4 (fun k hk hs => by have := (hfar.out k hs).2; have := HO2.out.n1 k hk; omega))
  have HW4 := hd (HW3b.out.mod M4 (fun k hk hs => by have := (hfar.out k hs).2; have := HO2.out.n2 k hk; omega))
  have HX4 := hd (HXB3.out.mod M4 (fun hs => by have := (hfar.out GB hs).2; have := hG2.out.1; omega))
  clear HT3 HR3b HW3b HXB3 M4 hsp m0 m1 m2 m3
  obtain ⟨d1, e1, d2, e2, hAL, r1, r2, r3, r4⟩ := rcells HT4.out.r
  obtain ⟨p0, p1, p2, p3⟩ := HX4.out.cells
  have bD : Below w4.heap.size w4 w4.drew := (Below.refl _ w4).drew
  have hsm := same_any (c1 := s.vs.length) (c2 := s.ws.length) (e1 := e1) (e2 := e2) (tk := s.tk) (dr := s.dr) (w := w4.drew) ((HR4.out.below bD).al (HW4.out.below bD)) (hAL.below bD) (by omega) (by omega)
  rw [hN.out] at r1
  rw [hM.out] at r2
  rw [hN.out, hM.out] at hsm
  have HK : Hid (∀ w' : World, Below w4.heap.size w4 w' → (w'.cell? ⟨GB, 0, none⟩ = some (.slice (some ⟨g3, 0, none⟩) N N) ∧ w'.cell? ⟨GB, 1, none⟩ = some (.slice (some ⟨g4, 0, none⟩) M M) ∧ w'.cell? ⟨GB, 2, none⟩ = some (.int .i64 s.tk) ∧ w'.cell? ⟨GB, 3, none⟩ = some (.int .i64 s.dr) ∧ w'.cell? ⟨br, 1, none⟩ = some (.slice d1 N e1) ∧ w'.cell? ⟨br, 2, none⟩ = some (.slice d2 M e2) ∧ w'.cell? ⟨br, 3, none⟩ = some (.int .i64 s.tk) ∧ w'.cell? ⟨br, 4, none⟩ = some (.int .i64 s.dr))) := hd (fun W hb => by
    have hl1 := HX4.out.lt
    have hl2 := HT4.out.r.lt br HT4.out.r.at
    refine ⟨?_, ?_, ?_, ?_, ?_, ?_, ?_, ?_⟩
    · rw [hb.cell (p := ⟨GB, 0, none⟩) hl1]; exact p0
    · rw [hb.cell (p := ⟨GB, 1, none⟩) hl1]; exact p1
    · rw [hb.cell (p := ⟨GB, 2, none⟩) hl1]; exact p2
    · rw [hb.cell (p := ⟨GB, 3, none⟩) hl1]; exact p3
    · rw [hb.cell (p := ⟨br, 1, none⟩) hl2]; exact r1
    · rw [hb.cell (p := ⟨br, 2, none⟩) hl2]; exact r2
    · rw [hb.cell (p := ⟨br, 3, none⟩) hl2]; exact r3
    · rw [hb.cell (p := ⟨br, 4, none⟩) hl2]; exact r4)
  go_region_held3 (fun w' => w'.cell? ⟨GB, 0, none⟩ = some (.slice (some ⟨g3, 0, none⟩) N N) ∧ w'.cell? ⟨GB, 1, none⟩ = some (.slice (some ⟨g4, 0, none⟩) M M) ∧ w'.cell? ⟨GB, 2, none⟩ = some (.int .i64 s.tk) ∧ w'.cell? ⟨GB, 3, none⟩ = some (.int .i64 s.dr) ∧ w'.cell? ⟨br, 1, none⟩ = some (.slice d1 N e1) ∧ w'.cell? ⟨br, 2, none⟩ = some (.slice d2 M e2) ∧ w'.cell? ⟨br, 3, none⟩ = some (.int .i64 s.tk) ∧ w'.cell? ⟨br, 4, none⟩ = some (.int .i64 s.dr)) (go_keep)
    (first
      | (go_at_call 10; refine hsm.mono ?_; rintro e5 w5 ⟨rfl, b5⟩
         have HB5 := hd (bD.trans b5)
         obtain ⟨m0, m1, m2, m3, m4, m5, m6, m7⟩ := HK.out w5 HB5.out
         clear b5))
  -- the second one is written over
  have HT5 := hd (HT4.out.after HB5.out)
  have hsp := spoil_any (v2 := .int .i64 s.tk) (v3 := .int .i64 s.dr) (HR4.out.below HB5.out) (HW4.out.below HB5.out) HO2.out.ne (by omega) (by omega)
  rw [hN.out, hM.out] at hsp
  have hfar2 : Hid (∀ k, blk (some ⟨g3, 0, none⟩) = some k ∨ blk (some ⟨g4, 0, none⟩) = some k → w.heap.size ≤ k) := hd (fun k hk => by
    have hs := HO1.out.bel.size
    rcases hk with hk | hk
    · have := HO2.out.n1 k hk; omega
    · have := HO2.out.n2 k hk; omega)
  clear hsm HK r1 r2 r3 r4 p0 p1 p2 p3 hAL m4 m5 m6 m7 HT4 HX4 HR4 HW4 bD
  go_upto_region 7 with (first | (go_at_call 11; refine hsp.mono ?_; rintro e6 w6 ⟨rfl, M6⟩))
  have HT6 : Hid (Two B w0 w6 bl br s Fl Fr) := hd (HT5.out.mod M6
    (fun k hk hf => by have := hfar2.out k hk; have := HT.out.l.lt k hf; omega) (fun k hk hf => by have := hfar2.out k hk; have := HT.out.r.lt k hf; omega) (fun k hk => by have := hfar2.out k hk; have := HT.out.le; omega))
  clear HT5 M6 hsp m0 m1 m2 m3
  obtain ⟨d1, e1, d2, e2, -, r1, -, -, -⟩ := rcells HT6.out.r
  have hln := fun n => len_any (w := w6.drewN n) (HT6.out.l.below (below_drewN (below_same w6) n))
  rw [hN.out] at r1 hln
  go_quiet ((go_at_call 19; exact Calls.quiet_of_same (hln _)))
  go_wp2_with fail
  go_ret
  exact ⟨rfl, HT6.out.after (below_drewN (below_same w6) _)⟩
end Go.Proofs.Ythldnbikephncaa
