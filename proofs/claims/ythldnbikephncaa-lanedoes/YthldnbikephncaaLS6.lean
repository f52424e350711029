/- LaneDoes: its walk, over a lane that stands. -/
import Derived.Test.YthldnbikephncaaLS5
namespace Go.Proofs.Ythldnbikephncaa
open Go.RowKit

set_option maxRecDepth 100000 in
set_option maxHeartbeats 4000000 in
theorem does_yes {R : Nat} {vs : List Int} {ws : List (Int × Int)} {tk dr : Int} {a1 a2 : Option Addr} {c1 c2 : Nat} {a3 : Option Addr} {c3 : Nat} {l : List (Int × Int × Int)} {w : World} (hA : AL w vs ws a1 a2) (hvl : vs.length ≤ 1048576) (hwl : ws.length ≤ 4096) (hf : ∀ x ∈ ws, Fit64 x.1) (hr1 : 1 ≤ R) (hr2 : R ≤ 64) (hm : MayL R vs ws tk dr)
    (hS : Rd w a3 (sC l)) (hfz : ∀ x ∈ l, Fit64 x.2.1) (hl : l.length ≤ 6000000000000) :
    Calls Try.prog 3 #[.int .i64 (R : Int), .agg #[.slice a1 vs.length c1, .slice a2 ws.length c2, .int .i64 tk, .int .i64 dr], .slice a3 l.length c3] w fun e w' => e = .returned (.bool true) ∧ Below w.heap.size w w' := by
  have HS := hd hS
  have HFZ := hd hfz
  have HG0 : Hid (Good ⟨R, vs, ws, tk, dr⟩) := hd ⟨hr1, hr2, hm, hf⟩
  have hlay := fun (W : World) (b1 b2 : Option Addr) (f1 f2 : Nat) (h : AL W vs ws b1 b2) => lay_ok (c1 := f1) (c2 := f2) (tk := tk) (dr := dr) h hr1 hr2 (by omega) hf hm
  have hrlay := fun (W : World) (h : AL W vs ws a1 a2) => rlay_ok (c1 := c1) (c2 := c2) (tk := tk) (dr := dr) h hr1 hr2 (by omega) hm
  clear hf hm hS hfz
  have HA := hd hA
  have hb0 := below_al w (.cells #[.slice a1 vs.length c1, .slice a2 ws.length c2, .int .i64 tk, .int .i64 dr] 25)
  have HX0 : Hid (Box4 (w.alloc (.cells #[.slice a1 vs.length c1, .slice a2 ws.length c2, .int .i64 tk, .int .i64 dr] 25)) 25 w.heap.size (.slice a1 vs.length c1) (.slice a2 ws.length c2) (.int .i64 tk) (.int .i64 dr)) := hd (box4_new _ _ _ _ _ _)
  have HB0 := hd hb0
  have hfx := fixed_any (w.alloc (.cells #[.slice a1 vs.length c1, .slice a2 ws.length c2, .int .i64 tk, .int .i64 dr] 25))
  clear hA hb0
  go_enter Try.func3, Try.ntmps3
  go_upto_region 1 with fail
  obtain ⟨w1, hw1⟩ : ∃ W, Hid (w.alloc (.cells #[.slice a1 vs.length c1, .slice a2 ws.length c2, .int .i64 tk, .int .i64 dr] 25) = W) := ⟨_, rfl⟩
  obtain ⟨G, hG⟩ : ∃ G, Hid (w.heap.size = G) := ⟨_, rfl⟩
  rw [hw1.out] at HX0 HB0 hfx ⊢
  rw [hG.out] at HX0 ⊢
  clear hw1
  go_upto_region 2 with (first | (go_at_call 5; refine hfx.mono ?_; rintro e2 w2 ⟨rfl, b2⟩))
  have HB2 := hd (HB0.out.trans (b2.mono HB0.out.size))
  have HX2 := hd (HX0.out.bel b2)
  obtain ⟨p0, p1, p2, p3⟩ := HX2.out.cells
  clear b2 hfx HX0 HB0
  have hlg := long_any (n := vs.length) (m := ws.length) (c1 := c1) (c2 := c2) (a1 := a1) (a2 := a2) (v2 := .int .i64 tk) (v3 := .int .i64 dr) (w := w2) false (by simp; omega)
  go_upto_region 4 with (first | (go_at_call 6; refine hlg.mono ?_; rintro e3 w3 ⟨rfl, b3⟩))
  have HB3 := hd (HB2.out.trans (b3.mono HB2.out.size))
  have HX3 := hd (HX2.out.bel b3)
  clear b3 hlg HX2 HB2 p0 p1 p2 p3
  obtain ⟨p0, p1, p2, p3⟩ := HX3.out.cells
  have hcp := copy_any (c1 := c1) (c2 := c2) (tk := tk) (dr := dr) (HA.out.below HB3.out) (by omega) (by omega)
  go_upto_region 5 with (first | (go_at_call 7; refine hcp.mono ?_; rintro e4 w4 ⟨b1, f1, b2, f2, rfl, O4⟩))
  have bx := below_al w4 (.cells #[.slice b1 vs.length f1, .slice b2 ws.length f2, .int .i64 tk, .int .i64 dr] 25)
  have HO5 : Hid (OwnAL w3 (w4.alloc (.cells #[.slice b1 vs.length f1, .slice b2 ws.length f2, .int .i64 tk, .int .i64 dr] 25)) vs ws b1 f1 b2 f2) := hd ⟨O4.vals.below bx, O4.wts.below bx, O4.n1, O4.n2, O4.ne, O4.bel.trans (bx.mono O4.bel.size)⟩
  have HY5 : Hid (Box4 (w4.alloc (.cells #[.slice b1 vs.length f1, .slice b2 ws.length f2, .int .i64 tk, .int .i64 dr] 25)) 25 w4.heap.size (.slice b1 vs.length f1) (.slice b2 ws.length f2) (.int .i64 tk) (.int .i64 dr)) := hd (box4_new _ _ _ _ _ _)
  have hHs : Hid (w3.heap.size ≤ w4.heap.size ∧ (∀ k, blk b1 = some k → k < w4.heap.size) ∧ ∀ k, blk b2 = some k → k < w4.heap.size) := hd ⟨O4.bel.size, O4.vals.lt, O4.wts.lt⟩
  obtain ⟨w5, hw5⟩ : ∃ W, Hid (w4.alloc (.cells #[.slice b1 vs.length f1, .slice b2 ws.length f2, .int .i64 tk, .int .i64 dr] 25) = W) := ⟨_, rfl⟩
  obtain ⟨H, hH⟩ : ∃ G, Hid (w4.heap.size = G) := ⟨_, rfl⟩
  rw [hw5.out] at HO5 HY5 ⊢
  rw [hH.out] at HY5 hHs ⊢
  have HB5 := hd (HB3.out.trans (HO5.out.bel.mono HB3.out.size))
  have HX5 := hd (HX3.out.bel HO5.out.bel)
  clear O4 bx hcp HX3 p0 p1 p2 p3 hw5 hH
  obtain ⟨p0, p1, p2, p3⟩ := HX5.out.cells
  obtain ⟨q0, q1, q2, q3⟩ := HY5.out.cells
  have hll := hlay w5 b1 b2 f1 f2 (HO5.out.vals.al HO5.out.wts)
  go_upto_region 6 with (first | (go_at_call 8; refine hll.mono ?_; rintro e6 w6 ⟨bl, Fl, rfl, L6, N6, b6⟩))
  have HL6 := hd L6
  have HN6 := hd N6
  have HB6 := hd (HB5.out.trans (b6.mono HB5.out.size))
  have HB6s := hd b6
  have HX6 := hd (HX5.out.bel b6)
  have HY6 := hd (HY5.out.bel b6)
  clear b6 hll HX5 HY5 p0 p1 p2 p3 q0 q1 q2 q3 hlay L6 N6
  obtain ⟨p0, p1, p2, p3⟩ := HX6.out.cells
  obtain ⟨q0, q1, q2, q3⟩ := HY6.out.cells
  have hrl := hrlay w6 (HA.out.below HB6.out)
  go_upto_region 7 with (first | (go_at_call 9; refine hrl.mono ?_; rintro e7 w7 ⟨br, Fr, rfl, L7, N7, b7⟩))
  have HB7s := hd b7
  have HT7 : Hid (Two w.heap.size w w7 bl br ⟨R, vs, ws, tk, dr⟩ Fl Fr) := hd ⟨HL6.out.below b7, L7, fun k hk hf => by have := HL6.out.lt k hk; have := N7 k hf; omega, fun k hk => Nat.le_trans HB5.out.size (HN6.out k hk), fun k hk => Nat.le_trans HB6.out.size (N7 k hk), HB6.out.trans (b7.mono HB6.out.size), Nat.le_trans HB6.out.size b7.size⟩
  have HF7 : Hid (∀ k, Fl k ∨ Fr k → w5.heap.size ≤ k) := hd (fun k hk => by
    rcases hk with hk | hk
    · exact HN6.out k hk
    · exact Nat.le_trans HB6s.out.size (N7 k hk))
  clear b7 hrl hrlay L7 N7 HL6 HN6
  have HX7 := hd (HX6.out.bel HB7s.out)
  have HY7 := hd (HY6.out.bel HB7s.out)
  have HB7 := hd (HB6.out.trans (HB7s.out.mono HB6.out.size))
  have HV7 := hd ((HO5.out.vals.below HB6s.out).below HB7s.out)
  have HW7 := hd ((HO5.out.wts.below HB6s.out).below HB7s.out)
  clear HX6 HY6 p0 p1 p2 p3 q0 q1 q2 q3
  obtain ⟨p0, p1, p2, p3⟩ := HX7.out.cells
  obtain ⟨q0, q1, q2, q3⟩ := HY7.out.cells
  have hsm := same_any (c1 := f1) (c2 := f2) (e1 := c1) (e2 := c2) (tk := tk) (dr := dr) (HV7.out.al HW7.out) (HA.out.below HB7.out) (by omega) (by omega)
  go_upto_region 8 with (first | (go_at_call 10; refine hsm.mono ?_; rintro e8 w8 ⟨rfl, b8⟩))
  have HB8 := hd (HB7.out.trans (b8.mono HB7.out.size))
  have HB8s := hd b8
  have HV8 := hd (HV7.out.below b8)
  have HW8 := hd (HW7.out.below b8)
  have HY8 := hd (HY7.out.bel b8)
  clear b8 hsm HX7 HY7 HV7 HW7 p0 p1 p2 p3 q0 q1 q2 q3
  obtain ⟨q0, q1, q2, q3⟩ := HY8.out.cells
  have hsp := spoil_any (v2 := .int .i64 tk) (v3 := .int .i64 dr) HV8.out HW8.out HO5.out.ne (by omega) (by omega)
  go_upto_region 9 with (first | (go_at_call 11; refine hsp.mono ?_; rintro e9 w9 ⟨rfl, M9⟩))
  have hown : Hid (∀ k, blk b1 = some k ∨ blk b2 = some k → w.heap.size ≤ k ∧ k < w5.heap.size) := hd (fun k hk => by
    have h3 := HB3.out.size
    rcases hk with hk | hk
    · exact ⟨Nat.le_trans h3 (HO5.out.n1 k hk), HO5.out.vals.lt k hk⟩
    · exact ⟨Nat.le_trans h3 (HO5.out.n2 k hk), HO5.out.wts.lt k hk⟩)
  have HT9 : Hid (Two w.heap.size w w9 bl br ⟨R, vs, ws, tk, dr⟩ Fl Fr) := hd ((HT7.out.after HB8s.out).mod M9 (fun k hk hf => by have := (hown.out k hk).2; have := HF7.out k (.inl hf); omega) (fun k hk hf => by have := (hown.out k hk).2; have := HF7.out k (.inr hf); omega) (fun k hk => (hown.out k hk).1))
  clear M9 hsp HV8 HW8 HY8 q0 q1 q2 q3 HT7 HB8s HB8 HB7 HB7s HB6 HB6s HB5 HB3 HO5 HA HF7 hown
  go_wp2_with fail
  go_loopg [9, 16] l.length (fun k v9 v16 wr => ∃ (i bl : Nat), v16 = .int .i64 i ∧ v9 = .pointer (some ⟨bl, 0, none⟩) ∧ i + k = l.length ∧ Hid (∃ s Fl Fr, Two w.heap.size w wr bl br s Fl Fr ∧ Good s ∧ s.room = R ∧ s.ws.length ≤ ws.length + i))
  case atStart => exact ⟨0, bl, rfl, rfl, by omega, hd ⟨_, _, _, HT9.out, HG0.out, rfl, Nat.le_refl _⟩⟩
  case round =>
    clear HT9 HG0
    obtain ⟨i, bl0, rfl, rfl, hik, HH⟩ := hrel
    obtain ⟨s, Fl1, Fr1, T1, G1, hrm, hw1⟩ := HH.out
    have HG4 := hd G1
    have HRM := hd hrm
    have HW4 := hd hw1
    clear HH G1 hrm hw1
    by_cases hlt : i < l.length
    · have hlt' : (i : Int) < (l.length : Int) := by omega
      obtain ⟨⟨zk, zp, zv⟩, hz⟩ : ∃ z, Hid (l.getD i (0, 0, 0) = z) := ⟨_, rfl⟩
      obtain ⟨sb, so, ea, -, -, -⟩ := rd_s HS.out i hlt
      subst ea
      have HXS : Hid (∀ W : World, Below w.heap.size w W → W.cell? ⟨sb, so + i * 3, none⟩ = some (.int .i64 zk) ∧ W.cell? ⟨sb, so + i * 3 + 1, none⟩ = some (.int .i64 zp) ∧ W.cell? ⟨sb, so + i * 3 + 2, none⟩ = some (.int .i64 zv)) := hd (fun W hb => by
        obtain ⟨b', o', e, h1, h2, h3⟩ := rd_s (HS.out.below hb) i hlt
        cases e
        rw [hz.out] at h1 h2 h3
        exact ⟨h1, h2, h3⟩)
      obtain ⟨y0, y1, y2⟩ := HXS.out wr T1.bel
      by_cases hk7 : zk = 7
      · have hk7' : (zk == 7) = true := by simp [hk7]
        clear hk7
        have hsta := state_any T1.l (by have := HG4.out.len; have := HG4.out.r2; omega) (by have := HW4.out; omega)
        unfold alV at hsta
        have HT1 := hd T1
        clear T1
        have hly := fun (W : World) (b1 b2 : Option Addr) (f1 f2 : Nat) (h : AL W s.vs s.ws b1 b2) => lay_ok (c1 := f1) (c2 := f2) (tk := s.tk) (dr := s.dr) h HG4.out.r1 HG4.out.r2 (by have := HW4.out; omega) HG4.out.fit HG4.out.may
        rw [HRM.out] at hly
        go_upto_region 22 with (first | (go_at_call 13; refine hsta.mono ?_; rintro e2 w2 ⟨g1, g2, rfl, D2⟩; have hl2 := hly w2 _ _ s.vs.length s.ws.length (D2.vals.al D2.wts); replace D2 := hd D2) | (go_at_call 8; refine hl2.mono ?_; rintro e3 w4 ⟨bl', Fl', rfl, L3, N3, b3⟩))
        have T4 : Two w.heap.size w w4 bl' br s Fl' Fr1 := by
          have h2 := HT1.out.after D2.out.bel
          have h4 := h2.after b3
          refine ⟨?_, h4.r, fun k hk hf => ?_, fun k hk => ?_, h4.nr, h4.bel, h4.le⟩
          · have e : (⟨R, s.vs, s.ws, s.tk, s.dr⟩ : LS) = s := by rw [← HRM.out]
            rw [← e]
            exact L3
          · have := h2.r.lt k hf; have := N3 k hk; omega
          · exact Nat.le_trans h2.le (N3 k hk)
        clear L3 N3 b3 hl2 hly HT1 D2 hsta y0 y1 y2
        have hsp := step_any T4 HG4.out (by have := HW4.out; omega) zk zp zv
        obtain ⟨x0, x1, x2⟩ := HXS.out w4 T4.bel
        have hfit : Hid (Fit64 zp) := hd (by have := HFZ.out (l.getD i (0, 0, 0)) (by rw [List.getD_eq_getElem?_getD, List.getElem?_eq_getElem hlt]; exact List.getElem_mem hlt); rwa [hz.out] at this)
        clear T4
        go_upto_region 23 with (first | (go_at_call 14; refine hsp.mono ?_; rintro e5 w5 ⟨rfl, Fl5, Fr5, T5⟩))
        have HG5 := hd (HG4.out.step zk hfit.out zv)
        have hws5 := hd (step_ws s zk zp zv)
        have hsd := stands_any T5 (by have := HG5.out.len; have := HG5.out.r2; omega) (by have := hws5.out.1; have := HW4.out; omega)
        clear T5 hsp x0 x1 x2
        go_wp2_with (first | (go_at_call 15; refine hsd.mono ?_; rintro e6 w6 ⟨rfl, T6⟩; replace T6 := hd T6))
        go_roundg (gk - 1)
        case measure => omega
        case rel => exact ⟨i + 1, bl', by go_num, rfl, by omega, hd ⟨_, _, _, T6.out, HG5.out, by rw [hws5.out.2]; exact HRM.out, by have := hws5.out.1; have := HW4.out; omega⟩⟩
      · have hk7' : (zk == 7) = false := by simp [hk7]
        clear hk7
        go_upto_region 22 with fail
        obtain ⟨bl', hbl⟩ : ∃ b, Hid (b = bl0) := ⟨_, rfl⟩
        obtain ⟨w4, hw4⟩ : ∃ W, Hid (wr = W) := ⟨_, rfl⟩
        rw [hw4.out]
        have T4 : Two w.heap.size w w4 bl' br s Fl1 Fr1 := by rw [← hw4.out, hbl.out]; exact T1
        rw [← hbl.out]
        clear T1 hw4 y0 y1 y2 hbl
        have hsp := step_any T4 HG4.out (by have := HW4.out; omega) zk zp zv
        obtain ⟨x0, x1, x2⟩ := HXS.out w4 T4.bel
        have hfit : Hid (Fit64 zp) := hd (by have := HFZ.out (l.getD i (0, 0, 0)) (by rw [List.getD_eq_getElem?_getD, List.getElem?_eq_getElem hlt]; exact List.getElem_mem hlt); rwa [hz.out] at this)
        clear T4
        go_upto_region 23 with (first | (go_at_call 14; refine hsp.mono ?_; rintro e5 w5 ⟨rfl, Fl5, Fr5, T5⟩))
        have HG5 := hd (HG4.out.step zk hfit.out zv)
        have hws5 := hd (step_ws s zk zp zv)
        have hsd := stands_any T5 (by have := HG5.out.len; have := HG5.out.r2; omega) (by have := hws5.out.1; have := HW4.out; omega)
        clear T5 hsp x0 x1 x2
        go_wp2_with (first | (go_at_call 15; refine hsd.mono ?_; rintro e6 w6 ⟨rfl, T6⟩; replace T6 := hd T6))
        go_roundg (gk - 1)
        case measure => omega
        case rel => exact ⟨i + 1, bl', by go_num, rfl, by omega, hd ⟨_, _, _, T6.out, HG5.out, by rw [hws5.out.2]; exact HRM.out, by have := hws5.out.1; have := HW4.out; omega⟩⟩
    · have hltd : decide ((i : Int) < (l.length : Int)) = false := by simp; omega
      have hsd := stands_any T1 (by have := HG4.out.len; have := HG4.out.r2; omega) (by have := HW4.out; omega)
      clear T1
      go_wp2_with (first | (go_at_call 15; refine hsd.mono ?_; rintro e6 w6 ⟨rfl, T6⟩))
      go_ret
      exact ⟨rfl, T6.bel⟩
end Go.Proofs.Ythldnbikephncaa
