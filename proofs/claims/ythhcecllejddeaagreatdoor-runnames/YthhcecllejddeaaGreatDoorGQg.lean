/- The reader's config: what is wrong leads to one place. -/
import Derived.Test.YthhcecllejddeaaGreatDoorGQc
namespace Go.Proofs.YthhcecllejddeaaGreatDoor
open Go.RowKit
def JC (w : World) (r : Nat) (a : Option Addr) (cap : Nat) (bs : List Nat) (G0 : Nat) (a' : Act) (W : World) : Prop :=
 (∃ (u1 u4 u5 u6 u7 u8 u9 u10 u11 u12 u13 u14 u15 u16 u17 u18 u19 u20 u21 u22 u23 u24 u25 u26 u27 u28 u29 u30 u31 u32 u33 u34 u35 u36 u37 u38 u39 u40 u41 u42 u43 u44 u45 u46 u47 u48 u49 u50 u51 u52 u53 u54 u55 u56 u57 u58 u59 u60 u61 u62 u63 u64 u65 u66 u67 u68 u69 u70 : Value), a' = { tmps := #[.pointer (some ⟨r, 0, none⟩), u1, .pointer (some ⟨G0, 0, none⟩), .pointer (some ⟨G0 + 1, 0, none⟩), u4, u5, u6, u7, u8, u9, u10, u11, u12, u13, u14, u15, u16, u17, u18, u19, u20, u21, u22, u23, u24, u25, u26, u27, u28, u29, u30, u31, u32, u33, u34, u35, u36, u37, u38, u39, u40, u41, u42, u43, u44, u45, u46, u47, u48, u49, u50, u51, u52, u53, u54, u55, u56, u57, u58, u59, u60, u61, u62, u63, u64, u65, u66, u67, u68, u69, u70], defers := [] }) ∧ ∃ s' xs, s'.e ≠ 0 ∧ wholeC bs = .er s'.e s'.at_ ∧ CfB w r a cap bs s' W G0 (G0 + 1) xs
def CfgOut (w : World) (r : Nat) (a : Option Addr) (cap : Nat) (bs : List Nat) (e : Ending) (w' : World) : Prop :=
 ∃ c g s', e = .returned (cfV c g) ∧ ROut w r a cap bs s' w' ∧ CfO w.heap.size w' c g ∧ ((s'.e = 0 ∧ s'.at_ = 0 ∧ ∃ q, wholeC bs = .ok c q) ∨ (s'.e ≠ 0 ∧ c = noC ∧ g = noL ∧ wholeC bs = .er s'.e s'.at_))
def z7 : Array Value := #[.slice none 0 0, .slice none 0 0, .int .i64 0, .int .i64 0, .int .i64 0, .int .i64 0, .slice none 0 0]
section
variable {w : World} {r : Nat} {a : Option Addr} {cap : Nat} {bs : List Nat} {s : St}
set_option maxRecDepth 100000 in
set_option maxHeartbeats 4000000 in
theorem config_any (h : RdAt w r a cap bs s) (hF : Fld w) (hL : Lim w) (hr : 2 ≤ r) (h0 : s.e = 0 ∧ s.at_ = 0 ∧ s.nx = 0) :
  Calls Tryz.prog 32 #[.pointer (some ⟨r, 0, none⟩)] w (CfgOut w r a cap bs) := by
 have H := hd h
 have HF := hd hF
 have HLm := hd hL
 have HS : Hid (Stage (wholeC bs) s (bind_ (repP (fun acc => numP 1 (hdF acc)) 5 []) (fun _ => bind_ P2 fin) bs s.nx)) := hd (.inl ⟨h0.1, h0.2.1, by
  rw [whole_eq, h0.2.2]
  unfold hdP
  rw [bind_assoc]
  rfl⟩)
 have HZ := hd h0
 obtain ⟨G0, hG0⟩ : ∃ G, Hid (w.heap.size = G) := ⟨_, rfl⟩
 have hrG : r < G0 := by rw [← hG0.out]; exact h.lt
 clear h hF hL h0
 go_enter Tryz.func32, Tryz.ntmps32
 go_wp2_with fail
 refine wp_scope_jumps 0 (JC w r a cap bs G0) (fun _ _ => 0) rfl ?_ ?_
 ·go_upto_region 3 with fail
  obtain ⟨w1, hw1⟩ : ∃ W, Hid ((w.alloc (.cells #[.slice none 0 0, .slice none 0 0, .int .i64 0, .int .i64 0, .int .i64 0, .int .i64 0, .slice none 0 0] 27)).alloc (.cells #[.slice none 0 0, .slice none 0 0, .int .i64 0, .int .i64 0, .int .i64 0, .int .i64 0, .slice none 0 0] 27) = W) := ⟨_, rfl⟩
  rw [hw1.out, hG0.out]
  have hb1 : Below w.heap.size w w1 := by rw [← hw1.out]; exact ((Below.refl _ w).alloc (Nat.le_refl _) _).alloc (by simp) _
  have HC : Hid (CfB w r a cap bs s w1 G0 (G0 + 1) #[.slice none 0 0, .slice none 0 0, .int .i64 0, .int .i64 0, .int .i64 0, .int .i64 0, .slice none 0 0]) := hd (by
   refine ⟨⟨H.out.below hb1, Mod.of_below _ hb1⟩, ?_, ?_, Nat.le_of_eq hG0.out, by omega⟩
   ·rw [← hw1.out, ← hG0.out, (below_al _ _).block _ (by simp)]
    exact heap_alloc_new w _
   ·rw [← hw1.out, ← hG0.out, show w.heap.size + 1 = (w.alloc (.cells #[.slice none 0 0, .slice none 0 0, .int .i64 0, .int .i64 0, .int .i64 0, .int .i64 0, .slice none 0 0] 27)).heap.size by simp]
    exact heap_alloc_new _ _)
  have hB : Hid (w1.heap.size = G0 + 2) := hd (by rw [← hw1.out, ← hG0.out]; simp)
  have HFw : Hid (∀ W s', ROut w r a cap bs s' W → Fld W ∧ Lim W) := hd (fun W s' o => ⟨HF.out.mod o.2 (by omega), HLm.out.mod o.2 (by omega)⟩)
  clear hw1 hb1 HF HLm
  have hc := head_any HC.out.out.1 ⟨HZ.out.1, HZ.out.2.1, HZ.out.2.2⟩
  go_upto_region 4 with (go_at_call 59; refine hc.mono ?_; rintro e w2 ⟨rfl, s1, o1, acc, st1⟩)
  replace HC := hd (HC.out.step H.out o1)
  have hN : Hid (Nat.le w1.heap.size w2.heap.size) := hd o1.2.size
  rw [← HZ.out.2.2] at st1
  replace HS := hd (Stage.sub HS.out HZ.out.1 st1)
  clear hc o1 st1 HZ
  by_cases hz : s1.e = 0
  ·have hf := failed_any HC.out.out.1 false (by simp [hz])
   replace hz := hd hz
   have hc := labels_any HC.out.out.1 ⟨hz.out, (HS.out.good hz.out).2⟩
   have x0 := HC.out.cell 0
   have f0 := HC.out.free 0
   simp at x0
   go_upto_region 5 with (go_at_call 60; refine hf.mono ?_; rintro e wq ⟨rfl, hwq⟩; obtain rfl : w2 = wq := hwq.symm)
   clear hf
   go_upto_region 6 with (go_at_call 61; refine hc.mono ?_; rintro e w3 ⟨la, lc, L, rfl, s2, mk, st, hLl⟩; have y0 := (HC.out.step H.out mk.out).cell 0; have y1 := (HC.out.step H.out mk.out).free 0; simp at y0; replace mk := hd mk)
   replace HS := hd (Stage.sub (show Stage (wholeC bs) s1 (bind_ labP (fun L => bind_ (P3 L) fin) bs s1.nx) by rw [← bind_assoc]; exact HS.out) hz.out st)
   have HO : Hid (Owned (G0 + 2) w3 [⟨29, 1, la, L.length, lc, labC L⟩]) := hd ((Owned.nil (G0 + 2) w2).add (by omega) (by have h1 : w1.heap.size ≤ w2.heap.size := hN.out; have := hB.out; omega) mk.out)
   have hN3 : Hid (G0 + 2 ≤ w3.heap.size) := hd (by have h1 : w1.heap.size ≤ w2.heap.size := hN.out; have h2 := mk.out.out.2.size; have := hB.out; omega)
   replace HC := hd ((HC.out.step H.out mk.out.out).put H.out 0 (.slice la L.length lc))
   replace HO := hd (HO.out.put (G := G0 + 1) (by omega) 0 (.slice la L.length lc))
   clear hc x0 f0 y0 y1 mk st hz hN hB
   obtain ⟨w4, hw4⟩ : ∃ W, Hid (w3.setCell ⟨G0 + 1, 0, none⟩ (.slice la L.length lc) = W) := ⟨_, rfl⟩
   replace hN3 : Hid (G0 + 2 ≤ w4.heap.size) := hd (by rw [← hw4.out]; simpa [World.setCell] using hN3.out)
   rw [hw4.out] at HC HO ⊢
   clear hw4
   simp only [List.setIfInBounds_toArray, List.set_cons_zero] at HC
   by_cases hz : s2.e = 0
   ·have hf := failed_any HC.out.out.1 false (by simp [hz])
    replace hz := hd hz
    have hc := table_any HC.out.out.1 ⟨hz.out, (HS.out.good hz.out).2⟩ L.length (by omega)
    have x0 := HC.out.cell 0
    simp at x0
    go_upto_region 7 with (go_at_call 60; refine hf.mono ?_; rintro e wq ⟨rfl, hwq⟩; obtain rfl : w4 = wq := hwq.symm)
    clear hf
    go_upto_region 8 with (go_at_call 62; refine hc.mono ?_; rintro e w5 ⟨ta, tc, T, rfl, s3, mk, st, hTl⟩; have y0 := (HC.out.step H.out mk.out).cell 1; have y1 := (HC.out.step H.out mk.out).free 1; simp at y0; replace mk := hd mk)
    replace HS := hd (Stage.sub (show Stage (wholeC bs) s2 (bind_ (tabP L.length) (fun T => bind_ (P4 L T) fin) bs s2.nx) by rw [← bind_assoc]; exact HS.out) hz.out st)
    replace HO := hd ((HO.out.add (by omega) hN3.out mk.out).perm (List.Perm.swap _ _ _))
    have hN5 : Hid (G0 + 2 ≤ w5.heap.size) := hd (Nat.le_trans hN3.out mk.out.out.2.size)
    replace HC := hd ((HC.out.step H.out mk.out.out).put H.out 1 (.slice ta T.length tc))
    replace HO := hd (HO.out.put (G := G0 + 1) (by omega) 1 (.slice ta T.length tc))
    clear hc x0 y0 y1 mk st hz hN3
    obtain ⟨w6, hw6⟩ : ∃ W, Hid (w5.setCell ⟨G0 + 1, 1, none⟩ (.slice ta T.length tc) = W) := ⟨_, rfl⟩
    replace hN5 : Hid (G0 + 2 ≤ w6.heap.size) := hd (by rw [← hw6.out]; simpa [World.setCell] using hN5.out)
    rw [hw6.out] at HC HO ⊢
    clear hw6
    simp only [List.setIfInBounds_toArray, List.set_cons_zero, List.set_cons_succ] at HC
    by_cases hz : s3.e = 0
    ·have hf := failed_any HC.out.out.1 false (by simp [hz])
     replace hz := hd hz
     have hc := numbers_any HC.out.out.1 (HFw.out _ _ HC.out.out).2
     replace HS := hd (chk4 HS.out)
     generalize vaN bs s3 0 = n0 at *
     generalize vaN bs s3 1 = n1 at *
     generalize vaN bs s3 2 = n2 at *
     generalize vaN bs s3 3 = n3 at *
     generalize stN bs s3 4 = s4 at *
     go_upto_region 9 with (go_at_call 60; refine hf.mono ?_; rintro e wq ⟨rfl, hwq⟩; obtain rfl : w6 = wq := hwq.symm)
     clear hf
     go_upto_region 10 with (go_at_call 63; refine hc.mono ?_; rintro e w7 ⟨rfl, o7⟩; have y2 := (HC.out.step H.out o7).cell 2; have y3 := (HC.out.step H.out o7).cell 3; have y4 := (HC.out.step H.out o7).cell 4; have y5 := (HC.out.step H.out o7).cell 5; have fr := (HC.out.step H.out o7).free; simp at y2 y3 y4 y5; replace o7 := hd o7)
     replace HO := hd ((((HO.out.step o7.out (by omega)).put (G := G0 + 1) (by omega) 2 (.int .i64 (n0 : Int))).put (G := G0 + 1) (by omega) 3 (.int .i64 (n1 : Int))).put (G := G0 + 1) (by omega) 4 (.int .i64 (n2 : Int)) |>.put (G := G0 + 1) (by omega) 5 (.int .i64 (n3 : Int)))
     replace HC := hd (((((HC.out.step H.out o7.out).put H.out 2 (.int .i64 (n0 : Int))).put H.out 3 (.int .i64 (n1 : Int))).put H.out 4 (.int .i64 (n2 : Int))).put H.out 5 (.int .i64 (n3 : Int)))
     have hN7 : Hid (G0 + 2 ≤ w7.heap.size) := hd (Nat.le_trans hN5.out o7.out.2.size)
     clear hc y2 y3 y4 y5 fr o7 hz hN5
     obtain ⟨w8, hw8⟩ : ∃ W, Hid ((((w7.setCell ⟨G0 + 1, 2, none⟩ (.int .i64 (n0 : Int))).setCell ⟨G0 + 1, 3, none⟩ (.int .i64 (n1 : Int))).setCell ⟨G0 + 1, 4, none⟩ (.int .i64 (n2 : Int))).setCell ⟨G0 + 1, 5, none⟩ (.int .i64 (n3 : Int)) = W) := ⟨_, rfl⟩
     replace hN7 : Hid (G0 + 2 ≤ w8.heap.size) := hd (by rw [← hw8.out]; simpa [World.setCell] using hN7.out)
     rw [hw8.out] at HC HO ⊢
     clear hw8
     simp only [List.setIfInBounds_toArray, List.set_cons_zero, List.set_cons_succ] at HC
     by_cases hz : s4.e = 0
     ·have hf := failed_any HC.out.out.1 false (by simp [hz])
      replace hz := hd hz
      have hc := count_any HC.out.out.1 32
      have hn255 : (chkS bs 1 (fun n => cntE 32 n) s4).1 ≤ 255 := chk_le255 HC.out.out.1.byte
      replace HS := hd (Stage.chk (show Stage (wholeC bs) s4 (bind_ (numP 1 fun n => cntE 32 n) (fun n => bind_ (repP (fun _ => prP L.length n2) n []) (endP L T n0 n1 n2 n3)) bs s4.nx) by rw [← p8_eq]; exact HS.out))
      generalize (chkS bs 1 (fun n => cntE 32 n) s4).1 = n at *
      generalize (chkS bs 1 (fun n => cntE 32 n) s4).2 = s5 at *
      go_upto_region 11 with (go_at_call 60; refine hf.mono ?_; rintro e wq ⟨rfl, hwq⟩; obtain rfl : w8 = wq := hwq.symm)
      clear hf
      go_upto_region 12 with (go_at_call 64; refine hc.mono ?_; rintro e w9 ⟨rfl, o9⟩; replace o9 := hd o9)
      replace HO := hd (HO.out.step o9.out (by omega))
      replace HC := hd (HC.out.step H.out o9.out)
      have hN9 : Hid (G0 + 2 ≤ w9.heap.size) := hd (Nat.le_trans hN7.out o9.out.2.size)
      clear hc o9 hz hN7
      by_cases hz : s5.e = 0
      ·have hf := failed_any HC.out.out.1 false (by simp [hz])
       replace hz := hd hz
       have HL0 : Hid (LpIq w r a cap bs G0 L T n0 n1 n2 n3 la lc ta tc n w9 [] none 0 s5) := hd (LpIq.start HC.out HO.out HS.out hz.out hN9.out)
       go_upto_block 0 with (go_at_call 60; refine hf.mono ?_; rintro e wq ⟨rfl, hwq⟩; obtain rfl : w9 = wq := hwq.symm)
       clear hf HC HS hz hN9 HO
       go_wp2_with fail
       go_loopg [5, 41, 42, 43, 44, 45, 46, 47, 48, 49, 50, 51, 52, 53, 54, 55, 56, 57, 58, 59, 60, 61, 62, 63, 64] n (fun gg v5 v41 v42 v43 v44 v45 v46 v47 v48 v49 v50 v51 v52 v53 v54 v55 v56 v57 v58 v59 v60 v61 v62 v63 v64 wr => ∃ (ms : List PrM) (len : Nat) (pa : Option Addr) (pc : Nat) (s' : St), v41 = .int .i64 (len : Int) ∧ len + gg = n ∧ Hid (ms.length = len) ∧ Hid (LpIq w r a cap bs G0 L T n0 n1 n2 n3 la lc ta tc n wr ms pa pc s'))
       case atStart => exact ⟨[], 0, none, 0, s5, by go_num, by omega, hd rfl, HL0⟩
       case round =>
        clear HL0
        obtain ⟨ms, len, pa, pc, s', rfl, hlen, HM, HL⟩ := hrel
        by_cases h0 : gk = 0
        ·subst h0
         obtain rfl : len = n := by omega
         have hc := rest_any HL.out.cb.out.1
         by_cases hx : s'.nx < bs.length
         ·rw [if_pos hx, failS_set HL.out.ok (by decide)] at hc
          have HJ : Hid (wholeC bs = .er 6 s'.nx) := hd (by
           have h1 := (HL.out.st.good HL.out.ok).1
           rw [show len - ms.length = 0 by have := HM.out; omega] at h1
           rw [h1]
           show (if s'.nx < bs.length then _ else _) = _
           rw [if_pos hx])
          have hlt : (len : Int) ≤ (len : Int) := by omega
          go_wp2_with (go_at_call 67; refine hc.mono ?_; rintro e w10 ⟨rfl, o10⟩)
          go_step3
          have HC := hd (HL.out.cb.step H.out o10)
          have hf := failed_any HC.out.out.1 true (by simp)
          clear hc o10
          have a0 := HC.out.cell0 0
          have a1 := HC.out.cell0 1
          have a2 := HC.out.cell0 2
          have a3 := HC.out.cell0 3
          have a4 := HC.out.cell0 4
          have a5 := HC.out.cell0 5
          have a6 := HC.out.cell0 6
          have fz := HC.out.free0
          simp at a0 a1 a2 a3 a4 a5 a6
          clear HL
          go_wp2_with (go_at_call 60; refine hf.mono ?_; rintro e wq ⟨rfl, hwq⟩; obtain rfl : w10 = wq := hwq.symm)
          simp only [Exit.jump]
          obtain ⟨e1, e2, e3⟩ := HC.out.ends H.out (.slice none 0 0) (.slice none 0 0) (.int .i64 0) (.int .i64 0) (.int .i64 0) (.int .i64 0) (.slice none 0 0)
          unfold put7 at e1 e2 e3
          generalize ((((((w10.setCell ⟨G0, 0, none⟩ (.slice none 0 0)).setCell ⟨G0, 1, none⟩ (.slice none 0 0)).setCell ⟨G0, 2, none⟩ (.int .i64 0)).setCell ⟨G0, 3, none⟩ (.int .i64 0)).setCell ⟨G0, 4, none⟩ (.int .i64 0)).setCell ⟨G0, 5, none⟩ (.int .i64 0)).setCell ⟨G0, 6, none⟩ (.slice none 0 0) = WZ at *
          have d0 := cell_of_row WZ G0 0 _ _ _ e2
          have d1 := cell_of_row WZ G0 1 _ _ _ e2
          have d2 := cell_of_row WZ G0 2 _ _ _ e2
          have d3 := cell_of_row WZ G0 3 _ _ _ e2
          have d4 := cell_of_row WZ G0 4 _ _ _ e2
          have d5 := cell_of_row WZ G0 5 _ _ _ e2
          have d6 := cell_of_row WZ G0 6 _ _ _ e2
          simp at d0 d1 d2 d3 d4 d5 d6
          refine bodyPost_ret (v := cfV (noC) noL) ?_ rfl ⟨noC, noL, _, rfl, e1, CfO.none _ _, .inr ⟨by simp, rfl, rfl, HJ.out⟩⟩
          simp [results, Tryz.results32, go_sem, cfV, cfA, noC, noL, d0, d1, d2, d3, d4, d5, d6]
         ·rw [if_neg hx, failS_ok] at hc
          have HJ : Hid (∃ q, wholeC bs = .ok (mkC L T n0 n1 n2 n3 (psOf ms)) q) := hd ⟨s'.nx, by
           have h1 := (HL.out.st.good HL.out.ok).1
           rw [show len - ms.length = 0 by have := HM.out; omega] at h1
           rw [h1]
           show (if s'.nx < bs.length then _ else _) = _
           rw [if_neg hx]⟩
          have HOK := hd (show s'.e = 0 ∧ s'.at_ = 0 from ⟨HL.out.ok, (HL.out.st.good HL.out.ok).2⟩)
          go_wp2_with (go_at_call 67; refine hc.mono ?_; rintro e w10 ⟨rfl, o10⟩)
          go_step3
          have HC := hd (HL.out.cb.step H.out o10)
          have HO := hd (HL.out.own.step o10 (by omega))
          have hf := failed_any HC.out.out.1 false (by simp [HOK.out.1])
          clear hc o10
          have c0 := HC.out.cell 0
          have c1 := HC.out.cell 1
          have c2 := HC.out.cell 2
          have c3 := HC.out.cell 3
          have c4 := HC.out.cell 4
          have c5 := HC.out.cell 5
          have c6 := HC.out.cell 6
          simp [cfA, mkC, psOf_len] at c0 c1 c2 c3 c4 c5 c6
          have a0 := HC.out.cell0 0
          have a1 := HC.out.cell0 1
          have a2 := HC.out.cell0 2
          have a3 := HC.out.cell0 3
          have a4 := HC.out.cell0 4
          have a5 := HC.out.cell0 5
          have a6 := HC.out.cell0 6
          have fz := HC.out.free0
          simp at a0 a1 a2 a3 a4 a5 a6
          clear HL
          go_wp2_with (go_at_call 60; refine hf.mono ?_; rintro e wq ⟨rfl, hwq⟩; obtain rfl : w10 = wq := hwq.symm)
          simp only [Exit.jump]
          obtain ⟨e1, e2, e3⟩ := HC.out.ends H.out (.slice la L.length lc) (.slice ta T.length tc) (.int .i64 (n0 : Int)) (.int .i64 (n1 : Int)) (.int .i64 (n2 : Int)) (.int .i64 (n3 : Int)) (.slice pa ms.length pc)
          unfold put7 at e1 e2 e3
          generalize ((((((w10.setCell ⟨G0, 0, none⟩ (.slice la L.length lc)).setCell ⟨G0, 1, none⟩ (.slice ta T.length tc)).setCell ⟨G0, 2, none⟩ (.int .i64 (n0 : Int))).setCell ⟨G0, 3, none⟩ (.int .i64 (n1 : Int))).setCell ⟨G0, 4, none⟩ (.int .i64 (n2 : Int))).setCell ⟨G0, 5, none⟩ (.int .i64 (n3 : Int))).setCell ⟨G0, 6, none⟩ (.slice pa ms.length pc) = WZ at *
          have d0 := cell_of_row WZ G0 0 _ _ _ e2
          have d1 := cell_of_row WZ G0 1 _ _ _ e2
          have d2 := cell_of_row WZ G0 2 _ _ _ e2
          have d3 := cell_of_row WZ G0 3 _ _ _ e2
          have d4 := cell_of_row WZ G0 4 _ _ _ e2
          have d5 := cell_of_row WZ G0 5 _ _ _ e2
          have d6 := cell_of_row WZ G0 6 _ _ _ e2
          simp at d0 d1 d2 d3 d4 d5 d6
          refine bodyPost_ret (v := cfV (mkC L T n0 n1 n2 n3 (psOf ms)) ⟨la, lc, ta, tc, pa, pc, ms⟩) ?_ rfl ⟨mkC L T n0 n1 n2 n3 (psOf ms), ⟨la, lc, ta, tc, pa, pc, ms⟩, _, rfl, e1, ⟨(e3 (G0 + 2) _ (by omega) HO.out).mono (by have := hG0.out; omega), rfl⟩, .inl ⟨HOK.out.1, HOK.out.2, HJ.out⟩⟩
          simp [results, Tryz.results32, go_sem, cfV, cfA, mkC, psOf_len, d0, d1, d2, d3, d4, d5, d6]
        ·have hlt : (len : Int) < (n : Int) := by omega
         go_upto_region 16 with fail
         obtain ⟨wa, hwa⟩ : ∃ W, Hid (wr.alloc (.cells #[.int .i64 0, .slice none 0 0] 57) = W) := ⟨_, rfl⟩
         rw [hwa.out]
         have hba : Below wr.heap.size wr wa := by rw [← hwa.out]; exact below_al wr _
         have HB : Hid (wa.heap[wr.heap.size]? = some (.cells #[.int .i64 0, .slice none 0 0] 57 (0, 0))) := hd (by rw [← hwa.out]; exact heap_alloc_new wr _)
         have HNE : Hid (∀ d ∈ cfD (mkC L T n0 n1 n2 n3 (psOf ms)) ⟨la, lc, ta, tc, pa, pc, ms⟩, ∀ k, blk d.a = some k → k < wr.heap.size) := hd HL.out.own.lt
         have HC := hd (HL.out.cb.below hba)
         have HO := hd (HL.out.own.below hba)
         have HS : Hid (Stage (wholeC bs) s' (bind_ (numP 1 fun n => rngE 0 ((L.length : Int) - 1) n) (fun part => bind_ (codP n2) (fun l => bind_ (repP (fun _ => prP L.length n2) (n - (ms.length + 1)) (psOf ms ++ [⟨part, l⟩])) (endP L T n0 n1 n2 n3))) bs s'.nx)) := hd (by
          rw [← rep_eq, show n - (ms.length + 1) + 1 = n - ms.length by have := HM.out; omega]
          exact HL.out.st)
         have hBG : G0 + 2 ≤ wr.heap.size := HL.out.sz
         have hNa : Hid (wr.heap.size < wa.heap.size) := hd (Array.getElem?_eq_some_iff.1 HB.out).1
         obtain ⟨Bp, hBp⟩ : ∃ B, Hid (wr.heap.size = B) := ⟨_, rfl⟩
         rw [hBp.out] at HB HNE hBG hNa ⊢
         clear hwa hba hBp HL
         have hc := part_any HC.out.out.1 L.length (by omega)
         have x0 := HC.out.cell 0
         simp [cfA, mkC] at x0
         replace HS := hd (Stage.chk HS.out)
         generalize (chkS bs 1 (fun n => rngE 0 ((L.length : Int) - 1) n) s').1 = v at *
         generalize (chkS bs 1 (fun n => rngE 0 ((L.length : Int) - 1) n) s').2 = s6 at *
         have HK : Hid (∀ W1, ROut wa r a cap bs s6 W1 → W1.heap[Bp]? = some (.cells #[.int .i64 0, .slice none 0 0] 57 (0, 0))) := hd (fun W1 o1 => (o1.2.block Bp (Array.getElem?_eq_some_iff.1 HB.out).1 (by omega)).trans HB.out)
         go_upto_region 17 with (go_at_call 65; refine hc.mono ?_; rintro e wb ⟨rfl, ob⟩; have y0 := cell_of_row wb Bp 0 _ _ _ (HK.out wb ob); have y1 : wb.frozen? ⟨Bp, 0, none⟩ = false := by { simp [World.frozen?, HK.out wb ob] }; simp at y0; replace ob := hd ob)
         replace HB := hd (heap_setCell_same wb Bp 0 _ _ (.int .i64 (v : Int)) (HK.out wb ob.out))
         replace HC := hd ((HC.out.step H.out ob.out).other H.out (show G0 + 1 < Bp by omega) 0 (.int .i64 (v : Int)))
         replace HO := hd ((HO.out.step ob.out (by omega)).other (G := Bp) (fun d hd k hk => Nat.ne_of_lt (HNE.out d hd k hk)) 0 (.int .i64 (v : Int)))
         replace hNa : Hid (Bp < wb.heap.size) := hd (Nat.lt_of_lt_of_le hNa.out ob.out.2.size)
         obtain ⟨wc, hwc⟩ : ∃ W, Hid (wb.setCell ⟨Bp, 0, none⟩ (.int .i64 (v : Int)) = W) := ⟨_, rfl⟩
         replace hNa : Hid (Bp < wc.heap.size) := hd (by rw [← hwc.out]; simpa [World.setCell] using hNa.out)
         rw [hwc.out] at HC HO HB ⊢
         simp only [List.setIfInBounds_toArray, List.set_cons_zero] at HB
         clear hwc hc x0 y0 y1 HK ob
         by_cases hz : s6.e = 0
         ·have hf := failed_any HC.out.out.1 false (by simp [hz])
          replace hz := hd hz
          have hc := program_any HC.out.out.1 (HFw.out _ _ HC.out.out).1 hr ⟨hz.out, (HS.out.good hz.out).2⟩ n2
          have x4 := HC.out.cell 4
          simp [cfA, mkC] at x4
          have HK : Hid (∀ W1 s7, ROut wc r a cap bs s7 W1 → W1.heap[Bp]? = some (.cells #[.int .i64 (v : Int), .slice none 0 0] 57 (0, 0))) := hd (fun W1 s7 o1 => (o1.2.block Bp (Array.getElem?_eq_some_iff.1 HB.out).1 (by omega)).trans HB.out)
          go_upto_region 18 with (go_at_call 60; refine hf.mono ?_; rintro e wq ⟨rfl, hwq⟩; obtain rfl : wc = wq := hwq.symm)
          clear hf
          go_upto_region 19 with (go_at_call 66; refine hc.mono ?_; rintro e wd ⟨ca, cc, l, rfl, s7, mk, st, hll⟩; have y0 := cell_of_row wd Bp 1 _ _ _ (HK.out wd s7 mk.out); have y1 : wd.frozen? ⟨Bp, 1, none⟩ = false := by { simp [World.frozen?, HK.out wd s7 mk.out] }; simp at y0; replace mk := hd mk)
          replace HS := hd (Stage.sub HS.out hz.out st)
          replace HB := hd (heap_setCell_same wd Bp 1 _ _ (.slice ca l.length cc) (HK.out wd s7 mk.out.out))
          replace HC := hd ((HC.out.step H.out mk.out.out).other H.out (show G0 + 1 < Bp by omega) 1 (.slice ca l.length cc))
          have HO2 : Hid (Owned (G0 + 2) wd (prD ⟨⟨v, l⟩, ca, cc⟩ :: cfD (mkC L T n0 n1 n2 n3 (psOf ms)) ⟨la, lc, ta, tc, pa, pc, ms⟩)) := hd (HO.out.add (by omega) (by have := hNa.out; omega) mk.out)
          replace HO : Hid (Owned (G0 + 2) (wd.setCell ⟨Bp, 1, none⟩ (.slice ca l.length cc)) (prD ⟨⟨v, l⟩, ca, cc⟩ :: cfD (mkC L T n0 n1 n2 n3 (psOf ms)) ⟨la, lc, ta, tc, pa, pc, ms⟩)) := hd (HO2.out.other (G := Bp) (fun d hd k hk => by
           rcases List.mem_cons.1 hd with rfl | hd
           ·have h1 := mk.out.new k hk
            have := hNa.out
            omega
           ·exact Nat.ne_of_lt (HNE.out d hd k hk)) 1 (.slice ca l.length cc))
          have hNd : Hid (Bp < wd.heap.size) := hd (Nat.lt_of_lt_of_le hNa.out mk.out.out.2.size)
          obtain ⟨we, hwe⟩ : ∃ W, Hid (wd.setCell ⟨Bp, 1, none⟩ (.slice ca l.length cc) = W) := ⟨_, rfl⟩
          replace hNd : Hid (Bp < we.heap.size) := hd (by rw [← hwe.out]; simpa [World.setCell] using hNd.out)
          rw [hwe.out] at HC HO HB ⊢
          simp only [List.setIfInBounds_toArray, List.set_cons_zero, List.set_cons_succ] at HB
          clear hwe hc x4 y0 y1 HK mk st HO2 hz hNa
          by_cases hz : s7.e = 0
          ·have hf := failed_any HC.out.out.1 false (by simp [hz])
           replace hz := hd hz
           have x6 := HC.out.cell 6
           simp [cfA, mkC, psOf_len, HM.out] at x6
           have z0 := cell_of_row we Bp 0 _ _ _ HB.out
           have z1 := cell_of_row we Bp 1 _ _ _ HB.out
           simp at z0 z1
           have HR : Hid (Row we 57 2 pa len pc (psC ms)) := hd (by
            have h1 := HO.out.ok ⟨57, 2, pa, (psOf ms).length, pc, psC ms⟩ (by simp [cfD, mkC])
            rw [psOf_len, HM.out] at h1
            exact h1)
           obtain ⟨pa', pc', wf, hap, hR, hmo, hnw⟩ := push_any Tryz.underlying25 info_proc rfl (by omega) HR.out (by omega) (prC ⟨⟨v, l⟩, ca, cc⟩) rfl (prC_one _)
           rw [← HM.out] at hR
           have HE := hd (LpIq.more (n := n) H.out hrG HC.out HO.out (by have := hNd.out; omega) hmo hR hnw (by exact HS.out) hz.out)
           rw [HM.out] at HE
           have g1 := HE.out.1.1
           have g2 := HE.out.1.2
           replace hap : Hid (∀ ty, (Builtin.append_ #[25, 25] ty #[.slice pa len pc, .slice (some ⟨we.heap.size, 0, none⟩) 1 1]).run Tryz.prog (we.alloc (.cells #[.int .i64 (v : Int), .slice ca l.length cc] 57)) = .ok (.slice pa' (len + 1) pc') wf) := hd hap
           clear HR HB HC HO HS hmo hnw hR HNE hNd
           go_wp2_with (first | (go_at_call 60; refine hf.mono ?_; rintro e wq ⟨rfl, hwq⟩; obtain rfl : we = wq := hwq.symm) | (at_builtin; refine wpList_append_run rfl _ _ _ rfl _ _ _ _ rfl rfl hap.out ?_; clear hap))
           go_roundg (gk - 1)
           case rel => exact ⟨ms ++ [⟨⟨v, l⟩, ca, cc⟩], len + 1, pa', pc', s7, by go_num, by omega, hd (by simp [HM.out]), hd HE.out.2⟩
           case measure => omega
          ·have hf := failed_any HC.out.out.1 true (by simp [hz])
           have HJ := hd (show s7.e ≠ 0 ∧ wholeC bs = .er s7.e s7.at_ from ⟨hz, HS.out.bad hz⟩)
           clear hz
           go_wp2_with (go_at_call 60; refine hf.mono ?_; rintro e wq ⟨rfl, hwq⟩; obtain rfl : we = wq := hwq.symm)
           go_step3
           exact And.intro rfl ⟨⟨_, _, _, _, _, _, _, _, _, _, _, _, _, _, _, _, _, _, _, _, _, _, _, _, _, _, _, _, _, _, _, _, _, _, _, _, _, _, _, _, _, _, _, _, _, _, _, _, _, _, _, _, _, _, _, _, _, _, _, _, _, _, _, _, _, _, _, _, rfl⟩, s7, _, HJ.out.1, HJ.out.2, HC.out⟩
         ·have hf := failed_any HC.out.out.1 true (by simp [hz])
          have HJ := hd (show s6.e ≠ 0 ∧ wholeC bs = .er s6.e s6.at_ from ⟨hz, HS.out.bad hz⟩)
          clear hz
          go_wp2_with (go_at_call 60; refine hf.mono ?_; rintro e wq ⟨rfl, hwq⟩; obtain rfl : wc = wq := hwq.symm)
          go_step3
          exact And.intro rfl ⟨⟨_, _, _, _, _, _, _, _, _, _, _, _, _, _, _, _, _, _, _, _, _, _, _, _, _, _, _, _, _, _, _, _, _, _, _, _, _, _, _, _, _, _, _, _, _, _, _, _, _, _, _, _, _, _, _, _, _, _, _, _, _, _, _, _, _, _, _, _, rfl⟩, s6, _, HJ.out.1, HJ.out.2, HC.out⟩
      ·have hf := failed_any HC.out.out.1 true (by simp [hz])
       have HJ := hd (show s5.e ≠ 0 ∧ wholeC bs = .er s5.e s5.at_ from ⟨hz, HS.out.bad hz⟩)
       clear hz
       go_wp2_with (go_at_call 60; refine hf.mono ?_; rintro e wq ⟨rfl, hwq⟩; obtain rfl : w9 = wq := hwq.symm)
       go_step3
       exact And.intro rfl ⟨⟨_, _, _, _, _, _, _, _, _, _, _, _, _, _, _, _, _, _, _, _, _, _, _, _, _, _, _, _, _, _, _, _, _, _, _, _, _, _, _, _, _, _, _, _, _, _, _, _, _, _, _, _, _, _, _, _, _, _, _, _, _, _, _, _, _, _, _, _, rfl⟩, s5, _, HJ.out.1, HJ.out.2, HC.out⟩
     ·have hf := failed_any HC.out.out.1 true (by simp [hz])
      have HJ := hd (show s4.e ≠ 0 ∧ wholeC bs = .er s4.e s4.at_ from ⟨hz, HS.out.bad hz⟩)
      clear hz
      go_wp2_with (go_at_call 60; refine hf.mono ?_; rintro e wq ⟨rfl, hwq⟩; obtain rfl : w8 = wq := hwq.symm)
      go_step3
      exact And.intro rfl ⟨⟨_, _, _, _, _, _, _, _, _, _, _, _, _, _, _, _, _, _, _, _, _, _, _, _, _, _, _, _, _, _, _, _, _, _, _, _, _, _, _, _, _, _, _, _, _, _, _, _, _, _, _, _, _, _, _, _, _, _, _, _, _, _, _, _, _, _, _, _, rfl⟩, s4, _, HJ.out.1, HJ.out.2, HC.out⟩
    ·have hf := failed_any HC.out.out.1 true (by simp [hz])
     have HJ := hd (show s3.e ≠ 0 ∧ wholeC bs = .er s3.e s3.at_ from ⟨hz, HS.out.bad hz⟩)
     clear hz
     go_wp2_with (go_at_call 60; refine hf.mono ?_; rintro e wq ⟨rfl, hwq⟩; obtain rfl : w6 = wq := hwq.symm)
     go_step3
     exact And.intro rfl ⟨⟨_, _, _, _, _, _, _, _, _, _, _, _, _, _, _, _, _, _, _, _, _, _, _, _, _, _, _, _, _, _, _, _, _, _, _, _, _, _, _, _, _, _, _, _, _, _, _, _, _, _, _, _, _, _, _, _, _, _, _, _, _, _, _, _, _, _, _, _, rfl⟩, s3, _, HJ.out.1, HJ.out.2, HC.out⟩
   ·have hf := failed_any HC.out.out.1 true (by simp [hz])
    have HJ := hd (show s2.e ≠ 0 ∧ wholeC bs = .er s2.e s2.at_ from ⟨hz, HS.out.bad hz⟩)
    clear hz
    go_wp2_with (go_at_call 60; refine hf.mono ?_; rintro e wq ⟨rfl, hwq⟩; obtain rfl : w4 = wq := hwq.symm)
    go_step3
    exact And.intro rfl ⟨⟨_, _, _, _, _, _, _, _, _, _, _, _, _, _, _, _, _, _, _, _, _, _, _, _, _, _, _, _, _, _, _, _, _, _, _, _, _, _, _, _, _, _, _, _, _, _, _, _, _, _, _, _, _, _, _, _, _, _, _, _, _, _, _, _, _, _, _, _, rfl⟩, s2, _, HJ.out.1, HJ.out.2, HC.out⟩
  ·have hf := failed_any HC.out.out.1 true (by simp [hz])
   have HJ := hd (show s1.e ≠ 0 ∧ wholeC bs = .er s1.e s1.at_ from ⟨hz, HS.out.bad hz⟩)
   clear hz
   go_wp2_with (go_at_call 60; refine hf.mono ?_; rintro e wq ⟨rfl, hwq⟩; obtain rfl : w2 = wq := hwq.symm)
   go_step3
   exact And.intro rfl ⟨⟨_, _, _, _, _, _, _, _, _, _, _, _, _, _, _, _, _, _, _, _, _, _, _, _, _, _, _, _, _, _, _, _, _, _, _, _, _, _, _, _, _, _, _, _, _, _, _, _, _, _, _, _, _, _, _, _, _, _, _, _, _, _, _, _, _, _, _, _, rfl⟩, s1, _, HJ.out.1, HJ.out.2, HC.out⟩
 ·rintro a' W ⟨⟨u1, u4, u5, u6, u7, u8, u9, u10, u11, u12, u13, u14, u15, u16, u17, u18, u19, u20, u21, u22, u23, u24, u25, u26, u27, u28, u29, u30, u31, u32, u33, u34, u35, u36, u37, u38, u39, u40, u41, u42, u43, u44, u45, u46, u47, u48, u49, u50, u51, u52, u53, u54, u55, u56, u57, u58, u59, u60, u61, u62, u63, u64, u65, u66, u67, u68, u69, u70, rfl⟩, s', xs, hz, hw, hcb⟩
  have HC := hd hcb
  have HJ := hd hw
  have HZ2 := hd hz
  have hf := failed_any HC.out.out.1 true (by simp [HZ2.out])
  clear hcb hw hz
  have a0 := HC.out.cell0 0
  have a1 := HC.out.cell0 1
  have a2 := HC.out.cell0 2
  have a3 := HC.out.cell0 3
  have a4 := HC.out.cell0 4
  have a5 := HC.out.cell0 5
  have a6 := HC.out.cell0 6
  have fz := HC.out.free0
  simp at a0 a1 a2 a3 a4 a5 a6
  go_wp2_with (go_at_call 60; refine hf.mono ?_; rintro e wq ⟨rfl, hwq⟩; obtain rfl : W = wq := hwq.symm)
  simp only [Exit.jump]
  obtain ⟨e1, e2, e3⟩ := HC.out.ends H.out (.slice none 0 0) (.slice none 0 0) (.int .i64 0) (.int .i64 0) (.int .i64 0) (.int .i64 0) (.slice none 0 0)
  unfold put7 at e1 e2 e3
  generalize ((((((W.setCell ⟨G0, 0, none⟩ (.slice none 0 0)).setCell ⟨G0, 1, none⟩ (.slice none 0 0)).setCell ⟨G0, 2, none⟩ (.int .i64 0)).setCell ⟨G0, 3, none⟩ (.int .i64 0)).setCell ⟨G0, 4, none⟩ (.int .i64 0)).setCell ⟨G0, 5, none⟩ (.int .i64 0)).setCell ⟨G0, 6, none⟩ (.slice none 0 0) = WZ at *
  have d0 := cell_of_row WZ G0 0 _ _ _ e2
  have d1 := cell_of_row WZ G0 1 _ _ _ e2
  have d2 := cell_of_row WZ G0 2 _ _ _ e2
  have d3 := cell_of_row WZ G0 3 _ _ _ e2
  have d4 := cell_of_row WZ G0 4 _ _ _ e2
  have d5 := cell_of_row WZ G0 5 _ _ _ e2
  have d6 := cell_of_row WZ G0 6 _ _ _ e2
  simp at d0 d1 d2 d3 d4 d5 d6
  refine bodyPost_ret (v := cfV (noC) noL) ?_ rfl ⟨noC, noL, _, rfl, e1, CfO.none _ _, .inr ⟨HZ2.out, rfl, rfl, HJ.out⟩⟩
  simp [results, Tryz.results32, go_sem, cfV, cfA, noC, noL, d0, d1, d2, d3, d4, d5, d6]
end
end Go.Proofs.YthhcecllejddeaaGreatDoor

namespace Go.Proofs.YthhcecllejddeaaGreatDoor
open Go.RowKit
def DecOut (w : World) (bs : List Nat) (e : Ending) (w' : World) : Prop :=
 ∃ g, e = .returned (.tuple #[cfV (decF bs).1 g, .int .i64 (decF bs).2.1, .int .i64 (decF bs).2.2]) ∧ CfO w.heap.size w' (decF bs).1 g ∧ Below w.heap.size w w'
theorem decF_long {bs : List Nat} (h : 1048576 < bs.length) : decF bs = (noC, 22, 1048576) := by
 unfold decF decC
 rw [if_pos h]
theorem decF_ok {bs : List Nat} {c : Cfg} {q : Nat} (h : ¬ 1048576 < bs.length) (hw : wholeC bs = .ok c q) : decF bs = (c, 0, 0) := by
 unfold decF decC
 rw [if_neg h]
 show (match wholeC bs with | .ok c _ => (c, 0, 0) | .er e a => (noC, e, a)) = _
 rw [hw]
theorem decF_er {bs : List Nat} {e a : Int} (h : ¬ 1048576 < bs.length) (hw : wholeC bs = .er e a) : decF bs = (noC, e, a) := by
 unfold decF decC
 rw [if_neg h]
 show (match wholeC bs with | .ok c _ => (c, 0, 0) | .er e a => (noC, e, a)) = _
 rw [hw]
theorem put7_out {W : World} {G : Nat} {x0 x1 x2 x3 x4 x5 x6 : Value} (h : W.heap[G]? = some (.cells #[x0, x1, x2, x3, x4, x5, x6] 27 (0, 0))) (v0 v1 v2 v3 v4 v5 v6 : Value) :
  (put7 W G v0 v1 v2 v3 v4 v5 v6).heap[G]? = some (.cells #[v0, v1, v2, v3, v4, v5, v6] 27 (0, 0)) ∧ Mod (fun k => k = G) W (put7 W G v0 v1 v2 v3 v4 v5 v6) :=
 ⟨seven_cells h, (((((((Mod.refl (fun k => k = G) W).setCell (.inl rfl) _).setCell (.inl rfl) _).setCell (.inl rfl) _).setCell (.inl rfl) _).setCell (.inl rfl) _).setCell (.inl rfl) _).setCell (.inl rfl) _⟩
theorem Fld.two {w : World} (h : Fld w) : 2 ≤ w.heap.size := by
 have := World.block_lt_of_cell? w _ (h 0 (by omega))
 simp only at this
 omega
set_option maxRecDepth 100000 in
set_option maxHeartbeats 2000000 in
theorem cdecode_long (a : Option Addr) (cap n : Nat) (w : World) (hn : 1048576 < n) :
  Calls Tryz.prog 18 #[.slice a n cap] w fun e w' => e = .returned (.tuple #[cfV noC noL, .int .i64 22, .int .i64 1048576]) ∧ Below w.heap.size w w' := by
 have hn' : (1048576 : Int) < (n : Int) := by omega
 have hb0 := hd (below_al w (.cells #[.slice none 0 0, .slice none 0 0, .int .i64 0, .int .i64 0, .int .i64 0, .int .i64 0, .slice none 0 0] 27))
 have hh := hd (heap_alloc_new w (.cells #[.slice none 0 0, .slice none 0 0, .int .i64 0, .int .i64 0, .int .i64 0, .int .i64 0, .slice none 0 0] 27))
 go_enter Tryz.func18, Tryz.ntmps18
 go_upto_region 1 with fail
 obtain ⟨w1, hw1⟩ : ∃ W, Hid (w.alloc (.cells #[.slice none 0 0, .slice none 0 0, .int .i64 0, .int .i64 0, .int .i64 0, .int .i64 0, .slice none 0 0] 27) = W) := ⟨_, rfl⟩
 rw [hw1.out] at hb0 hh ⊢
 obtain ⟨G, hG⟩ : ∃ G, Hid (w.heap.size = G) := ⟨_, rfl⟩
 rw [hG.out] at hh ⊢
 clear hw1
 have a0 := cell_of_row w1 G 0 _ _ _ hh.out
 have a1 := cell_of_row w1 G 1 _ _ _ hh.out
 have a2 := cell_of_row w1 G 2 _ _ _ hh.out
 have a3 := cell_of_row w1 G 3 _ _ _ hh.out
 have a4 := cell_of_row w1 G 4 _ _ _ hh.out
 have a5 := cell_of_row w1 G 5 _ _ _ hh.out
 have a6 := cell_of_row w1 G 6 _ _ _ hh.out
 simp at a0 a1 a2 a3 a4 a5 a6
 have fz : ∀ i, w1.frozen? ⟨G, i, none⟩ = false := fun i => by simp [World.frozen?, hh.out]
 go_wp2_with fail
 obtain ⟨e2, e3⟩ := put7_out hh.out (.slice none 0 0) (.slice none 0 0) (.int .i64 0) (.int .i64 0) (.int .i64 0) (.int .i64 0) (.slice none 0 0)
 unfold put7 at e2 e3
 generalize ((((((w1.setCell ⟨G, 0, none⟩ (.slice none 0 0)).setCell ⟨G, 1, none⟩ (.slice none 0 0)).setCell ⟨G, 2, none⟩ (.int .i64 0)).setCell ⟨G, 3, none⟩ (.int .i64 0)).setCell ⟨G, 4, none⟩ (.int .i64 0)).setCell ⟨G, 5, none⟩ (.int .i64 0)).setCell ⟨G, 6, none⟩ (.slice none 0 0) = WZ at *
 have d0 := cell_of_row WZ G 0 _ _ _ e2
 have d1 := cell_of_row WZ G 1 _ _ _ e2
 have d2 := cell_of_row WZ G 2 _ _ _ e2
 have d3 := cell_of_row WZ G 3 _ _ _ e2
 have d4 := cell_of_row WZ G 4 _ _ _ e2
 have d5 := cell_of_row WZ G 5 _ _ _ e2
 have d6 := cell_of_row WZ G 6 _ _ _ e2
 simp at d0 d1 d2 d3 d4 d5 d6
 refine bodyPost_ret (v := .tuple #[cfV noC noL, .int .i64 22, .int .i64 1048576]) ?_ rfl ⟨rfl, ?_⟩
 ·simp [results, Tryz.results18, go_sem, cfV, cfA, noC, noL, d0, d1, d2, d3, d4, d5, d6]
 ·have := hb0.out.size
  exact hb0.out.trans (e3.below (by omega) (fun k _ hk => by have := hG.out; omega))
set_option maxRecDepth 100000 in
set_option maxHeartbeats 2000000 in
theorem cdecode_short (a : Option Addr) (cap : Nat) (bs : List Nat) (w : World) (hR : Rd w a (bCells bs)) (hb : Byte bs) (hcap : bs.length ≤ cap) (hF : Fld w) (hL : Lim w) (hn : ¬ 1048576 < bs.length) :
  Calls Tryz.prog 18 #[.slice a bs.length cap] w (DecOut w bs) := by
 have hn' : (bs.length : Int) ≤ 1048576 := by omega
 have hnd : decide ((1048576 : Int) < (bs.length : Int)) = false := by simp; omega
 have h2 := hF.two
 have HE : Hid (∀ (c : Cfg) (g : Loc) (s' : St) (W : World), CfO w.heap.size W c g → Below w.heap.size w W → ((s'.e = 0 ∧ s'.at_ = 0 ∧ ∃ q, wholeC bs = .ok c q) ∨ (s'.e ≠ 0 ∧ c = noC ∧ g = noL ∧ wholeC bs = .er s'.e s'.at_)) → DecOut w bs (.returned (.tuple #[cfV c g, .int .i64 s'.e, .int .i64 s'.at_])) W) := hd (by
  rintro c g s' W ho hw (⟨h1, h2, q, h3⟩ | ⟨h1, rfl, rfl, h3⟩)
  ·refine ⟨g, ?_, ?_, hw⟩
   ·rw [decF_ok hn h3, h1, h2]
   ·rw [decF_ok hn h3]
    exact ho
  ·refine ⟨noL, ?_, ?_, hw⟩
   ·rw [decF_er hn h3]
   ·rw [decF_er hn h3]
    exact CfO.none _ _)
 go_enter Tryz.func18, Tryz.ntmps18
 go_upto_region 4 with fail
 obtain ⟨w1, hw1⟩ : ∃ W, Hid ((w.alloc (.cells #[.slice none 0 0, .slice none 0 0, .int .i64 0, .int .i64 0, .int .i64 0, .int .i64 0, .slice none 0 0] 27)).alloc (.cells #[.slice a bs.length cap, .int .i64 0, .int .i64 0, .int .i64 0, .int .i64 0] 88) = W) := ⟨_, rfl⟩
 rw [hw1.out]
 have hb1 : Below w.heap.size w w1 := by rw [← hw1.out]; exact ((Below.refl _ w).alloc (Nat.le_refl _) _).alloc (by simp) _
 have HG : Hid (w1.heap[w.heap.size]? = some (.cells #[.slice none 0 0, .slice none 0 0, .int .i64 0, .int .i64 0, .int .i64 0, .int .i64 0, .slice none 0 0] 27 (0, 0))) := hd (by
  rw [← hw1.out, (below_al _ _).block _ (by simp)]
  exact heap_alloc_new w _)
 have HR : Hid (RdAt w1 (w.heap.size + 1) a cap bs ⟨0, 0, 0, 0⟩) := hd (by
  refine ⟨?_, hR.below hb1, ?_, hb, by omega, hcap, Nat.zero_le _, Nat.zero_le _⟩
  ·rw [← hw1.out, show w.heap.size + 1 = (w.alloc (.cells #[.slice none 0 0, .slice none 0 0, .int .i64 0, .int .i64 0, .int .i64 0, .int .i64 0, .slice none 0 0] 27)).heap.size by simp]
   exact heap_alloc_new _ _
  ·intro hz k hk e
   obtain ⟨b, o, rfl, hc⟩ := hR 0 (.int .u8 ((bs.getD 0 0 : Nat) : Int)) (by simp [bCells, List.getD_eq_getElem?_getD, List.getElem?_eq_getElem (show 0 < bs.length by omega)])
   have := World.block_lt_of_cell? w _ hc
   cases hk
   simp only at this e
   omega)
 have hfl := hF.kept hb1
 have hlm := hL.kept hb1
 have hc := config_any HR.out hfl hlm (by omega) ⟨rfl, rfl, rfl⟩
 have hs1 : Hid (w1.heap.size = w.heap.size + 2) := hd (by rw [← hw1.out]; simp)
 have HB1 := hd hb1
 obtain ⟨G, hG⟩ : ∃ G, Hid (w.heap.size = G) := ⟨_, rfl⟩
 rw [hG.out] at HR HG hc ⊢
 clear hb1 hw1 hfl hlm hF hL hR h2
 go_upto_region 5 with (go_at_call 32; refine hc.mono ?_; rintro e w2 ⟨c, g, s', rfl, o2, ho2, hres⟩; unfold cfV cfA; replace o2 := hd o2; replace ho2 := hd ho2; replace hres := hd hres)
 obtain ⟨w3, hw3⟩ : ∃ W, Hid (w2.alloc (.cells #[.slice g.la c.labels.length g.lc, .slice g.ta c.table.length g.tc, .int .i64 c.fuel, .int .i64 c.lane, .int .i64 c.locks, .int .i64 c.log, .slice g.pa c.procs.length g.pc] 27) = W) := ⟨_, rfl⟩
 rw [hw3.out]
 have hb3 : Below w2.heap.size w2 w3 := by rw [← hw3.out]; exact below_al w2 _
 have HB : Hid (w3.heap[w2.heap.size]? = some (.cells #[.slice g.la c.labels.length g.lc, .slice g.ta c.table.length g.tc, .int .i64 c.fuel, .int .i64 c.lane, .int .i64 c.locks, .int .i64 c.log, .slice g.pa c.procs.length g.pc] 27 (0, 0))) := hd (by rw [← hw3.out]; exact heap_alloc_new w2 _)
 have hG2 : w2.heap[G]? = some (.cells #[.slice none 0 0, .slice none 0 0, .int .i64 0, .int .i64 0, .int .i64 0, .int .i64 0, .slice none 0 0] 27 (0, 0)) := (o2.out.2.block G (Array.getElem?_eq_some_iff.1 HG.out).1 (by omega)).trans HG.out
 have HG3 : Hid (w3.heap[G]? = some (.cells #[.slice none 0 0, .slice none 0 0, .int .i64 0, .int .i64 0, .int .i64 0, .int .i64 0, .slice none 0 0] 27 (0, 0))) := hd ((hb3.block G (Array.getElem?_eq_some_iff.1 hG2).1).trans hG2)
 have HR3 := hd (o2.out.1.below hb3)
 have hsz : G + 2 ≤ w2.heap.size := by have h1 := o2.out.2.size; have h2 := hs1.out; have h3 := hG.out; omega
 have HO3 : Hid (CfO w1.heap.size w3 c g) := hd (ho2.out.below hb3)
 have HB3 : Hid (Below w.heap.size w w3) := hd (HB1.out.trans ((o2.out.2.below (B := w.heap.size) (by have := hs1.out; omega) (fun k _ hk => by have := hG.out; omega)).trans (hb3.mono (by have := hG.out; omega))))
 obtain ⟨B2, hB2⟩ : ∃ B, Hid (w2.heap.size = B) := ⟨_, rfl⟩
 rw [hB2.out] at HB hsz ⊢
 clear hw3 hb3 hB2 hG2 o2 ho2 hc HG HR
 have a0 := cell_of_row w3 G 0 _ _ _ HG3.out
 have a1 := cell_of_row w3 G 1 _ _ _ HG3.out
 have a2 := cell_of_row w3 G 2 _ _ _ HG3.out
 have a3 := cell_of_row w3 G 3 _ _ _ HG3.out
 have a4 := cell_of_row w3 G 4 _ _ _ HG3.out
 have a5 := cell_of_row w3 G 5 _ _ _ HG3.out
 have a6 := cell_of_row w3 G 6 _ _ _ HG3.out
 have b0 := cell_of_row w3 B2 0 _ _ _ HB.out
 have b1 := cell_of_row w3 B2 1 _ _ _ HB.out
 have b2 := cell_of_row w3 B2 2 _ _ _ HB.out
 have b3 := cell_of_row w3 B2 3 _ _ _ HB.out
 have b4 := cell_of_row w3 B2 4 _ _ _ HB.out
 have b5 := cell_of_row w3 B2 5 _ _ _ HB.out
 have b6 := cell_of_row w3 B2 6 _ _ _ HB.out
 simp at a0 b0 a1 b1 a2 b2 a3 b3 a4 b4 a5 b5 a6 b6
 have fz : ∀ i, w3.frozen? ⟨G, i, none⟩ = false := fun i => by simp [World.frozen?, HG3.out]
 have r3 := HR3.out.cells.2.2.2.1
 have r4 := HR3.out.cells.2.2.2.2
 have ne1 : G ≠ B2 := by omega
 have ne2 : G ≠ G + 1 := by omega
 go_region_held3 (fun w' => w'.cell? ⟨G + 1, 3, none⟩ = some (.int .i64 s'.e) ∧ w'.cell? ⟨G + 1, 4, none⟩ = some (.int .i64 s'.at_) ∧ w'.cell? ⟨B2, 0, none⟩ = some (.slice g.la c.labels.length g.lc) ∧ w'.cell? ⟨B2, 1, none⟩ = some (.slice g.ta c.table.length g.tc) ∧ w'.cell? ⟨B2, 2, none⟩ = some (.int .i64 c.fuel) ∧ w'.cell? ⟨B2, 3, none⟩ = some (.int .i64 c.lane) ∧ w'.cell? ⟨B2, 4, none⟩ = some (.int .i64 c.locks) ∧ w'.cell? ⟨B2, 5, none⟩ = some (.int .i64 c.log) ∧ w'.cell? ⟨B2, 6, none⟩ = some (.slice g.pa c.procs.length g.pc)) (go_keep) (fail)
 go_wp2_with fail
 obtain ⟨e2, e3⟩ := put7_out HG3.out (.slice g.la c.labels.length g.lc) (.slice g.ta c.table.length g.tc) (.int .i64 c.fuel) (.int .i64 c.lane) (.int .i64 c.locks) (.int .i64 c.log) (.slice g.pa c.procs.length g.pc)
 unfold put7 at e2 e3
 generalize ((((((w3.setCell ⟨G, 0, none⟩ (.slice g.la c.labels.length g.lc)).setCell ⟨G, 1, none⟩ (.slice g.ta c.table.length g.tc)).setCell ⟨G, 2, none⟩ (.int .i64 c.fuel)).setCell ⟨G, 3, none⟩ (.int .i64 c.lane)).setCell ⟨G, 4, none⟩ (.int .i64 c.locks)).setCell ⟨G, 5, none⟩ (.int .i64 c.log)).setCell ⟨G, 6, none⟩ (.slice g.pa c.procs.length g.pc) = WZ at *
 have d0 := cell_of_row WZ G 0 _ _ _ e2
 have d1 := cell_of_row WZ G 1 _ _ _ e2
 have d2 := cell_of_row WZ G 2 _ _ _ e2
 have d3 := cell_of_row WZ G 3 _ _ _ e2
 have d4 := cell_of_row WZ G 4 _ _ _ e2
 have d5 := cell_of_row WZ G 5 _ _ _ e2
 have d6 := cell_of_row WZ G 6 _ _ _ e2
 simp at d0 d1 d2 d3 d4 d5 d6
 have HO4 : CfO w.heap.size WZ.drew c g := by
  have h1 := HO3.out.own.mod e3 (fun d hd k hk e => by have h1 := HO3.out.own.new d hd k hk; have h2 := hs1.out; have h3 := hG.out; omega)
  exact ⟨(h1.below (below_draw WZ 1)).mono (by have := hs1.out; omega), HO3.out.ps⟩
 have HB4 : Below w.heap.size w WZ.drew := (HB3.out.trans (e3.below (B := w.heap.size) HB3.out.size (fun k _ hk => by have := hG.out; omega))).trans ((below_draw WZ 1).mono (by have h1 := HB3.out.size; have h2 := e3.size; omega))
 have HF4 := HE.out c g s' WZ.drew HO4 HB4 hres.out
 refine bodyPost_ret (v := .tuple #[cfV c g, .int .i64 s'.e, .int .i64 s'.at_]) ?_ rfl HF4
 simp [results, Tryz.results18, go_sem, cfV, cfA, d0, d1, d2, d3, d4, d5, d6]
theorem cdecode_any (a : Option Addr) (cap : Nat) (bs : List Nat) (w : World) (hR : Rd w a (bCells bs)) (hb : Byte bs) (hcap : bs.length ≤ cap) (hF : Fld w) (hL : Lim w) :
  Calls Tryz.prog 18 #[.slice a bs.length cap] w (DecOut w bs) := by
 by_cases hn : 1048576 < bs.length
 ·refine (cdecode_long a cap bs.length w hn).mono fun e w' ⟨he, hb⟩ => ⟨noL, ?_, ?_, hb⟩
  ·rw [decF_long hn]
   exact he
  ·rw [decF_long hn]
   exact CfO.none _ _
 ·exact cdecode_short a cap bs w hR hb hcap hF hL hn
end Go.Proofs.YthhcecllejddeaaGreatDoor
