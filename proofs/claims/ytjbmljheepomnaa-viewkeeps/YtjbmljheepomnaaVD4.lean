/- The document's copy of a state. -/
import Derived.Test.YtjbmljheepomnaaVD3
import Derived.Test.YtjbmljheepomnaaVD2
namespace Go.Proofs.Ytjbmljheepomnaa
open Go.RowKit

theorem two_al (w : World) (o1 o2 : Obj) : ((w.alloc o1).alloc o2).heap[w.heap.size]? = some o1 ∧ ((w.alloc o1).alloc o2).heap[w.heap.size + 1]? = some o2 ∧ ((w.alloc o1).alloc o2).heap.size = w.heap.size + 2 ∧ Below w.heap.size w ((w.alloc o1).alloc o2) := by
  have s1 : (w.alloc o1).heap.size = w.heap.size + 1 := by simp
  have h1 := heap_alloc_new w o1
  have h2 := heap_alloc_new (w.alloc o1) o2
  rw [s1] at h2
  have b2 := below_al (w.alloc o1) o2
  exact ⟨(b2.block _ (by omega)).trans h1, h2, by simp, (below_al w o1).alloc (by omega) o2⟩
set_option maxRecDepth 100000 in
set_option maxHeartbeats 16000000 in
theorem copyState_any {w : World} {cs : List Value} {x : StX} (hx : sE w cs x) (hf : StFew x) : Calls Try.prog 14 #[.agg cs.toArray] w (ROfOut w x) := by
  obtain ⟨tk, pp, pq⟩ := x
  obtain ⟨u, v, e1, k1, k2⟩ := hx
  obtain ⟨hf1, hf2, f3, f4⟩ := hf
  simp only at e1 k1 k2 hf1 hf2 f3 f4
  subst e1
  obtain ⟨la, lc, rfl, -, hA⟩ := k1.at' (by decide)
  obtain ⟨lb, ld, rfl, -, hB⟩ := k2.at' (by decide)
  have HA := hd hA
  have HB := hd hB
  have F3 := hd f3
  have F4 := hd f4
  obtain ⟨Q0, hQ⟩ : ∃ Q, Hid (ROfOut w ⟨tk, pp, pq⟩ = Q) := ⟨_, rfl⟩
  rw [hQ.out]
  obtain ⟨np, hnp⟩ : ∃ n, Hid (pp.length = n) := ⟨_, rfl⟩
  obtain ⟨nq, hnq⟩ : ∃ n, Hid (pq.length = n) := ⟨_, rfl⟩
  rw [hnp.out] at HA hf1 ⊢
  rw [hnq.out] at HB hf2 ⊢
  have F1 := hd hf1
  have F2 := hd hf2
  clear hA hB k1 k2 f3 f4
  go_enter Try.func14, Try.ntmps14
  go_upto_region 1 with fail
  obtain ⟨h1, h2, h4, h5⟩ := two_al w (.cells #[.int .i64 tk, .slice la np lc, .slice lb nq ld] 30) (.cells #[.int .i64 0, .slice none 0 0, .slice none 0 0] 30)
  obtain ⟨W0, hW0⟩ : ∃ W, Hid ((w.alloc (.cells #[.int .i64 tk, .slice la np lc, .slice lb nq ld] 30)).alloc (.cells #[.int .i64 0, .slice none 0 0, .slice none 0 0] 30) = W) := ⟨_, rfl⟩
  rw [hW0.out] at h1 h2 h4 h5 ⊢
  obtain ⟨B, hB⟩ : ∃ n, Hid (w.heap.size = n) := ⟨_, rfl⟩
  rw [hB.out] at h1 h2 h4 ⊢
  obtain ⟨B1, hB1⟩ : ∃ n, Hid (B + 1 = n) := ⟨_, rfl⟩
  rw [hB1.out] at h2 ⊢
  have x0 := box_at1 h1 (j := 0) rfl
  simp at x0
  go_upto_region 2 with fail
  have hal := heap_alloc_new W0 (.cells #[.int .i64 tk, .slice none 0 0, .slice none 0 0] 30)
  have hbl := below_al W0 (.cells #[.int .i64 tk, .slice none 0 0, .slice none 0 0] 30)
  have hsz : (W0.alloc (.cells #[.int .i64 tk, .slice none 0 0, .slice none 0 0] 30)).heap.size = W0.heap.size + 1 := by simp
  obtain ⟨W1, hW1⟩ : ∃ W, Hid (W0.alloc (.cells #[.int .i64 tk, .slice none 0 0, .slice none 0 0] 30) = W) := ⟨_, rfl⟩
  rw [hW1.out] at hal hbl hsz ⊢
  obtain ⟨gs, hgs0⟩ : ∃ n, Hid (B + 2 = n) := ⟨_, rfl⟩
  rw [h4, hgs0.out] at hal hsz
  rw [hgs0.out]
  have hgs : Hid (W0.heap.size = gs) := hd (by rw [h4, hgs0.out])
  have HSZ := hd hsz
  have BG1 := hd hal
  have BW1 : Hid (Below w.heap.size w W1) := hd (h5.trans (hbl.mono h5.size))
  have HX : Hid (∀ wr, Mod (fun k => k = gs) W1 wr → wr.heap[B]? = some (.cells #[.int .i64 tk, .slice la np lc, .slice lb nq ld] 30 (0, 0)) ∧ wr.heap[B1]? = some (.cells #[.int .i64 0, .slice none 0 0, .slice none 0 0] 30 (0, 0)) ∧ Below w.heap.size w wr) := hd (fun wr h => by
    have hb1 := hB1.out
    have hb2 := hgs0.out
    have hg := hgs.out
    have hbw := BW1.out.size
    refine ⟨?_, ?_, ?_⟩
    · rw [h.block B (by omega) (by omega), hbl.block B (by omega)]; exact h1
    · rw [h.block B1 (by omega) (by omega), hbl.block B1 (by omega)]; exact h2
    · exact BW1.out.trans (h.below (by omega) (fun k _ e => by have := hB.out; omega)))
  have G0 : Hid (∃ aP cP, W1.heap[gs]? = some (.cells #[.int .i64 tk, .slice aP 0 cP, .slice none 0 0] 30 (0, 0)) ∧ AG 43 6 pE W1.heap.size pp 0 aP cP W1 ∧ Mod (fun k => k = gs) W1 W1) := hd ⟨none, 0, BG1.out, AG.start, Mod.refl _ _⟩
  obtain ⟨bx, br, bw⟩ := HX.out W1 (Mod.refl _ _)
  have x1 := box_at1 bx (j := 1) rfl
  simp at x1
  clear h1 h2 h4 h5 hW0 hW1 x0 hal hbl hsz bx br bw
  go_wp2_with fail
  clear x1
  go_loopg [4] np (fun k v4 wr => ∃ (i : Nat), v4 = .int .i64 (i : Int) ∧ i + k = np ∧ Hid (∃ aA cA, wr.heap[gs]? = some (.cells #[.int .i64 tk, .slice aA i cA, .slice none 0 0] 30 (0, 0)) ∧ AG 43 6 pE W1.heap.size pp i aA cA wr ∧ Mod (fun k => k = gs) W1 wr))
  case atStart => exact ⟨0, rfl, by omega, G0⟩
  case round =>
    obtain ⟨i, rfl, hik, HG⟩ := hrel
    obtain ⟨wo, rfl⟩ : ∃ W, W = wr := ⟨_, rfl⟩
    obtain ⟨GK, rfl⟩ : ∃ x, x = gk := ⟨_, rfl⟩
    (try clear G0)
    obtain ⟨aA, cA, hbg, hAG, hmd⟩ := HG.out
    have HAG := hd hAG
    have HMD := hd hmd
    have HBG := hd hbg
    obtain ⟨bx, br, bw⟩ := HX.out wo (hmd)
    by_cases hlt : i < np
    · have hlt' : (i : Int) < (np : Int) := by omega
      obtain ⟨ga, oa, csp, ea, -, e1, e2⟩ := HA.out i hlt
      subst ea
      have HFW := hd (F3.out i)
      obtain ⟨x, hx⟩ : ∃ x, Hid (pp.getD i default = x) := ⟨_, rfl⟩
      rw [hx.out] at e1 HFW
      have x1 := box_at1 bx (j := 1) rfl
      simp at x1
      have HBWr := hd bw
      have e9 := e1
      obtain ⟨p0, p1, p2, p3, p4, p5⟩ := x
      obtain ⟨up, vp, zp, ep, dd1, dd2, dd3⟩ := id e1
      simp only at ep dd1 dd2 dd3
      obtain ⟨ua, uc, -, eu, -⟩ := dd1
      obtain ⟨va, vc, -, ev, -⟩ := dd2
      obtain ⟨za, zc, -, ez, -⟩ := dd3
      subst eu ev ez
      subst ep
      have q0_ := e2 wo bw 0 _ rfl
      have q1_ := e2 wo bw 1 _ rfl
      have q2_ := e2 wo bw 2 _ rfl
      have q3_ := e2 wo bw 3 _ rfl
      have q4_ := e2 wo bw 4 _ rfl
      have q5_ := e2 wo bw 5 _ rfl
      simp only [Nat.add_zero] at q0_
      clear e1 e2 hAG hmd hbg
      go_upto_region 6 with fail
      have hal := heap_alloc_new wo (.cells #[.int .i64 p0, .slice ua p1.length uc, .int .i64 p2, .int .i64 p3, .slice va p4.length vc, .slice za p5.length zc] 43)
      have hbl := below_al wo (.cells #[.int .i64 p0, .slice ua p1.length uc, .int .i64 p2, .int .i64 p3, .slice va p4.length vc, .slice za p5.length zc] 43)
      have hsa : (wo.alloc (.cells #[.int .i64 p0, .slice ua p1.length uc, .int .i64 p2, .int .i64 p3, .slice va p4.length vc, .slice za p5.length zc] 43)).heap.size = wo.heap.size + 1 := by simp
      obtain ⟨wa, hwa⟩ : ∃ W, Hid (wo.alloc (.cells #[.int .i64 p0, .slice ua p1.length uc, .int .i64 p2, .int .i64 p3, .slice va p4.length vc, .slice za p5.length zc] 43) = W) := ⟨_, rfl⟩
      rw [hwa.out] at hal hbl hsa ⊢
      obtain ⟨X, hX⟩ : ∃ n, Hid (wo.heap.size = n) := ⟨_, rfl⟩
      rw [hX.out] at hal hsa ⊢
      have HBL := hd hbl
      have HXa := hd hal
      have HSA := hd hsa
      clear q0_ q1_ q2_ q3_ q4_ q5_ x1 bx br bw hal hbl hsa hwa
      obtain ⟨wu, wv, wz, ew, d1, d2, d3⟩ := e9
      simp only [List.cons.injEq, and_true, true_and] at ew d1 d2 d3
      obtain ⟨ew1, ew2, ew3⟩ := ew
      subst ew1 ew2 ew3
      obtain ⟨b1, b2, b3, b4⟩ := HFW.out
      simp only at b1 b2 b3 b4
      obtain ⟨qa1, qc1, u1, eq1, r1, l1, o1, g1, s1⟩ := d1.cells (eE.one w)
      obtain ⟨qa2, qc2, u2, eq2, r2, l2, o2, g2, s2⟩ := d2.cells (iE.one w)
      obtain ⟨qa3, qc3, u3, eq3, r3, l3, o3, g3, s3⟩ := d3.cells (qE.one w)
      cases eq1
      cases eq2
      cases eq3
      have D1 := hd (And.intro r1 (And.intro l1 (And.intro o1 s1)))
      have D2 := hd (And.intro r2 (And.intro l2 (And.intro o2 s2)))
      have D3 := hd (And.intro r3 (And.intro l3 (And.intro o3 s3)))
      have HFB := hd (And.intro b1 (And.intro b2 (And.intro b3 b4)))
      clear r1 l1 o1 s1 r2 l2 o2 s2 r3 l3 o3 s3 g1 g2 g3 b1 b2 b3 b4 d1 d2 d3 HFW
      obtain ⟨nl, hnl⟩ : ∃ n, Hid (p1.length = n) := ⟨_, rfl⟩
      obtain ⟨no, hno⟩ : ∃ n, Hid (p4.length = n) := ⟨_, rfl⟩
      obtain ⟨nz, hnz⟩ : ∃ n, Hid (p5.length = n) := ⟨_, rfl⟩
      rw [hnl.out] at D1 HFB HXa
      rw [hno.out] at D2 HFB HXa
      rw [hnz.out] at D3 HFB HXa
      -- the log
      have hba := HBWr.out.trans (HBL.out.mono HBWr.out.size)
      obtain ⟨a1, c1, w1, ap1, ar1, an1, ab1⟩ := copy_empty (T := 40) (c := uc) Try.underlying40 info_entry rfl (by decide) (by decide) (D1.out.1.below hba) D1.out.2.1 D1.out.2.2.1 HFB.out.1
      have hX1 := (ab1.block X (Array.getElem?_eq_some_iff.1 HXa.out).1).trans HXa.out
      have hX1a := (((below_al wa (.cells #[] 45)).block X (Array.getElem?_eq_some_iff.1 HXa.out).1).trans HXa.out)
      have m1 := box_at1 hX1a (j := 1) rfl
      have m2 := box_at1 hX1 (j := 1) rfl
      have m3 := box_free hX1 1
      simp at m1 m2
      have hap := hd ap1
      have HX1 := hd hX1
      have HB1' := hd ab1
      have HR1 := hd (And.intro ar1 an1)
      clear ap1 ar1 an1 ab1 hX1 hX1a hba
      go_upto_region 7 with (at_builtin; refine wpList_append_run rfl _ _ _ rfl _ _ _ _ rfl rfl hap.out ?_; clear hap)
      clear m1 m2 m3
      obtain ⟨wA, hwA⟩ : ∃ W, Hid (w1.setCell ⟨X, 1, none⟩ (.slice a1 nl c1) = W) := ⟨_, rfl⟩
      rw [hwA.out]
      have HXA : Hid (wA.heap[X]? = some (.cells #[.int .i64 p0, .slice a1 nl c1, .int .i64 p2, .int .i64 p3, .slice va no vc, .slice za nz zc] 43 (0, 0))) := hd (by
        have := box_put HX1.out 1 (.slice a1 nl c1)
        rw [hwA.out] at this
        simpa using this)
      have HOA : Hid (∀ k, k ≠ X → wA.heap[k]? = w1.heap[k]?) := hd (fun k hk => by rw [← hwA.out]; exact setCell_other _ _ _ _ _ hk)
      have HSAA : Hid (wa.heap.size ≤ w1.heap.size ∧ wA.heap.size = w1.heap.size) := hd ⟨HB1'.out.size, by rw [← hwA.out, setCell_size]⟩
      have HBA : Hid (Below wo.heap.size wo wA) := hd (by rw [← hwA.out]; exact below_set (HBL.out.trans (HB1'.out.mono HBL.out.size)) (by rw [hX.out]; exact Nat.le_refl _))
      -- the owners
      have hba := HBWr.out.trans (HBA.out.mono HBWr.out.size)
      obtain ⟨a2, c2, w2, ap1, ar1, an1, ab1⟩ := copy_empty (T := 23) (c := vc) Try.underlying23 info_int rfl (by decide) (by decide) (D2.out.1.below hba) D2.out.2.1 D2.out.2.2.1 HFB.out.2.1
      have hX1 := (ab1.block X (Array.getElem?_eq_some_iff.1 HXA.out).1).trans HXA.out
      have hX1a := (((below_al wA (.cells #[] 3)).block X (Array.getElem?_eq_some_iff.1 HXA.out).1).trans HXA.out)
      have m1 := box_at1 hX1a (j := 4) rfl
      have m2 := box_at1 hX1 (j := 4) rfl
      have m3 := box_free hX1 4
      simp at m1 m2
      have hap := hd ap1
      have HX2 := hd hX1
      have HB2' := hd ab1
      have HR2 := hd (And.intro ar1 an1)
      clear ap1 ar1 an1 ab1 hX1 hX1a hba hwA
      go_upto_region 8 with (at_builtin; refine wpList_append_run rfl _ _ _ rfl _ _ _ _ rfl rfl hap.out ?_; clear hap)
      clear m1 m2 m3
      obtain ⟨wB, hwB⟩ : ∃ W, Hid (w2.setCell ⟨X, 4, none⟩ (.slice a2 no c2) = W) := ⟨_, rfl⟩
      rw [hwB.out]
      have HXB : Hid (wB.heap[X]? = some (.cells #[.int .i64 p0, .slice a1 nl c1, .int .i64 p2, .int .i64 p3, .slice a2 no c2, .slice za nz zc] 43 (0, 0))) := hd (by
        have := box_put HX2.out 4 (.slice a2 no c2)
        rw [hwB.out] at this
        simpa using this)
      have HOB : Hid (∀ k, k ≠ X → wB.heap[k]? = w2.heap[k]?) := hd (fun k hk => by rw [← hwB.out]; exact setCell_other _ _ _ _ _ hk)
      have HSBB : Hid (wA.heap.size ≤ w2.heap.size ∧ wB.heap.size = w2.heap.size) := hd ⟨HB2'.out.size, by rw [← hwB.out, setCell_size]⟩
      have HBB : Hid (Below wo.heap.size wo wB) := hd (by rw [← hwB.out]; exact below_set (HBA.out.trans (HB2'.out.mono HBA.out.size)) (by rw [hX.out]; exact Nat.le_refl _))
      -- where the log and the owners lie
      have HLG : Hid (∀ W, (∀ k, wa.heap.size ≤ k → k < wB.heap.size → W.heap[k]? = wB.heap[k]?) → DeR 3 eE W (.slice a1 nl c1) p1 ∧ DeR 1 iE W (.slice a2 no c2) p4) := hd (fun W hW => by
        obtain ⟨z1, z2⟩ := HSAA.out
        obtain ⟨z3, z4⟩ := HSBB.out
        have z5 := HSA.out
        obtain ⟨t1, t2⟩ := HR1.out
        obtain ⟨t3, t4⟩ := HR2.out
        have y1 : Row W 45 3 a1 nl c1 u1 := t1.kept fun k hk => by
          have hl := t1.lt k hk
          have hg := t2 k hk
          rw [hW k (by omega) (by omega), HOB.out k (by omega), HB2'.out.block k (by omega), HOA.out k (by omega)]
        have y2 : Row W 3 1 a2 no c2 u2 := t3.kept fun k hk => by
          have hl := t3.lt k hk
          have hg := t4 k hk
          rw [hW k (by omega) (by omega), HOB.out k (by omega)]
        have h1 := hnl.out
        have h2 := hno.out
        rw [← h1] at y1
        rw [← h2] at y2
        have y3 := DeR.of_row (E := eE) y1 (by rw [h1]; have := HFB.out.1; unfold BIG; omega) (fun i hi => D1.out.2.2.2 i (by rw [← h1]; exact hi))
        have y4 := DeR.of_row (E := iE) y2 (by rw [h2]; have := HFB.out.2.1; unfold BIG; omega) (fun i hi => D2.out.2.2.2 i (by rw [← h2]; exact hi))
        rw [h1] at y3
        rw [h2] at y4
        exact ⟨y3, y4⟩)
      have HSZB : Hid (X < wa.heap.size ∧ wa.heap.size ≤ wB.heap.size) := hd (by have := HSAA.out; have := HSBB.out; have := HSA.out; omega)
      clear hwB HX1 HX2 HB1' HB2' HR1 HR2 HOA HOB HSAA HSBB HXA HBA D1 D2 hnl hno HXa
      go_upto_region 9 with fail
      have IG0 : Hid (AG 23 1 qE wB.heap.size p5 0 (some ⟨wB.heap.size, 0, none⟩) 0 (wB.alloc (.cells #[] 23)) ∧ Below wB.heap.size wB (wB.alloc (.cells #[] 23))) := hd ⟨AG.empty, below_al _ _⟩
      obtain ⟨wC, hwC⟩ : ∃ W, Hid (wB.alloc (.cells #[] 23) = W) := ⟨_, rfl⟩
      rw [hwC.out] at IG0 ⊢
      obtain ⟨NB, hNB⟩ : ∃ n, Hid (wB.heap.size = n) := ⟨_, rfl⟩
      have HIX : Hid (∀ V, Below wB.heap.size wB V → V.cell? ⟨X, 5, none⟩ = some (.slice za nz zc) ∧ V.frozen? ⟨X, 5, none⟩ = false ∧ V.heap[X]? = some (.cells #[.int .i64 p0, .slice a1 nl c1, .int .i64 p2, .int .i64 p3, .slice a2 no c2, .slice za nz zc] 43 (0, 0))) := hd (fun V hb => by
        have h := (hb.block X (Array.getElem?_eq_some_iff.1 HXB.out).1).trans HXB.out
        exact ⟨box_at1 h rfl, box_free h 5, h⟩)
      rw [hNB.out] at IG0 HIX ⊢
      clear hwC
      have hz20 : nz ≤ 1048576 := HFB.out.2.2.1
      have n1 := (HIX.out wC IG0.out.2).1
      go_wp2_with fail
      clear n1
      go_loopg [6, 7] nz (fun kk v6 v7 wr => ∃ (k : Nat) (ai : Option Addr) (ci : Nat), v6 = .slice ai k ci ∧ v7 = .int .i64 (k : Int) ∧ k + kk = nz ∧ Hid (AG 23 1 qE NB p5 k ai ci wr ∧ Below NB wB wr))
      case atStart => exact ⟨0, _, _, rfl, rfl, by omega, IG0⟩
      case round =>
        obtain ⟨k, ai, ci, rfl, rfl, hkk, HI⟩ := hrel
        clear IG0
        obtain ⟨n1, n2, n3⟩ := HIX.out wr HI.out.2
        by_cases hlk : k < nz
        · have hlk' : (k : Int) < (nz : Int) := by omega
          have hbi : Below w.heap.size w wr := HBWr.out.trans ((HBB.out.trans ((HI.out.2).mono (by rw [← hNB.out]; exact HBB.out.size))).mono HBWr.out.size)
          have hu3 : u3.length = nz := by have := D3.out.2.1; omega
          obtain ⟨vq, eq', dq⟩ := D3.out.2.2.2 k hlk
          rw [el_one u3 k (by omega)] at eq'
          obtain ⟨aq, cq, uq, rfl, rq, lq, oq, bq, sq⟩ := dq.cells (iE.one w)
          have evq : u3.getD k undef = .slice aq (p5.getD k default).length cq := by simpa using eq'
          have hrd := D3.out.1
          obtain ⟨gz, oz, ez, hcz⟩ := hrd k _ (by rw [List.getElem?_eq_getElem (by omega)])
          have hv3 : u3[k]'(by omega) = .slice aq (p5.getD k default).length cq := by
            rw [← evq, List.getD_eq_getElem?_getD, List.getElem?_eq_getElem (by omega)]
            rfl
          rw [hv3] at hcz
          subst ez
          have hcq : wr.cell? ⟨gz, oz + k, none⟩ = some (.slice aq (p5.getD k default).length cq) := (hbi.cell (World.block_lt_of_cell? w _ hcz)).trans hcz
          have hbq := HFB.out.2.2.2 k
          have HEq := hd sq
          obtain ⟨N, hN⟩ : ∃ n, Hid ((p5.getD k default).length = n) := ⟨_, rfl⟩
          rw [hN.out] at hcq hbq HEq
          have hN2 := hN.out
          obtain ⟨a3, c3, w3, ap1, ar1, an1, ab1⟩ := copy_empty (T := 23) (n := N) (c := cq) Try.underlying23 info_int rfl (by decide) (by decide) (rq.below hbi) (by rw [← hN2]; exact lq) oq hbq
          obtain ⟨a4, c4, w4, ap2, ag2, ab2, as2⟩ := AG.push (T := 41) Try.underlying41 info_lint rfl (by decide) HI.out.1 (by have := HFB.out.2.2.1; omega) (by rw [← hNB.out]; exact HI.out.2.size) ab1 [.slice a3 N c3] rfl (by intro u hu; simp only [List.mem_cons, List.not_mem_nil, or_false] at hu; subst hu; rfl) (fun V hV => by
            have h1 : Row V 3 1 a3 N c3 uq := ar1.kept fun q hq => hV q (an1 q hq) (ar1.lt q hq)
            rw [← hN2] at h1 ⊢
            exact ⟨_, rfl, DeR.of_row (E := iE) h1 bq (fun j hj => HEq.out j (by rw [← hN2]; exact hj))⟩)
          have hi1 := (((below_al wr (.cells #[] 3)).cell (World.block_lt_of_cell? wr _ n1)).trans n1)
          have hi2 := (((below_al wr (.cells #[] 3)).cell (World.block_lt_of_cell? wr _ hcq)).trans hcq)
          have hap1 := hd ap1
          have hap2 := hd ap2
          have HI2 : Hid (AG 23 1 qE NB p5 (k + 1) a4 c4 w4 ∧ Below NB wB w4) := hd ⟨ag2, HI.out.2.trans ab2⟩
          clear ap1 ap2 ar1 an1 ab1 ag2 ab2 as2 rq lq oq bq sq dq eq' evq hrd hcz hv3 hbi hbq hu3 n2 n3 HI hN2 HEq hN
          go_wp2_with (first
            | (at_builtin; refine wpList_append_run rfl _ _ _ rfl _ _ _ _ rfl rfl hap1.out ?_; clear hap1)
            | (at_builtin; refine wpList_append_run rfl _ _ _ rfl _ _ _ _ rfl rfl hap2.out ?_; clear hap2))
          go_roundg (gk - 1)
          case rel => exact ⟨k + 1, a4, c4, rfl, by go_num, by omega, HI2⟩
          case measure => omega
        · obtain rfl : k = nz := by omega
          have HXI := hd n3
          have HS5 : Hid (∀ W, W = wr.setCell ⟨X, 5, none⟩ (.slice ai k ci) → W.heap[X]? = some (.cells #[.int .i64 p0, .slice a1 nl c1, .int .i64 p2, .int .i64 p3, .slice a2 no c2, .slice ai k ci] 43 (0, 0)) ∧ Below wo.heap.size wo W ∧ ∀ V, (∀ q, wo.heap.size ≤ q → q < W.heap.size → V.heap[q]? = W.heap[q]?) → pE V [.int .i64 p0, .slice a1 nl c1, .int .i64 p2, .int .i64 p3, .slice a2 no c2, .slice ai k ci] ⟨p0, p1, p2, p3, p4, p5⟩) := hd (by
            rintro W rfl
            have hnb := hNB.out
            have hxx := hX.out
            obtain ⟨y1, y2⟩ := HSZB.out
            have hbi : Below wo.heap.size wo wr := HBB.out.trans ((HI.out.2).mono (by rw [← hnb]; exact HBB.out.size))
            have hsw := HI.out.2.size
            refine ⟨by have := box_put HXI.out 5 (.slice ai k ci); simpa using this, below_set hbi (by omega), fun V hV => ?_⟩
            have hag := HI.out.1
            have h5 := hnz.out
            rw [← h5] at hag
            rw [setCell_size] at hV
            have hz := hag.stable (by rw [h5]; have := HFB.out.2.2.1; unfold BIG; omega) V (fun q q1 q2 => by rw [hV q (by omega) q2]; exact setCell_other _ _ _ _ _ (by omega))
            obtain ⟨hz1, hz2⟩ := HLG.out V (fun q q1 q2 => by rw [hV q (by omega) (by omega), setCell_other _ _ _ _ _ (by omega)]; exact HI.out.2.block q (by omega))
            rw [h5] at hz
            exact ⟨_, _, _, rfl, hz1, hz2, hz⟩)
          clear n3
          go_upto_region 14 with fail
          clear n1 n2
          obtain ⟨wc, hwc⟩ : ∃ W, Hid (wr.setCell ⟨X, 5, none⟩ (.slice ai k ci) = W) := ⟨_, rfl⟩
          rw [hwc.out]
          obtain ⟨hXc, hbc, hpc⟩ := HS5.out wc hwc.out.symm
          clear HI HXI HS5 HIX HLG HXB HBB HSZB hwc D3 HFB hNB hnz
          have hgs2 : gs < wo.heap.size := (Array.getElem?_eq_some_iff.1 HBG.out).1
          have hgc := (hbc.block gs hgs2).trans HBG.out
          have HGC := hd hgc
          have nn1 := box_at1 hgc (j := 1) rfl
          simp at nn1
          have m0_ := box_at1 hXc (j := 0) rfl
          have m1_ := box_at1 hXc (j := 1) rfl
          have m2_ := box_at1 hXc (j := 2) rfl
          have m3_ := box_at1 hXc (j := 3) rfl
          have m4_ := box_at1 hXc (j := 4) rfl
          have m5_ := box_at1 hXc (j := 5) rfl
          obtain ⟨a5, c5, w5, ap3, ag3, ab3, as3⟩ := AG.push (T := 27) Try.underlying27 info_part rfl (by decide) HAG.out (by have := F1.out; omega) HMD.out.size hbc [.int .i64 p0, .slice a1 nl c1, .int .i64 p2, .int .i64 p3, .slice a2 no c2, .slice ai k ci] rfl (by intro u hu; simp only [List.mem_cons, List.not_mem_nil, or_false] at hu; rcases hu with rfl | rfl | rfl | rfl | rfl | rfl <;> rfl) (fun V hV => by rw [hx.out]; exact hpc V hV)
          have hWg : gs < W1.heap.size := by have := HSZ.out; omega
          have hg2 : w5.heap[gs]? = wo.heap[gs]? := ab3.block gs hWg
          have hg3 := hg2.trans HBG.out
          have HNX : Hid (∀ W, W = w5.setCell ⟨gs, 1, none⟩ (.slice a5 (i + 1) c5) → ∃ aA cA, W.heap[gs]? = some (.cells #[.int .i64 tk, .slice aA (i + 1) cA, .slice none 0 0] 30 (0, 0)) ∧ AG 43 6 pE W1.heap.size pp (i + 1) aA cA W ∧ Mod (fun k => k = gs) W1 W) := hd (by
            rintro W rfl
            have hbp := box_put hg3 1 (.slice a5 (i + 1) c5)
            refine ⟨a5, c5, by simpa using hbp, ?_, ?_⟩
            · exact ag3.kept (by rw [setCell_size]; exact Nat.le_refl _) (fun k k1 k2 => setCell_other _ _ _ _ _ (by omega))
            · have hm5 : Mod (fun k => k = gs) W1 w5 := HMD.out.trans (S' := fun k => W1.heap.size ≤ k) ⟨ab3.os, ab3.tape, ab3.output, as3, fun k k1 k2 => ab3.block k (by omega)⟩ (fun k hk => .inr hk)
              exact Mod.setCell (p := ⟨gs, 1, none⟩) hm5 (.inl rfl) _)
          have oo1 := box_at1 hg3 (j := 1) rfl
          have oo2 := box_free hg3 1
          simp at oo1
          have hap := hd ap3
          clear ap3 ag3 ab3 as3 hg2 hg3 hgc hXc hbc hpc HG HAG HBG HMD HGC hgs2 hWg
          go_wp2_with (at_builtin; refine wpList_append_run rfl _ _ _ rfl _ _ _ _ rfl rfl hap.out ?_; clear hap)
          go_roundg (GK - 1)
          case rel => exact ⟨i + 1, by go_num, by omega, hd (HNX.out _ rfl)⟩
          case measure => omega
    · obtain rfl : i = np := by omega
      obtain ⟨W2, hW2⟩ : ∃ W, Hid (wo = W) := ⟨_, rfl⟩
      rw [hW2.out] at HAG HMD HBG hAG hmd hbg bx ⊢
      obtain ⟨aP, haP⟩ : ∃ v, Hid (aA = v) := ⟨_, rfl⟩
      obtain ⟨cP, hcP⟩ : ∃ v, Hid (cA = v) := ⟨_, rfl⟩
      rw [haP.out] at HAG HBG
      rw [hcP.out] at HAG HBG
      have HAG1 := HAG
      have HW2 : Hid (gs < W2.heap.size) := hd ((Array.getElem?_eq_some_iff.1 HBG.out).1)
      have HW12 : Hid (W1.heap.size ≤ W2.heap.size) := hd HMD.out.size
      have HT : Hid (∀ v, Mod (fun k => k = gs) W2 v → Mod (fun k => k = gs) W1 v) := hd (fun v hv => hmd.trans hv (fun k e => .inl e))
      have G2 : Hid (∃ aA cA, W2.heap[gs]? = some (.cells #[.int .i64 tk, .slice aP i cP, .slice aA 0 cA] 30 (0, 0)) ∧ AG 49 15 rE W2.heap.size pq 0 aA cA W2 ∧ Mod (fun k => k = gs) W2 W2) := hd ⟨none, 0, HBG.out, AG.start, Mod.refl _ _⟩
      have x2 := box_at1 bx (j := 2) rfl
      have x1 := box_at1 bx (j := 1) rfl
      simp at x1 x2
      clear HG HAG HMD HBG hAG hmd hbg bx br bw hlt hik haP hcP BG1
      go_wp2_with fail
      clear x1 x2
      go_loopg [8] nq (fun k v8 wr => ∃ (i2 : Nat), v8 = .int .i64 (i2 : Int) ∧ i2 + k = nq ∧ Hid (∃ aA cA, wr.heap[gs]? = some (.cells #[.int .i64 tk, .slice aP i cP, .slice aA i2 cA] 30 (0, 0)) ∧ AG 49 15 rE W2.heap.size pq i2 aA cA wr ∧ Mod (fun k => k = gs) W2 wr))
      case atStart => exact ⟨0, rfl, by omega, G2⟩
      case round =>
        obtain ⟨i2, rfl, hik, HG⟩ := hrel
        obtain ⟨wo, rfl⟩ : ∃ W, W = wr := ⟨_, rfl⟩
        obtain ⟨GK, rfl⟩ : ∃ x, x = gk := ⟨_, rfl⟩
        (try clear G0)
        obtain ⟨aA, cA, hbg, hAG, hmd⟩ := HG.out
        have HAG := hd hAG
        have HMD := hd hmd
        have HBG := hd hbg
        obtain ⟨bx, br, bw⟩ := HX.out wo (HT.out wo hmd)
        by_cases hlt : i2 < nq
        · have hlt' : (i2 : Int) < (nq : Int) := by omega
          obtain ⟨ga, oa, csp, ea, -, e1, e2⟩ := HB.out i2 hlt
          subst ea
          have HFW := hd (F4.out i2)
          obtain ⟨x, hx⟩ : ∃ x, Hid (pq.getD i2 default = x) := ⟨_, rfl⟩
          rw [hx.out] at e1 HFW
          have x1 := box_at1 bx (j := 2) rfl
          simp at x1
          have HBWr := hd bw
          have e9 := e1
          obtain ⟨ps, pp, ⟨p0, p1, p2, p3, p4, p5, p6, p7⟩, pc, pi, pf, pw, pl⟩ := x
          obtain ⟨vp, ep, dd1⟩ := id e1
          simp only at ep dd1
          obtain ⟨va, vc, -, ev, -⟩ := dd1
          subst ev
          subst ep
          have q0_ := e2 wo bw 0 _ rfl
          have q1_ := e2 wo bw 1 _ rfl
          have q2_ := e2 wo bw 2 _ rfl
          have q3_ := e2 wo bw 3 _ rfl
          have q4_ := e2 wo bw 4 _ rfl
          have q5_ := e2 wo bw 5 _ rfl
          have q6_ := e2 wo bw 6 _ rfl
          have q7_ := e2 wo bw 7 _ rfl
          have q8_ := e2 wo bw 8 _ rfl
          have q9_ := e2 wo bw 9 _ rfl
          have q10_ := e2 wo bw 10 _ rfl
          have q11_ := e2 wo bw 11 _ rfl
          have q12_ := e2 wo bw 12 _ rfl
          have q13_ := e2 wo bw 13 _ rfl
          have q14_ := e2 wo bw 14 _ rfl
          simp only [Nat.add_zero] at q0_
          clear e1 e2 hAG hmd hbg
          go_upto_region 19 with fail
          have hal := heap_alloc_new wo (.cells #[.int .i64 ps, .int .i64 pp, .int .i64 p0, .int .i64 p1, .int .i64 p2, .int .i64 p3, .int .i64 p4, .int .i64 p5, .int .i64 p6, .int .i64 p7, .int .i64 pc, .int .i64 pi, .bool pf, .int .i64 pw, .slice va pl.length vc] 49)
          have hbl := below_al wo (.cells #[.int .i64 ps, .int .i64 pp, .int .i64 p0, .int .i64 p1, .int .i64 p2, .int .i64 p3, .int .i64 p4, .int .i64 p5, .int .i64 p6, .int .i64 p7, .int .i64 pc, .int .i64 pi, .bool pf, .int .i64 pw, .slice va pl.length vc] 49)
          have hsa : (wo.alloc (.cells #[.int .i64 ps, .int .i64 pp, .int .i64 p0, .int .i64 p1, .int .i64 p2, .int .i64 p3, .int .i64 p4, .int .i64 p5, .int .i64 p6, .int .i64 p7, .int .i64 pc, .int .i64 pi, .bool pf, .int .i64 pw, .slice va pl.length vc] 49)).heap.size = wo.heap.size + 1 := by simp
          obtain ⟨wa, hwa⟩ : ∃ W, Hid (wo.alloc (.cells #[.int .i64 ps, .int .i64 pp, .int .i64 p0, .int .i64 p1, .int .i64 p2, .int .i64 p3, .int .i64 p4, .int .i64 p5, .int .i64 p6, .int .i64 p7, .int .i64 pc, .int .i64 pi, .bool pf, .int .i64 pw, .slice va pl.length vc] 49) = W) := ⟨_, rfl⟩
          rw [hwa.out] at hal hbl hsa ⊢
          obtain ⟨X, hX⟩ : ∃ n, Hid (wo.heap.size = n) := ⟨_, rfl⟩
          rw [hX.out] at hal hsa ⊢
          have HBL := hd hbl
          have HXa := hd hal
          have HSA := hd hsa
          clear q0_ q1_ q2_ q3_ q4_ q5_ q6_ q7_ q8_ q9_ q10_ q11_ q12_ q13_ q14_ x1 bx br bw hal hbl hsa hwa
          obtain ⟨wv, ew, d3⟩ := e9
          simp only [List.cons.injEq, and_true, true_and] at ew d3
          subst ew
          obtain ⟨b3, b4⟩ := HFW.out
          simp only at b3 b4
          obtain ⟨qa3, qc3, u3, eq3, r3, l3, o3, g3, s3⟩ := d3.cells (lE.one w)
          cases eq3
          have D3 := hd (And.intro r3 (And.intro l3 (And.intro o3 s3)))
          have HFB := hd (And.intro b3 b4)
          clear r3 l3 o3 s3 g3 b3 b4 d3 HFW
          obtain ⟨nz, hnz⟩ : ∃ n, Hid (pl.length = n) := ⟨_, rfl⟩
          rw [hnz.out] at D3 HFB HXa
          go_upto_region 20 with fail
          have IG0 : Hid (AG 53 4 lE wa.heap.size pl 0 (some ⟨wa.heap.size, 0, none⟩) 0 (wa.alloc (.cells #[] 53)) ∧ Below wa.heap.size wa (wa.alloc (.cells #[] 53))) := hd ⟨AG.empty, below_al _ _⟩
          obtain ⟨wC, hwC⟩ : ∃ W, Hid (wa.alloc (.cells #[] 53) = W) := ⟨_, rfl⟩
          rw [hwC.out] at IG0 ⊢
          have HIX : Hid (∀ V, Below wa.heap.size wa V → V.cell? ⟨X, 14, none⟩ = some (.slice va nz vc) ∧ V.frozen? ⟨X, 14, none⟩ = false ∧ V.heap[X]? = some (.cells #[.int .i64 ps, .int .i64 pp, .int .i64 p0, .int .i64 p1, .int .i64 p2, .int .i64 p3, .int .i64 p4, .int .i64 p5, .int .i64 p6, .int .i64 p7, .int .i64 pc, .int .i64 pi, .bool pf, .int .i64 pw, .slice va nz vc] 49 (0, 0))) := hd (fun V hb => by
            have h := (hb.block X (Array.getElem?_eq_some_iff.1 HXa.out).1).trans HXa.out
            exact ⟨box_at1 h rfl, box_free h 14, h⟩)
          obtain ⟨NB, hNB⟩ : ∃ n, Hid (wa.heap.size = n) := ⟨_, rfl⟩
          (try rw [HSA.out])
          rw [hNB.out] at IG0 HIX
          (try rw [hNB.out])
          have hNX : Hid (X + 1 = NB) := hd (by rw [← hNB.out, HSA.out])
          (try rw [hNX.out])
          clear hwC
          have hz20 : nz ≤ 1048576 := HFB.out.1
          have n1 := (HIX.out wC IG0.out.2).1
          go_wp2_with fail
          clear n1
          go_loopg [10, 11] nz (fun kk v10 v11 wr => ∃ (k : Nat) (ai : Option Addr) (ci : Nat), v10 = .slice ai k ci ∧ v11 = .int .i64 (k : Int) ∧ k + kk = nz ∧ Hid (AG 53 4 lE NB pl k ai ci wr ∧ Below NB wa wr))
          case atStart => exact ⟨0, _, _, rfl, rfl, by omega, IG0⟩
          case round =>
            obtain ⟨k, ai, ci, rfl, rfl, hkk, HI⟩ := hrel
            clear IG0
            obtain ⟨n1, n2, n3⟩ := HIX.out wr HI.out.2
            by_cases hlk : k < nz
            · have hlk' : (k : Int) < (nz : Int) := by omega
              have hbi : Below w.heap.size w wr := HBWr.out.trans ((HBL.out.trans ((HI.out.2).mono (by rw [← hNB.out]; exact HBL.out.size))).mono HBWr.out.size)
              have HBI := hd hbi
              have hu3 : u3.length = nz * 4 := D3.out.2.1
              obtain ⟨vv, vw, eq', dv, dw⟩ := D3.out.2.2.2 k hlk
              obtain ⟨av, cv, uv, rfl, rv, lv, ov, bv, sv⟩ := dv.cells (iE.one w)
              obtain ⟨aw, cw, uw, rfl, rw', lw, ow, bw', sw⟩ := dw.cells (wE.one w)
              have hrd := D3.out.1
              have hel : ∀ j u, j < 4 → (el 4 u3 k)[j]? = some u → ∃ gz oz, va = some ⟨gz, oz, none⟩ ∧ wr.cell? ⟨gz, oz + k * 4 + j, none⟩ = some u := fun j u hj hu => by
                rw [el_at 4 u3 k j hj] at hu
                obtain ⟨gz, oz, ez, hc⟩ := hrd (k * 4 + j) u hu
                refine ⟨gz, oz, ez, ?_⟩
                rw [show oz + k * 4 + j = oz + (k * 4 + j) by omega]
                exact (hbi.cell (World.block_lt_of_cell? w _ hc)).trans hc
              rw [eq'] at hel
              obtain ⟨gz, oz, ez, z0⟩ := hel 0 _ (by decide) rfl
              obtain ⟨gz1, oz1, ez1, z1⟩ := hel 1 _ (by decide) rfl
              obtain ⟨gz2, oz2, ez2, z2⟩ := hel 2 _ (by decide) rfl
              obtain ⟨gz3, oz3, ez3, z3⟩ := hel 3 _ (by decide) rfl
              rw [ez] at ez1 ez2 ez3
              cases ez1
              cases ez2
              cases ez3
              subst ez
              simp only [Nat.add_zero] at z0
              have DV := hd (And.intro rv (And.intro lv (And.intro ov (And.intro bv sv))))
              have DW := hd (And.intro rw' (And.intro lw (And.intro ow (And.intro bw' sw))))
              have HF1 := hd (HFB.out.2 k)
              obtain ⟨N, hN⟩ : ∃ n, Hid ((pl.getD k default).vs.length = n) := ⟨_, rfl⟩
              obtain ⟨K, hK⟩ : ∃ n, Hid ((pl.getD k default).ws.length = n) := ⟨_, rfl⟩
              obtain ⟨tl, htl⟩ : ∃ n, Hid ((pl.getD k default).tk = n) := ⟨_, rfl⟩
              obtain ⟨dl, hdl⟩ : ∃ n, Hid ((pl.getD k default).dr = n) := ⟨_, rfl⟩
              rw [hN.out] at z0 DV HF1
              rw [hK.out] at z1 DW HF1
              rw [htl.out] at z2
              rw [hdl.out] at z3
              clear rv lv ov bv sv rw' lw ow bw' sw dv dw eq' hel hrd hbi hu3
              go_upto_region 24 with fail
              have hal := heap_alloc_new wr (.cells #[.slice av N cv, .slice aw K cw, .int .i64 tl, .int .i64 dl] 53)
              have hbl := below_al wr (.cells #[.slice av N cv, .slice aw K cw, .int .i64 tl, .int .i64 dl] 53)
              have hsy : (wr.alloc (.cells #[.slice av N cv, .slice aw K cw, .int .i64 tl, .int .i64 dl] 53)).heap.size = wr.heap.size + 1 := by simp
              obtain ⟨wY, hwY⟩ : ∃ W, Hid (wr.alloc (.cells #[.slice av N cv, .slice aw K cw, .int .i64 tl, .int .i64 dl] 53) = W) := ⟨_, rfl⟩
              rw [hwY.out] at hal hbl hsy ⊢
              obtain ⟨Y, hY⟩ : ∃ n, Hid (wr.heap.size = n) := ⟨_, rfl⟩
              rw [hY.out] at hal hsy ⊢
              have HBY := hd hbl
              have HXY := hd hal
              have HSY := hd hsy
              clear z0 z1 z2 z3 n1 n2 n3 hal hbl hsy hwY
              have hba := HBI.out.trans (HBY.out.mono HBI.out.size)
              obtain ⟨a3, c3, w1, ap1, ar1, an1, ab1⟩ := copy_empty (T := 50) (c := cv) Try.underlying50 info_i64 rfl (by decide) (by decide) (DV.out.1.below hba) DV.out.2.1 DV.out.2.2.1 HF1.out.1
              have hX1 := (ab1.block Y (Array.getElem?_eq_some_iff.1 HXY.out).1).trans HXY.out
              have hX1a := (((below_al wY (.cells #[] 2)).block Y (Array.getElem?_eq_some_iff.1 HXY.out).1).trans HXY.out)
              have m1 := box_at1 hX1a (j := 0) rfl
              have m2 := box_at1 hX1 (j := 0) rfl
              have m3 := box_free hX1 0
              simp at m1 m2
              have hap := hd ap1
              have HX1 := hd hX1
              have HB1' := hd ab1
              have HR1 := hd (And.intro ar1 an1)
              clear ap1 ar1 an1 ab1 hX1 hX1a hba
              go_upto_region 25 with (at_builtin; refine wpList_append_run rfl _ _ _ rfl _ _ _ _ rfl rfl hap.out ?_; clear hap)
              clear m1 m2 m3
              obtain ⟨wV, hwV⟩ : ∃ W, Hid (w1.setCell ⟨Y, 0, none⟩ (.slice a3 N c3) = W) := ⟨_, rfl⟩
              rw [hwV.out]
              have HXV : Hid (wV.heap[Y]? = some (.cells #[.slice a3 N c3, .slice aw K cw, .int .i64 tl, .int .i64 dl] 53 (0, 0))) := hd (by
                have := box_put HX1.out 0 (.slice a3 N c3)
                rw [hwV.out] at this
                simpa using this)
              have HOV : Hid (∀ k, k ≠ Y → wV.heap[k]? = w1.heap[k]?) := hd (fun k hk => by rw [← hwV.out]; exact setCell_other _ _ _ _ _ hk)
              have HSV : Hid (wY.heap.size ≤ w1.heap.size ∧ wV.heap.size = w1.heap.size) := hd ⟨HB1'.out.size, by rw [← hwV.out, setCell_size]⟩
              have HBV : Hid (Below wr.heap.size wr wV) := hd (by rw [← hwV.out]; exact below_set (HBY.out.trans (HB1'.out.mono HBY.out.size)) (by rw [hY.out]; exact Nat.le_refl _))
              have hba := HBI.out.trans (HBV.out.mono HBI.out.size)
              obtain ⟨a4, c4, w2, ap1, ar1, an1, ab1⟩ := copy_empty (T := 51) (c := cw) Try.underlying51 info_waiter rfl (by decide) (by decide) (DW.out.1.below hba) DW.out.2.1 DW.out.2.2.1 HF1.out.2
              have hX1 := (ab1.block Y (Array.getElem?_eq_some_iff.1 HXV.out).1).trans HXV.out
              have hX1a := (((below_al wV (.cells #[] 55)).block Y (Array.getElem?_eq_some_iff.1 HXV.out).1).trans HXV.out)
              have m1 := box_at1 hX1a (j := 1) rfl
              have m2 := box_at1 hX1 (j := 1) rfl
              have m3 := box_free hX1 1
              simp at m1 m2
              have hap := hd ap1
              have HX2 := hd hX1
              have HB2' := hd ab1
              have HR2 := hd (And.intro ar1 an1)
              clear ap1 ar1 an1 ab1 hX1 hX1a hba hwV
              go_upto_region 26 with (at_builtin; refine wpList_append_run rfl _ _ _ rfl _ _ _ _ rfl rfl hap.out ?_; clear hap)
              clear m1 m2 m3
              obtain ⟨wW, hwW⟩ : ∃ W, Hid (w2.setCell ⟨Y, 1, none⟩ (.slice a4 K c4) = W) := ⟨_, rfl⟩
              rw [hwW.out]
              have HXW : Hid (wW.heap[Y]? = some (.cells #[.slice a3 N c3, .slice a4 K c4, .int .i64 tl, .int .i64 dl] 53 (0, 0))) := hd (by
                have := box_put HX2.out 1 (.slice a4 K c4)
                rw [hwW.out] at this
                simpa using this)
              have HOW : Hid (∀ k, k ≠ Y → wW.heap[k]? = w2.heap[k]?) := hd (fun k hk => by rw [← hwW.out]; exact setCell_other _ _ _ _ _ hk)
              have HSW : Hid (wV.heap.size ≤ w2.heap.size ∧ wW.heap.size = w2.heap.size) := hd ⟨HB2'.out.size, by rw [← hwW.out, setCell_size]⟩
              have hbW : Below wr.heap.size wr wW := by rw [← hwW.out]; exact below_set (HBV.out.trans (HB2'.out.mono HBV.out.size)) (by rw [hY.out]; exact Nat.le_refl _)
              obtain ⟨a6, c6, w6, ap2, ag2, ab2, as2⟩ := AG.push (T := 47) Try.underlying47 info_lane rfl (by decide) HI.out.1 (by omega) (by rw [← hNB.out]; exact HI.out.2.size) hbW [.slice a3 N c3, .slice a4 K c4, .int .i64 tl, .int .i64 dl] rfl (by intro u hu; simp only [List.mem_cons, List.not_mem_nil, or_false] at hu; rcases hu with rfl | rfl | rfl | rfl <;> rfl) (fun V hV => by
                obtain ⟨z1, z2⟩ := HSV.out
                obtain ⟨z3, z4⟩ := HSW.out
                have z5 := HSY.out
                have z6 := hY.out
                obtain ⟨t1, t2⟩ := HR1.out
                obtain ⟨t3, t4⟩ := HR2.out
                have y1 : Row V 2 1 a3 N c3 uv := t1.kept fun q hq => by
                  have hl := t1.lt q hq
                  have hg := t2 q hq
                  rw [hV q (by omega) (by omega), HOW.out q (by omega), HB2'.out.block q (by omega), HOV.out q (by omega)]
                have y2 : Row V 55 2 a4 K c4 uw := t3.kept fun q hq => by
                  have hl := t3.lt q hq
                  have hg := t4 q hq
                  rw [hV q (by omega) (by omega), HOW.out q (by omega)]
                have h1 := hN.out
                have h2 := hK.out
                rw [← h1] at y1
                rw [← h2] at y2
                have y3 := DeR.of_row (E := iE) y1 (by rw [h1]; exact DV.out.2.2.2.1) (fun i hi => DV.out.2.2.2.2 i (by rw [← h1]; exact hi))
                have y4 := DeR.of_row (E := wE) y2 (by rw [h2]; exact DW.out.2.2.2.1) (fun i hi => DW.out.2.2.2.2 i (by rw [← h2]; exact hi))
                rw [h1] at y3
                rw [h2] at y4
                exact ⟨_, _, by rw [htl.out, hdl.out], y3, y4⟩)
              have m0 := box_at1 HXW.out (j := 0) rfl
              have m1 := box_at1 HXW.out (j := 1) rfl
              have m2 := box_at1 HXW.out (j := 2) rfl
              have m3 := box_at1 HXW.out (j := 3) rfl
              simp at m0 m1 m2 m3
              have hap2 := hd ap2
              have HI2 : Hid (AG 53 4 lE NB pl (k + 1) a6 c6 w6 ∧ Below NB wa w6) := hd ⟨ag2, HI.out.2.trans ab2⟩
              clear ap2 ag2 ab2 as2 hbW HI DV DW HF1 hN hK htl hdl HBI HBY HXY HSY HX1 HB1' HR1 HXV HOV HSV HBV HX2 HB2' HR2 HXW HOW HSW hwW
              go_wp2_with (at_builtin; refine wpList_append_run rfl _ _ _ rfl _ _ _ _ rfl rfl hap2.out ?_; clear hap2)
              go_roundg (gk - 1)
              case rel => exact ⟨k + 1, a6, c6, rfl, by go_num, by omega, HI2⟩
              case measure => omega
            · obtain rfl : k = nz := by omega
              have HXI := hd n3
              have HS5 : Hid (∀ W, W = wr.setCell ⟨X, 14, none⟩ (.slice ai k ci) → W.heap[X]? = some (.cells #[.int .i64 ps, .int .i64 pp, .int .i64 p0, .int .i64 p1, .int .i64 p2, .int .i64 p3, .int .i64 p4, .int .i64 p5, .int .i64 p6, .int .i64 p7, .int .i64 pc, .int .i64 pi, .bool pf, .int .i64 pw, .slice ai k ci] 49 (0, 0)) ∧ Below wo.heap.size wo W ∧ ∀ V, (∀ q, wo.heap.size ≤ q → q < W.heap.size → V.heap[q]? = W.heap[q]?) → rE V [.int .i64 ps, .int .i64 pp, .int .i64 p0, .int .i64 p1, .int .i64 p2, .int .i64 p3, .int .i64 p4, .int .i64 p5, .int .i64 p6, .int .i64 p7, .int .i64 pc, .int .i64 pi, .bool pf, .int .i64 pw, .slice ai k ci] ⟨ps, pp, ⟨p0, p1, p2, p3, p4, p5, p6, p7⟩, pc, pi, pf, pw, pl⟩) := hd (by
                rintro W rfl
                have hnb := hNX.out
                have hxx := hX.out
                have hbi : Below wo.heap.size wo wr := HBL.out.trans ((HI.out.2).mono (by rw [← hNB.out]; exact HBL.out.size))
                have hsw := HI.out.2.size
                refine ⟨by have := box_put HXI.out 14 (.slice ai k ci); simpa using this, below_set hbi (by omega), fun V hV => ?_⟩
                have hag := HI.out.1
                have h5 := hnz.out
                rw [← h5] at hag
                rw [setCell_size] at hV
                have hz := hag.stable (by rw [h5]; unfold BIG; omega) V (fun q q1 q2 => by rw [hV q (by omega) q2]; exact setCell_other _ _ _ _ _ (by omega))
                rw [h5] at hz
                exact ⟨_, rfl, hz⟩)
              clear n3
              go_upto_region 28 with fail
              clear n1 n2
              obtain ⟨wc, hwc⟩ : ∃ W, Hid (wr.setCell ⟨X, 14, none⟩ (.slice ai k ci) = W) := ⟨_, rfl⟩
              rw [hwc.out]
              obtain ⟨hXc, hbc, hpc⟩ := HS5.out wc hwc.out.symm
              clear HI HXI HS5 HIX hwc D3 HFB hNB hnz HXa HBL HSA hNX
              have hgs2 : gs < wo.heap.size := (Array.getElem?_eq_some_iff.1 HBG.out).1
              have hgc := (hbc.block gs hgs2).trans HBG.out
              have HGC := hd hgc
              have nn1 := box_at1 hgc (j := 2) rfl
              simp at nn1
              have m0_ := box_at1 hXc (j := 0) rfl
              have m1_ := box_at1 hXc (j := 1) rfl
              have m2_ := box_at1 hXc (j := 2) rfl
              have m3_ := box_at1 hXc (j := 3) rfl
              have m4_ := box_at1 hXc (j := 4) rfl
              have m5_ := box_at1 hXc (j := 5) rfl
              have m6_ := box_at1 hXc (j := 6) rfl
              have m7_ := box_at1 hXc (j := 7) rfl
              have m8_ := box_at1 hXc (j := 8) rfl
              have m9_ := box_at1 hXc (j := 9) rfl
              have m10_ := box_at1 hXc (j := 10) rfl
              have m11_ := box_at1 hXc (j := 11) rfl
              have m12_ := box_at1 hXc (j := 12) rfl
              have m13_ := box_at1 hXc (j := 13) rfl
              have m14_ := box_at1 hXc (j := 14) rfl
              obtain ⟨a5, c5, w5, ap3, ag3, ab3, as3⟩ := AG.push (T := 28) Try.underlying28 info_process rfl (by decide) HAG.out (by have := F2.out; omega) HMD.out.size hbc [.int .i64 ps, .int .i64 pp, .int .i64 p0, .int .i64 p1, .int .i64 p2, .int .i64 p3, .int .i64 p4, .int .i64 p5, .int .i64 p6, .int .i64 p7, .int .i64 pc, .int .i64 pi, .bool pf, .int .i64 pw, .slice ai k ci] rfl (by intro u hu; simp only [List.mem_cons, List.not_mem_nil, or_false] at hu; rcases hu with rfl | rfl | rfl | rfl | rfl | rfl | rfl | rfl | rfl | rfl | rfl | rfl | rfl | rfl | rfl <;> rfl) (fun V hV => by rw [hx.out]; exact hpc V hV)
              have hWg : gs < W2.heap.size := HW2.out
              have hg2 : w5.heap[gs]? = wo.heap[gs]? := ab3.block gs hWg
              have hg3 := hg2.trans HBG.out
              have HNX : Hid (∀ W, W = w5.setCell ⟨gs, 2, none⟩ (.slice a5 (i2 + 1) c5) → ∃ aA cA, W.heap[gs]? = some (.cells #[.int .i64 tk, .slice aP i cP, .slice aA (i2 + 1) cA] 30 (0, 0)) ∧ AG 49 15 rE W2.heap.size pq (i2 + 1) aA cA W ∧ Mod (fun k => k = gs) W2 W) := hd (by
                rintro W rfl
                have hbp := box_put hg3 2 (.slice a5 (i2 + 1) c5)
                refine ⟨a5, c5, by simpa using hbp, ?_, ?_⟩
                · exact ag3.kept (by rw [setCell_size]; exact Nat.le_refl _) (fun k k1 k2 => setCell_other _ _ _ _ _ (by omega))
                · have hm5 : Mod (fun k => k = gs) W2 w5 := HMD.out.trans (S' := fun k => W2.heap.size ≤ k) ⟨ab3.os, ab3.tape, ab3.output, as3, fun k k1 k2 => ab3.block k (by omega)⟩ (fun k hk => .inr hk)
                  exact Mod.setCell (p := ⟨gs, 2, none⟩) hm5 (.inl rfl) _)
              have oo1 := box_at1 hg3 (j := 2) rfl
              have oo2 := box_free hg3 2
              simp at oo1
              have hap := hd ap3
              clear ap3 ag3 ab3 as3 hg2 hg3 hgc hXc hbc hpc HG HAG HBG HMD HGC hgs2 hWg
              go_wp2_with (at_builtin; refine wpList_append_run rfl _ _ _ rfl _ _ _ _ rfl rfl hap.out ?_; clear hap)
              go_roundg (GK - 1)
              case rel => exact ⟨i2 + 1, by go_num, by omega, hd (HNX.out _ rfl)⟩
              case measure => omega
        · obtain rfl : i2 = nq := by omega
          obtain ⟨g1, g2, g3⟩ := set3 br (.int .i64 tk) (.slice aP i cP) (.slice aA i2 cA)
          have g4 := set3_below (A := w.heap.size) (B := B1) bw (by have := hB.out; have := hB1.out; omega) (.int .i64 tk) (.slice aP i cP) (.slice aA i2 cA)
          obtain ⟨FW, hFW⟩ : ∃ W, Hid (((wo.setCell ⟨B1, 0, none⟩ (.int .i64 tk)).setCell ⟨B1, 1, none⟩ (.slice aP i cP)).setCell ⟨B1, 2, none⟩ (.slice aA i2 cA) = W) := ⟨_, rfl⟩
          rw [hFW.out] at g1 g2 g3 g4
          have HZ := hd g1
          have HO : Hid (Q0 (.returned (.agg #[.int .i64 tk, .slice aP i cP, .slice aA i2 cA])) FW) := hd (by
            rw [← hQ.out]
            have hx1 : pp.length = i := hnp.out
            have hy1 : pq.length = i2 := hnq.out
            have hb2 := hB1.out
            have hb3 := hgs0.out
            have hsz := HSZ.out
            have h12 := HW12.out
            have f1 := F1.out
            have f2 := F2.out
            have hms := HMD.out.size
            refine ⟨_, rfl, ⟨.slice aP i cP, .slice aA i2 cA, rfl, ?_, ?_⟩, g4⟩
            · rw [← hx1]
              have h1 := HAG1.out.kept (w' := FW) (by rw [g2]; exact hms) (fun k k1 k2 => by rw [g3 k (by omega)]; exact HMD.out.block k k2 (by omega))
              rw [← hx1] at h1
              exact h1.end (by unfold BIG; omega)
            · rw [← hy1]
              have h1 := HAG.out.kept (w' := FW) (by rw [g2]; exact Nat.le_refl _) (fun k k1 k2 => g3 k (by omega))
              rw [← hy1] at h1
              exact h1.end (by unfold BIG; omega))
          have x2 := box_at1 bx (j := 2) rfl
          simp at x2
          have v0_ := box_at1 hbg (j := 0) rfl
          have v1_ := box_at1 hbg (j := 1) rfl
          have v2_ := box_at1 hbg (j := 2) rfl
          have z0_ := box_at1 br (j := 0) rfl
          have z1_ := box_at1 br (j := 1) rfl
          have z2_ := box_at1 br (j := 2) rfl
          have zf : ∀ j, wo.frozen? ⟨B1, j, none⟩ = false := fun j => box_free br j
          clear g1 g2 g3 g4 HG HAG HMD HBG hAG hmd hbg bx br bw hlt hik HX HT HA HB F1 F2 F3 F4 HAG1
          go_wp2_with fail
          rw [hFW.out]
          refine bodyPost_ret (v := .agg #[.int .i64 tk, .slice aP i cP, .slice aA i2 cA]) ?_ rfl HO.out
          have y0_ := box_at1 HZ.out (j := 0) rfl
          have y1_ := box_at1 HZ.out (j := 1) rfl
          have y2_ := box_at1 HZ.out (j := 2) rfl
          clear HO HZ v0_ v1_ v2_ z0_ z1_ z2_ zf hFW
          simp at y0_ y1_ y2_
          simp [results, Try.results14, go_sem, y0_, y1_, y2_]
end Go.Proofs.Ytjbmljheepomnaa
