/- What is seen: the walk of Of. -/
import Derived.Test.YtjbmljheepomnaaVQ2
namespace Go.Proofs.Ytjbmljheepomnaa
open Go.RowKit

/-- The state that is being told. -/
structure OS (W0 wy : World) (tk : Int) (np nq gs P Q : Nat) : Prop where
  box : wy.heap[gs]? = some (.cells #[.int .i64 tk, .slice (some ⟨P, 0, none⟩) np np, .slice (some ⟨Q, 0, none⟩) nq nq] 30 (0, 0))
  rp : ∃ L, Row wy 43 6 (some ⟨P, 0, none⟩) np np L ∧ ∀ j, j < np → el 6 L j = zpL
  rq : ∃ L, Row wy 49 15 (some ⟨Q, 0, none⟩) nq nq L ∧ ∀ j, j < nq → el 15 L j = zrL
  ne : P ≠ Q ∧ P ≠ gs ∧ Q ≠ gs
  ge : W0.heap.size ≤ P ∧ W0.heap.size ≤ Q ∧ W0.heap.size ≤ gs
  bel : Below W0.heap.size W0 wy
theorem OS.mk6 {W0 : World} {tk : Int} {np nq : Nat} (h1 : np ≤ maxLen) (h2 : nq ≤ maxLen) (W : World) (gs P Q : Nat) (hs : W.heap[gs]? = some (.cells #[.int .i64 tk, .slice (some ⟨P, 0, none⟩) np np, .slice (some ⟨Q, 0, none⟩) nq nq] 30 (0, 0))) (hp : W.heap[P]? = some (.cells (madeCells (Value.agg #[.int .i64 0, .slice none 0 0, .int .i64 0, .int .i64 0, .slice none 0 0, .slice none 0 0]).cells (np * 6)) 43)) (hq : W.heap[Q]? = some (.cells (madeCells (Value.agg #[.int .i64 0, .int .i64 0, .int .i64 0, .int .i64 0, .int .i64 0, .int .i64 0, .int .i64 0, .int .i64 0, .int .i64 0, .int .i64 0, .int .i64 0, .int .i64 0, .bool false, .int .i64 0, .slice none 0 0]).cells (nq * 15)) 49))
    (hn : P ≠ Q ∧ P ≠ gs ∧ Q ≠ gs) (hg : W0.heap.size ≤ P ∧ W0.heap.size ≤ Q ∧ W0.heap.size ≤ gs) (hb : Below W0.heap.size W0 W) : OS W0 W tk np nq gs P Q :=
  ⟨hs, ⟨_, row_new hp (size_madeCells _ _) h1, fun j hj => made_el (Value.agg #[.int .i64 0, .slice none 0 0, .int .i64 0, .int .i64 0, .slice none 0 0, .slice none 0 0]).cells np j hj⟩, ⟨_, row_new hq (size_madeCells _ _) h2, fun j hj => made_el (Value.agg #[.int .i64 0, .int .i64 0, .int .i64 0, .int .i64 0, .int .i64 0, .int .i64 0, .int .i64 0, .int .i64 0, .int .i64 0, .int .i64 0, .int .i64 0, .int .i64 0, .bool false, .int .i64 0, .slice none 0 0]).cells nq j hj⟩, hn, hg, hb⟩
set_option maxRecDepth 100000 in
set_option maxHeartbeats 16000000 in
theorem of_any {w : World} {cc cs : List Value} {c : CfX} {x : StX} (hc : fE w cc c) (hx : sE w cs x) (hf : StFew x) (a : Nat) (ha : a < 18446744073709551616) : Calls Try.prog 9 #[.agg cc.toArray, .agg cs.toArray, .int .u64 (a : Int)] w (OfOut w (ofX c a x)) := by
  obtain ⟨tk, pp, pq⟩ := x
  obtain ⟨u, v, e1, k1, k2⟩ := hx
  obtain ⟨f1, f2, f3, f4⟩ := hf
  simp only at e1 k1 k2 f1 f2 f3 f4
  subst e1
  have HFC := hd hc
  obtain ⟨v0, v1, v2, v3, v4, v5, v6, ecc, -, -⟩ := hc
  subst ecc
  obtain ⟨la, lc, rfl, -, hA⟩ := k1.at' (by decide)
  obtain ⟨lb, ld, rfl, -, hB⟩ := k2.at' (by decide)
  have HA := hd hA
  have HB := hd hB
  have F3 := hd f3
  have F4 := hd f4
  obtain ⟨Q0, hQ⟩ : ∃ Q, Hid (OfOut w (ofX c a ⟨tk, pp, pq⟩) = Q) := ⟨_, rfl⟩
  rw [hQ.out]
  obtain ⟨np, hnp⟩ : ∃ n, Hid (pp.length = n) := ⟨_, rfl⟩
  obtain ⟨nq, hnq⟩ : ∃ n, Hid (pq.length = n) := ⟨_, rfl⟩
  rw [hnp.out] at HA f1 ⊢
  rw [hnq.out] at HB f2 ⊢
  have F1 := hd f1
  have F2 := hd f2
  clear hA hB k1 k2 f3 f4
  have HC7 : Hid (fE w [v0, v1, v2, v3, v4, v5, v6] c) := HFC
  go_enter Try.func9, Try.ntmps9
  go_upto_region 1 with fail
  obtain ⟨h1, h2, h3, h4, h5⟩ := three_al w (.cells #[v0, v1, v2, v3, v4, v5, v6] 26) (.cells #[.int .i64 tk, .slice la np lc, .slice lb nq ld] 30) (.cells #[.int .i64 0, .slice none 0 0, .slice none 0 0] 30)
  obtain ⟨W0, hW0⟩ : ∃ W, Hid (((w.alloc (.cells #[v0, v1, v2, v3, v4, v5, v6] 26)).alloc (.cells #[.int .i64 tk, .slice la np lc, .slice lb nq ld] 30)).alloc (.cells #[.int .i64 0, .slice none 0 0, .slice none 0 0] 30) = W) := ⟨_, rfl⟩
  rw [hW0.out] at h1 h2 h3 h4 h5 ⊢
  obtain ⟨B, hB⟩ : ∃ n, Hid (w.heap.size = n) := ⟨_, rfl⟩
  rw [hB.out] at h1 h2 h3 h4 ⊢
  obtain ⟨B1, hB1⟩ : ∃ n, Hid (B + 1 = n) := ⟨_, rfl⟩
  obtain ⟨B2, hB2⟩ : ∃ n, Hid (B + 2 = n) := ⟨_, rfl⟩
  (try rw [show B + 1 + 1 = B + 2 from rfl])
  rw [hB1.out] at h2 ⊢
  rw [hB2.out] at h3 ⊢
  have S0 := hd h4
  have BW0 := hd h5
  have X1 := hd h1
  have X2 := hd h2
  have X3 := hd h3
  have x0 := box_at1 h2 (j := 0) rfl
  have x1 := box_at1 h2 (j := 1) rfl
  have x2 := box_at1 h2 (j := 2) rfl
  simp at x0 x1 x2
  have hmP := fun W => make_eq 27 43 _ 6 96 Try.underlying27 info_part np (by omega) (by unfold maxLen; omega) W
  have hmQ := fun W => make_eq 28 49 _ 15 136 Try.underlying28 info_process nq (by omega) (by unfold maxLen; omega) W
  have HM := hd (OS.mk6 (W0 := W0) (tk := tk) (np := np) (nq := nq) (by unfold maxLen; omega) (by unfold maxLen; omega))
  obtain ⟨oP, hoP⟩ : ∃ o, Hid (Obj.cells (madeCells (Value.agg #[.int .i64 0, .slice none 0 0, .int .i64 0, .int .i64 0, .slice none 0 0, .slice none 0 0]).cells (np * 6)) 43 = o) := ⟨_, rfl⟩
  obtain ⟨oQ, hoQ⟩ : ∃ o, Hid (Obj.cells (madeCells (Value.agg #[.int .i64 0, .int .i64 0, .int .i64 0, .int .i64 0, .int .i64 0, .int .i64 0, .int .i64 0, .int .i64 0, .int .i64 0, .int .i64 0, .int .i64 0, .int .i64 0, .bool false, .int .i64 0, .slice none 0 0]).cells (nq * 15)) 49 = o) := ⟨_, rfl⟩
  rw [hoP.out] at hmP HM
  rw [hoQ.out] at hmQ HM
  have HK : Hid (∀ V, Below W0.heap.size W0 V → V.cell? ⟨B1, 0, none⟩ = some (.int .i64 tk) ∧ V.cell? ⟨B1, 1, none⟩ = some (.slice la np lc) ∧ V.cell? ⟨B1, 2, none⟩ = some (.slice lb nq ld)) := hd (fun V hb => ⟨(hb.cell (World.block_lt_of_cell? W0 _ x0)).trans x0, (hb.cell (World.block_lt_of_cell? W0 _ x1)).trans x1, (hb.cell (World.block_lt_of_cell? W0 _ x2)).trans x2⟩)
  clear h1 h2 h3 h4 h5 hW0 hoP hoQ
  go_cut [7] (fun v7 wy => ∃ gs P Q : Nat, v7 = .pointer (some ⟨gs, 0, none⟩) ∧ Hid (OS W0 wy tk np nq gs P Q))
  case first =>
    go_region_held3 (fun w' => w'.cell? ⟨B1, 0, none⟩ = some (.int .i64 tk) ∧ w'.cell? ⟨B1, 1, none⟩ = some (.slice la np lc) ∧ w'.cell? ⟨B1, 2, none⟩ = some (.slice lb nq ld)) (first | exact HK.out _ (three_al W0 _ _ _).2.2.2.2.drew | exact HK.out _ (three_al W0 _ _ _).2.2.2.2 | go_keep) (fail)
    all_goals (
      go_wp2_with fail
      go_meet)
    · refine ⟨W0.heap.size + 1 + 1, W0.heap.size, W0.heap.size + 1, rfl, hd ?_⟩
      exact HM.out _ _ _ _ (three_al W0 _ _ _).2.2.1 (three_al W0 _ _ _).1 (three_al W0 _ _ _).2.1 (by omega) (by omega) (three_al W0 _ _ _).2.2.2.2.drew
    · refine ⟨W0.heap.size + 1, W0.heap.size, W0.heap.size + 1 + 1, rfl, hd ?_⟩
      exact HM.out _ _ _ _ (three_al W0 _ _ _).2.1 (three_al W0 _ _ _).1 (three_al W0 _ _ _).2.2.1 (by omega) (by omega) (three_al W0 _ _ _).2.2.2.2.drew
    · refine ⟨W0.heap.size + 1 + 1, W0.heap.size + 1, W0.heap.size, rfl, hd ?_⟩
      exact HM.out _ _ _ _ (three_al W0 _ _ _).2.2.1 (three_al W0 _ _ _).2.1 (three_al W0 _ _ _).1 (by omega) (by omega) (three_al W0 _ _ _).2.2.2.2.drew
    · refine ⟨W0.heap.size + 1, W0.heap.size + 1 + 1, W0.heap.size, rfl, hd ?_⟩
      exact HM.out _ _ _ _ (three_al W0 _ _ _).2.1 (three_al W0 _ _ _).2.2.1 (three_al W0 _ _ _).1 (by omega) (by omega) (three_al W0 _ _ _).2.2.2.2.drew
    · refine ⟨W0.heap.size, W0.heap.size + 1, W0.heap.size + 1 + 1, rfl, hd ?_⟩
      exact HM.out _ _ _ _ (three_al W0 _ _ _).1 (three_al W0 _ _ _).2.1 (three_al W0 _ _ _).2.2.1 (by omega) (by omega) (three_al W0 _ _ _).2.2.2.2.drew
    · refine ⟨W0.heap.size, W0.heap.size + 1 + 1, W0.heap.size + 1, rfl, hd ?_⟩
      exact HM.out _ _ _ _ (three_al W0 _ _ _).1 (three_al W0 _ _ _).2.2.1 (three_al W0 _ _ _).2.1 (by omega) (by omega) (three_al W0 _ _ _).2.2.2.2.drew
  case rest =>
    obtain ⟨gs, P, Q, rfl, HOS⟩ := hcut
    have HX : Hid (∀ wr, Mod (fun k => k = P ∨ k = Q) wc wr → wr.heap[B]? = some (.cells #[v0, v1, v2, v3, v4, v5, v6] 26 (0, 0)) ∧ wr.heap[B1]? = some (.cells #[.int .i64 tk, .slice la np lc, .slice lb nq ld] 30 (0, 0)) ∧ wr.heap[B2]? = some (.cells #[.int .i64 0, .slice none 0 0, .slice none 0 0] 30 (0, 0)) ∧ wr.heap[gs]? = some (.cells #[.int .i64 tk, .slice (some ⟨P, 0, none⟩) np np, .slice (some ⟨Q, 0, none⟩) nq nq] 30 (0, 0)) ∧ Below w.heap.size w wr) := hd (fun wr h => by
      have s0 := S0.out
      have hb := hB.out
      have hb1 := hB1.out
      have hb2 := hB2.out
      obtain ⟨g1, g2, g3⟩ := HOS.out.ge
      obtain ⟨n1, n2, n3⟩ := HOS.out.ne
      have hbl := HOS.out.bel
      have hsz := hbl.size
      have hgl : gs < wc.heap.size := (Array.getElem?_eq_some_iff.1 HOS.out.box).1
      refine ⟨?_, ?_, ?_, ?_, ?_⟩
      · rw [h.block B (by omega) (by omega), hbl.block B (by omega)]; exact X1.out
      · rw [h.block B1 (by omega) (by omega), hbl.block B1 (by omega)]; exact X2.out
      · rw [h.block B2 (by omega) (by omega), hbl.block B2 (by omega)]; exact X3.out
      · rw [h.block gs hgl (by omega)]; exact HOS.out.box
      · exact (BW0.out.trans (hbl.mono BW0.out.size)).trans (h.below (by have := BW0.out.size; omega) (fun k _ e => by rcases e with e | e <;> (have := BW0.out.size; omega))))
    obtain ⟨xs, hxs⟩ : ∃ l, Hid (cutL (seesP c a) pt0 0 pp = l) := ⟨_, rfl⟩
    obtain ⟨ys, hys⟩ : ∃ l, Hid (cutL (seesQ c a) pr0 0 pq = l) := ⟨_, rfl⟩
    have HCX : Hid (∀ j, j < np → xs.getD j default = if seesP c a (j : Int) then pp.getD j default else pt0) := hd (fun j hj => by
      have := cut_at (seesP c a) pt0 default 0 pp j (by rw [hnp.out]; exact hj)
      rw [hxs.out, Nat.zero_add] at this
      exact this)
    have HCY : Hid (∀ j, j < nq → ys.getD j default = if seesQ c a (j : Int) then pq.getD j default else pr0) := hd (fun j hj => by
      have := cut_at (seesQ c a) pr0 default 0 pq j (by rw [hnq.out]; exact hj)
      rw [hys.out, Nat.zero_add] at this
      exact this)
    have G0 : Hid (GI 43 6 pO zpL wc P np xs 0 wc) := hd (by
      obtain ⟨L, r1, r2⟩ := HOS.out.rp
      exact ⟨⟨L, fun _ => wc.heap.size, r1, rfl, rfl, fun j hj => absurd hj (Nat.not_lt_zero j), fun j hj => absurd hj (Nat.not_lt_zero j), fun j _ hj => r2 j hj⟩, Mod.refl _ _, r1.lt P rfl⟩)
    obtain ⟨bx, bs, br, bg, bw⟩ := HX.out wc (Mod.refl _ _)
    have x1 := box_at1 bs (j := 1) rfl
    have x0 := box_at1 bs (j := 0) rfl
    have x2 := box_at1 bs (j := 2) rfl
    simp at x0 x1 x2
    clear hmP hmQ HM HK X1 X2 X3 bx bs br bg bw
    go_wp2_with fail
    clear x0 x1 x2
    go_loopg [26] np (fun k v26 wr => ∃ (i : Nat), v26 = .int .i64 (i : Int) ∧ i + k = np ∧ Hid (GI 43 6 pO zpL wc P np xs i wr))
    case atStart => exact ⟨0, rfl, by omega, G0⟩
    case round =>
      obtain ⟨i, rfl, hik, HG⟩ := hrel
      (try clear G0)
      obtain ⟨bx, bs, br, bg, bw⟩ := HX.out wr (HG.out.md.mono (fun k _ e => .inl e))
      by_cases hlt : i < np
      · have hlt' : (i : Int) < (np : Int) := by omega
        obtain ⟨ga, oa, csp, ea, -, e1, e2⟩ := HA.out i hlt
        subst ea
        have HE1 := hd e1
        have HFW := hd (F3.out i)
        have HCi := hd (HCX.out i hlt)
        obtain ⟨x, hx⟩ : ∃ x, Hid (pp.getD i default = x) := ⟨_, rfl⟩
        rw [hx.out] at e1 HE1 HFW HCi
        have HX1 := hd e1
        obtain ⟨p0, p1, p2, p3, p4, p5⟩ := x
        obtain ⟨up, vp, zp, ep, dd1, dd2, dd3⟩ := id e1
        simp only at ep dd1 dd2 dd3
        obtain ⟨ua, uc, -, eu, -⟩ := dd1
        obtain ⟨va, vc, -, ev, -⟩ := dd2
        obtain ⟨za, zc, -, ez, -⟩ := dd3
        subst eu ev ez
        subst ep
        have q0_ := e2 wr bw 0 _ rfl
        have q1_ := e2 wr bw 1 _ rfl
        have q2_ := e2 wr bw 2 _ rfl
        have q3_ := e2 wr bw 3 _ rfl
        have q4_ := e2 wr bw 4 _ rfl
        have q5_ := e2 wr bw 5 _ rfl
        simp only [Nat.add_zero] at q0_
        have bgs := box_at1 bg (j := 1) rfl
        simp at bgs
        clear e1 e2 bs br
        go_upto_region 5 with fail
        have hal := heap_alloc_new wr (.cells #[.int .i64 p0, .slice ua p1.length uc, .int .i64 p2, .int .i64 p3, .slice va p4.length vc, .slice za p5.length zc] 43)
        have hbl := below_al wr (.cells #[.int .i64 p0, .slice ua p1.length uc, .int .i64 p2, .int .i64 p3, .slice va p4.length vc, .slice za p5.length zc] 43)
        obtain ⟨wa, hwa⟩ : ∃ W, Hid (wr.alloc (.cells #[.int .i64 p0, .slice ua p1.length uc, .int .i64 p2, .int .i64 p3, .slice va p4.length vc, .slice za p5.length zc] 43) = W) := ⟨_, rfl⟩
        rw [hwa.out] at hal hbl ⊢
        obtain ⟨G, hG⟩ : ∃ n, Hid (wr.heap.size = n) := ⟨_, rfl⟩
        rw [hG.out] at hal ⊢
        have HBL := hd hbl
        have hbwa := bw.trans (hbl.mono bw.size)
        have hsp := seesPart_any (HC7.out.below hbwa) (i : Int) a ha
        obtain ⟨r, hr⟩ : ∃ r, Hid (seesP c a (i : Int) = r) := ⟨_, rfl⟩
        rw [hr.out] at hsp HCi
        have hbxa := (hbl.block B (Array.getElem?_eq_some_iff.1 bx).1).trans bx
        have y0_ := box_at1 hbxa (j := 0) rfl
        have y1_ := box_at1 hbxa (j := 1) rfl
        have y2_ := box_at1 hbxa (j := 2) rfl
        have y3_ := box_at1 hbxa (j := 3) rfl
        have y4_ := box_at1 hbxa (j := 4) rfl
        have y5_ := box_at1 hbxa (j := 5) rfl
        have y6_ := box_at1 hbxa (j := 6) rfl
        simp at y0_ y1_ y2_ y3_ y4_ y5_ y6_
        have HGA : Hid (∀ V, Below wa.heap.size wa V → V.cell? ⟨G, 0, none⟩ = some (.int .i64 p0) ∧ V.cell? ⟨G, 1, none⟩ = some (.slice ua p1.length uc) ∧ V.cell? ⟨G, 2, none⟩ = some (.int .i64 p2) ∧ V.cell? ⟨G, 3, none⟩ = some (.int .i64 p3) ∧ V.cell? ⟨G, 4, none⟩ = some (.slice va p4.length vc) ∧ V.cell? ⟨G, 5, none⟩ = some (.slice za p5.length zc) ∧ V.cell? ⟨gs, 1, none⟩ = some (.slice (some ⟨P, 0, none⟩) np np)) := hd (fun V hb => by
          have hh := (hb.block G (Array.getElem?_eq_some_iff.1 hal).1).trans hal
          have hgl := World.block_lt_of_cell? wr _ bgs
          exact ⟨box_at1 hh rfl, box_at1 hh rfl, box_at1 hh rfl, box_at1 hh rfl, box_at1 hh rfl, box_at1 hh rfl, by rw [hb.cell (p := ⟨gs, 1, none⟩) (Nat.lt_of_lt_of_le hgl HBL.out.size), HBL.out.cell (p := ⟨gs, 1, none⟩) hgl]; exact bgs⟩)
        have HBWa := hd hbwa
        clear q0_ q1_ q2_ q3_ q4_ q5_ bgs bx bg bw hal hbl hbxa hbwa hwa hr
        cases r
        case false =>
          have HSK : Hid (∀ wb, Below wa.heap.size wa wb → GI 43 6 pO zpL wc P np xs (i + 1) wb) := hd (fun wb hb => by
            have hb' := HBL.out.trans (hb.mono HBL.out.size)
            refine HG.out.skip hlt (fun _ _ _ _ _ _ hk h => h.kept hk) hb' ?_
            rw [HCi.out]
            exact pO.zero hb'.size wb)
          go_wp2_with (go_at_call 17; (with_reducible refine hsp.mono ?_); rintro e wb ⟨rfl, bb⟩; have BB := hd (HSK.out wb bb); clear bb)
          go_roundg (gk - 1)
          case rel => exact ⟨i + 1, by go_num, by omega, BB⟩
          case measure => omega
        case true =>
          go_upto_region 6 with (go_at_call 17; (with_reducible refine hsp.mono ?_); rintro e wb ⟨rfl, bb⟩; have BB := hd bb; clear bb)
          have hbb := BB.out
          have hst := copiedPart_any (HE1.out.below ((HBWa.out.trans (hbb.mono HBWa.out.size)).trans ((bel_drew wb).mono (HBWa.out.trans (hbb.mono HBWa.out.size)).size))) HFW.out
          have HPUT : Hid (∀ (w2 : World) (y1 y4 y5 : Value), Below wb.drew.heap.size wb.drew w2 → pO wb.drew.heap.size w2.heap.size w2 [.int .i64 p0, y1, .int .i64 p2, .int .i64 p3, y4, y5] ⟨p0, p1, p2, p3, p4, p5⟩ → GI 43 6 pO zpL wc P np xs (i + 1) ((((((w2.setCell ⟨P, i * 6, none⟩ (.int .i64 p0)).setCell ⟨P, i * 6 + 1, none⟩ (y1)).setCell ⟨P, i * 6 + 2, none⟩ (.int .i64 p2)).setCell ⟨P, i * 6 + 3, none⟩ (.int .i64 p3)).setCell ⟨P, i * 6 + 4, none⟩ (y4)).setCell ⟨P, i * 6 + 5, none⟩ (y5)) ∧ ((∃ u, w2.cell? ⟨P, i * 6, none⟩ = some u) ∧ (∃ u, w2.cell? ⟨P, i * 6 + 1, none⟩ = some u) ∧ (∃ u, w2.cell? ⟨P, i * 6 + 2, none⟩ = some u) ∧ (∃ u, w2.cell? ⟨P, i * 6 + 3, none⟩ = some u) ∧ (∃ u, w2.cell? ⟨P, i * 6 + 4, none⟩ = some u) ∧ (∃ u, w2.cell? ⟨P, i * 6 + 5, none⟩ = some u)) ∧ ∀ j, w2.frozen? ⟨P, j, none⟩ = false) := hd (fun w2 y1 y4 y5 hb2 hp => by
            have hb' := bel_dr hb2
            have hwb := HBL.out.trans (hbb.mono HBL.out.size)
            refine HG.out.put6 hlt hwb hb' ?_
            rw [HCi.out]
            exact hp)
          have HGB : Hid (∀ V, Below wb.heap.size wb V → V.cell? ⟨G, 0, none⟩ = some (.int .i64 p0) ∧ V.cell? ⟨G, 1, none⟩ = some (.slice ua p1.length uc) ∧ V.cell? ⟨G, 2, none⟩ = some (.int .i64 p2) ∧ V.cell? ⟨G, 3, none⟩ = some (.int .i64 p3) ∧ V.cell? ⟨G, 4, none⟩ = some (.slice va p4.length vc) ∧ V.cell? ⟨G, 5, none⟩ = some (.slice za p5.length zc) ∧ V.cell? ⟨gs, 1, none⟩ = some (.slice (some ⟨P, 0, none⟩) np np)) := hd (fun V hb => HGA.out V (hbb.trans (hb.mono hbb.size)))
          obtain ⟨m0, m1, m2, m3, m4, m5, m6⟩ := HGB.out wb (below_same _)
          have hne : gs ≠ P ∧ P ≠ gs ∧ G ≠ P ∧ P ≠ G := by
            have h1 := HOS.out.ne
            have h2 := HG.out.lt
            have h3 := HG.out.md.size
            have h4 := hG.out
            omega
          obtain ⟨ne1, ne2, ne3, ne4⟩ := hne
          clear hsp y0_ y1_ y2_ y3_ y4_ y5_ y6_ HGA hbb HE1 HFW HX1 HCi
          go_region_held3 (fun w' => w'.cell? ⟨G, 0, none⟩ = some (.int .i64 p0) ∧ w'.cell? ⟨G, 1, none⟩ = some (.slice ua p1.length uc) ∧ w'.cell? ⟨G, 2, none⟩ = some (.int .i64 p2) ∧ w'.cell? ⟨G, 3, none⟩ = some (.int .i64 p3) ∧ w'.cell? ⟨G, 4, none⟩ = some (.slice va p4.length vc) ∧ w'.cell? ⟨G, 5, none⟩ = some (.slice za p5.length zc) ∧ w'.cell? ⟨gs, 1, none⟩ = some (.slice (some ⟨P, 0, none⟩) np np)) (go_keep)
            (first
              | (go_at_call 18; (with_reducible refine hst.mono ?_); rintro e w2 ⟨cs2, rfl, hpo, b2⟩; obtain ⟨k0, k1, k2, k3, k4, k5, k6⟩ := HGB.out w2 (bel_dr b2); have hpo2 := hpo; obtain ⟨y1, y4, y5, m1_, m2_, ecs, ma_, mb_, mc_, md_, me_, mf_⟩ := hpo; simp only at ecs; subst ecs; simp only at md_ me_ mf_; obtain ⟨s1a, s1c, -, -, es1, -⟩ := md_; obtain ⟨s4a, s4c, -, -, es4, -⟩ := me_; obtain ⟨s5a, s5c, -, -, es5, -⟩ := mf_; subst es1 es4 es5; obtain ⟨hg2, ⟨⟨z0, zz0⟩, ⟨z1, zz1⟩, ⟨z2, zz2⟩, ⟨z3, zz3⟩, ⟨z4, zz4⟩, ⟨z5, zz5⟩⟩, hfz⟩ := HPUT.out w2 (.slice s1a p1.length s1c) (.slice s4a p4.length s4c) (.slice s5a p5.length s5c) b2 hpo2; have HG2 := hd hg2; clear hg2 hpo2 b2))
          all_goals (
            go_wp2_with fail
            go_roundg (gk - 1)
            case rel => exact ⟨i + 1, by go_num, by omega, HG2⟩
            case measure => omega)
      · obtain rfl : i = np := by omega
        have HG1 := HG
        have hmd1 := HG.out.md
        obtain ⟨W2, hW2⟩ : ∃ W, Hid (wr = W) := ⟨_, rfl⟩
        rw [hW2.out] at HG1 hmd1 bs ⊢
        have HT : Hid (∀ v, Mod (fun k => k = Q) W2 v → Mod (fun k => k = P ∨ k = Q) wc v) := hd (fun v hv => (hmd1.mono (S' := fun k => k = P ∨ k = Q) (fun k _ e => .inl e)).trans hv (fun k e => .inl (.inr e)))
        have G2 : Hid (GI 49 15 rO zrL W2 Q nq ys 0 W2) := hd (by
          obtain ⟨L, r1, r2⟩ := HOS.out.rq
          obtain ⟨n1, n2, n3⟩ := HOS.out.ne
          have hql := r1.lt Q rfl
          have r1' := r1.mod hmd1 (fun k hk e => by cases hk; exact n1 e.symm)
          exact ⟨⟨L, fun _ => W2.heap.size, r1', rfl, rfl, fun j hj => absurd hj (Nat.not_lt_zero j), fun j hj => absurd hj (Nat.not_lt_zero j), fun j _ hj => r2 j hj⟩, Mod.refl _ _, r1'.lt Q rfl⟩)
        have x1 := box_at1 bs (j := 1) rfl
        have x2 := box_at1 bs (j := 2) rfl
        simp at x1 x2
        clear HG bx bs br bg bw hmd1 hlt hik
        go_wp2_with fail
        clear x1 x2
        go_loopg [45] nq (fun k v45 wr => ∃ (i2 : Nat), v45 = .int .i64 (i2 : Int) ∧ i2 + k = nq ∧ Hid (GI 49 15 rO zrL W2 Q nq ys i2 wr))
        case atStart => exact ⟨0, rfl, by omega, G2⟩
        case round =>
          obtain ⟨i2, rfl, hik, HG⟩ := hrel
          (try clear G0)
          obtain ⟨bx, bs, br, bg, bw⟩ := HX.out wr (HT.out wr HG.out.md)
          by_cases hlt : i2 < nq
          · have hlt' : (i2 : Int) < (nq : Int) := by omega
            obtain ⟨ga, oa, csp, ea, -, e1, e2⟩ := HB.out i2 hlt
            subst ea
            have HE1 := hd e1
            have HFW := hd (F4.out i2)
            have HCi := hd (HCY.out i2 hlt)
            obtain ⟨x, hx⟩ : ∃ x, Hid (pq.getD i2 default = x) := ⟨_, rfl⟩
            rw [hx.out] at e1 HE1 HFW HCi
            have HX1 := hd e1
            obtain ⟨ps, pp, ⟨p0, p1, p2, p3, p4, p5, p6, p7⟩, pc, pi, pf, pw, pl⟩ := x
            obtain ⟨vp, ep, dd1⟩ := id e1
            simp only at ep dd1
            obtain ⟨va, vc, -, ev, -⟩ := dd1
            subst ev
            subst ep
            have q0_ := e2 wr bw 0 _ rfl
            have q1_ := e2 wr bw 1 _ rfl
            have q2_ := e2 wr bw 2 _ rfl
            have q3_ := e2 wr bw 3 _ rfl
            have q4_ := e2 wr bw 4 _ rfl
            have q5_ := e2 wr bw 5 _ rfl
            have q6_ := e2 wr bw 6 _ rfl
            have q7_ := e2 wr bw 7 _ rfl
            have q8_ := e2 wr bw 8 _ rfl
            have q9_ := e2 wr bw 9 _ rfl
            have q10_ := e2 wr bw 10 _ rfl
            have q11_ := e2 wr bw 11 _ rfl
            have q12_ := e2 wr bw 12 _ rfl
            have q13_ := e2 wr bw 13 _ rfl
            have q14_ := e2 wr bw 14 _ rfl
            simp only [Nat.add_zero] at q0_
            have bgs := box_at1 bg (j := 2) rfl
            simp at bgs
            clear e1 e2 bs br
            go_upto_region 11 with fail
            have hal := heap_alloc_new wr (.cells #[.int .i64 ps, .int .i64 pp, .int .i64 p0, .int .i64 p1, .int .i64 p2, .int .i64 p3, .int .i64 p4, .int .i64 p5, .int .i64 p6, .int .i64 p7, .int .i64 pc, .int .i64 pi, .bool pf, .int .i64 pw, .slice va pl.length vc] 49)
            have hbl := below_al wr (.cells #[.int .i64 ps, .int .i64 pp, .int .i64 p0, .int .i64 p1, .int .i64 p2, .int .i64 p3, .int .i64 p4, .int .i64 p5, .int .i64 p6, .int .i64 p7, .int .i64 pc, .int .i64 pi, .bool pf, .int .i64 pw, .slice va pl.length vc] 49)
            obtain ⟨wa, hwa⟩ : ∃ W, Hid (wr.alloc (.cells #[.int .i64 ps, .int .i64 pp, .int .i64 p0, .int .i64 p1, .int .i64 p2, .int .i64 p3, .int .i64 p4, .int .i64 p5, .int .i64 p6, .int .i64 p7, .int .i64 pc, .int .i64 pi, .bool pf, .int .i64 pw, .slice va pl.length vc] 49) = W) := ⟨_, rfl⟩
            rw [hwa.out] at hal hbl ⊢
            obtain ⟨G, hG⟩ : ∃ n, Hid (wr.heap.size = n) := ⟨_, rfl⟩
            rw [hG.out] at hal ⊢
            have HBL := hd hbl
            have hbwa := bw.trans (hbl.mono bw.size)
            have hsp := sees_any (HC7.out.below hbwa) (i2 : Int) a ha
            obtain ⟨r, hr⟩ : ∃ r, Hid (seesQ c a (i2 : Int) = r) := ⟨_, rfl⟩
            rw [hr.out] at hsp HCi
            have hbxa := (hbl.block B (Array.getElem?_eq_some_iff.1 bx).1).trans bx
            have y0_ := box_at1 hbxa (j := 0) rfl
            have y1_ := box_at1 hbxa (j := 1) rfl
            have y2_ := box_at1 hbxa (j := 2) rfl
            have y3_ := box_at1 hbxa (j := 3) rfl
            have y4_ := box_at1 hbxa (j := 4) rfl
            have y5_ := box_at1 hbxa (j := 5) rfl
            have y6_ := box_at1 hbxa (j := 6) rfl
            simp at y0_ y1_ y2_ y3_ y4_ y5_ y6_
            have HGA : Hid (∀ V, Below wa.heap.size wa V → V.cell? ⟨G, 0, none⟩ = some (.int .i64 ps) ∧ V.cell? ⟨G, 1, none⟩ = some (.int .i64 pp) ∧ V.cell? ⟨G, 2, none⟩ = some (.int .i64 p0) ∧ V.cell? ⟨G, 3, none⟩ = some (.int .i64 p1) ∧ V.cell? ⟨G, 4, none⟩ = some (.int .i64 p2) ∧ V.cell? ⟨G, 5, none⟩ = some (.int .i64 p3) ∧ V.cell? ⟨G, 6, none⟩ = some (.int .i64 p4) ∧ V.cell? ⟨G, 7, none⟩ = some (.int .i64 p5) ∧ V.cell? ⟨G, 8, none⟩ = some (.int .i64 p6) ∧ V.cell? ⟨G, 9, none⟩ = some (.int .i64 p7) ∧ V.cell? ⟨G, 10, none⟩ = some (.int .i64 pc) ∧ V.cell? ⟨G, 11, none⟩ = some (.int .i64 pi) ∧ V.cell? ⟨G, 12, none⟩ = some (.bool pf) ∧ V.cell? ⟨G, 13, none⟩ = some (.int .i64 pw) ∧ V.cell? ⟨G, 14, none⟩ = some (.slice va pl.length vc) ∧ V.cell? ⟨gs, 2, none⟩ = some (.slice (some ⟨Q, 0, none⟩) nq nq)) := hd (fun V hb => by
              have hh := (hb.block G (Array.getElem?_eq_some_iff.1 hal).1).trans hal
              have hgl := World.block_lt_of_cell? wr _ bgs
              exact ⟨box_at1 hh rfl, box_at1 hh rfl, box_at1 hh rfl, box_at1 hh rfl, box_at1 hh rfl, box_at1 hh rfl, box_at1 hh rfl, box_at1 hh rfl, box_at1 hh rfl, box_at1 hh rfl, box_at1 hh rfl, box_at1 hh rfl, box_at1 hh rfl, box_at1 hh rfl, box_at1 hh rfl, by rw [hb.cell (p := ⟨gs, 2, none⟩) (Nat.lt_of_lt_of_le hgl HBL.out.size), HBL.out.cell (p := ⟨gs, 2, none⟩) hgl]; exact bgs⟩)
            have HBWa := hd hbwa
            clear q0_ q1_ q2_ q3_ q4_ q5_ q6_ q7_ q8_ q9_ q10_ q11_ q12_ q13_ q14_ bgs bx bg bw hal hbl hbxa hbwa hwa hr
            cases r
            case false =>
              have HSK : Hid (∀ wb, Below wa.heap.size wa wb → GI 49 15 rO zrL W2 Q nq ys (i2 + 1) wb) := hd (fun wb hb => by
                have hb' := HBL.out.trans (hb.mono HBL.out.size)
                refine HG.out.skip hlt (fun _ _ _ _ _ _ hk h => h.kept hk) hb' ?_
                rw [HCi.out]
                exact rO.zero hb'.size wb)
              go_wp2_with (go_at_call 11; (with_reducible refine hsp.mono ?_); rintro e wb ⟨rfl, bb⟩; have BB := hd (HSK.out wb bb); clear bb)
              go_roundg (gk - 1)
              case rel => exact ⟨i2 + 1, by go_num, by omega, BB⟩
              case measure => omega
            case true =>
              go_upto_region 12 with (go_at_call 11; (with_reducible refine hsp.mono ?_); rintro e wb ⟨rfl, bb⟩; have BB := hd bb; clear bb)
              have hbb := BB.out
              have hst := copiedProcess_any (HE1.out.below ((HBWa.out.trans (hbb.mono HBWa.out.size)).trans ((bel_drew wb).mono (HBWa.out.trans (hbb.mono HBWa.out.size)).size))) HFW.out
              have HPUT : Hid (∀ (w2 : World) (y1 : Value), Below wb.drew.heap.size wb.drew w2 → rO wb.drew.heap.size w2.heap.size w2 [.int .i64 ps, .int .i64 pp, .int .i64 p0, .int .i64 p1, .int .i64 p2, .int .i64 p3, .int .i64 p4, .int .i64 p5, .int .i64 p6, .int .i64 p7, .int .i64 pc, .int .i64 pi, .bool pf, .int .i64 pw, y1] ⟨ps, pp, ⟨p0, p1, p2, p3, p4, p5, p6, p7⟩, pc, pi, pf, pw, pl⟩ → GI 49 15 rO zrL W2 Q nq ys (i2 + 1) (((((((((((((((w2.setCell ⟨Q, i2 * 15, none⟩ (.int .i64 ps)).setCell ⟨Q, i2 * 15 + 1, none⟩ (.int .i64 pp)).setCell ⟨Q, i2 * 15 + 2, none⟩ (.int .i64 p0)).setCell ⟨Q, i2 * 15 + 3, none⟩ (.int .i64 p1)).setCell ⟨Q, i2 * 15 + 4, none⟩ (.int .i64 p2)).setCell ⟨Q, i2 * 15 + 5, none⟩ (.int .i64 p3)).setCell ⟨Q, i2 * 15 + 6, none⟩ (.int .i64 p4)).setCell ⟨Q, i2 * 15 + 7, none⟩ (.int .i64 p5)).setCell ⟨Q, i2 * 15 + 8, none⟩ (.int .i64 p6)).setCell ⟨Q, i2 * 15 + 9, none⟩ (.int .i64 p7)).setCell ⟨Q, i2 * 15 + 10, none⟩ (.int .i64 pc)).setCell ⟨Q, i2 * 15 + 11, none⟩ (.int .i64 pi)).setCell ⟨Q, i2 * 15 + 12, none⟩ (.bool pf)).setCell ⟨Q, i2 * 15 + 13, none⟩ (.int .i64 pw)).setCell ⟨Q, i2 * 15 + 14, none⟩ (y1)) ∧ ((∃ u, w2.cell? ⟨Q, i2 * 15, none⟩ = some u) ∧ (∃ u, w2.cell? ⟨Q, i2 * 15 + 1, none⟩ = some u) ∧ (∃ u, w2.cell? ⟨Q, i2 * 15 + 2, none⟩ = some u) ∧ (∃ u, w2.cell? ⟨Q, i2 * 15 + 3, none⟩ = some u) ∧ (∃ u, w2.cell? ⟨Q, i2 * 15 + 4, none⟩ = some u) ∧ (∃ u, w2.cell? ⟨Q, i2 * 15 + 5, none⟩ = some u) ∧ (∃ u, w2.cell? ⟨Q, i2 * 15 + 6, none⟩ = some u) ∧ (∃ u, w2.cell? ⟨Q, i2 * 15 + 7, none⟩ = some u) ∧ (∃ u, w2.cell? ⟨Q, i2 * 15 + 8, none⟩ = some u) ∧ (∃ u, w2.cell? ⟨Q, i2 * 15 + 9, none⟩ = some u) ∧ (∃ u, w2.cell? ⟨Q, i2 * 15 + 10, none⟩ = some u) ∧ (∃ u, w2.cell? ⟨Q, i2 * 15 + 11, none⟩ = some u) ∧ (∃ u, w2.cell? ⟨Q, i2 * 15 + 12, none⟩ = some u) ∧ (∃ u, w2.cell? ⟨Q, i2 * 15 + 13, none⟩ = some u) ∧ (∃ u, w2.cell? ⟨Q, i2 * 15 + 14, none⟩ = some u)) ∧ ∀ j, w2.frozen? ⟨Q, j, none⟩ = false) := hd (fun w2 y1 hb2 hp => by
                have hb' := bel_dr hb2
                have hwb := HBL.out.trans (hbb.mono HBL.out.size)
                refine HG.out.put15 hlt hwb hb' ?_
                rw [HCi.out]
                exact hp)
              have HGB : Hid (∀ V, Below wb.heap.size wb V → V.cell? ⟨G, 0, none⟩ = some (.int .i64 ps) ∧ V.cell? ⟨G, 1, none⟩ = some (.int .i64 pp) ∧ V.cell? ⟨G, 2, none⟩ = some (.int .i64 p0) ∧ V.cell? ⟨G, 3, none⟩ = some (.int .i64 p1) ∧ V.cell? ⟨G, 4, none⟩ = some (.int .i64 p2) ∧ V.cell? ⟨G, 5, none⟩ = some (.int .i64 p3) ∧ V.cell? ⟨G, 6, none⟩ = some (.int .i64 p4) ∧ V.cell? ⟨G, 7, none⟩ = some (.int .i64 p5) ∧ V.cell? ⟨G, 8, none⟩ = some (.int .i64 p6) ∧ V.cell? ⟨G, 9, none⟩ = some (.int .i64 p7) ∧ V.cell? ⟨G, 10, none⟩ = some (.int .i64 pc) ∧ V.cell? ⟨G, 11, none⟩ = some (.int .i64 pi) ∧ V.cell? ⟨G, 12, none⟩ = some (.bool pf) ∧ V.cell? ⟨G, 13, none⟩ = some (.int .i64 pw) ∧ V.cell? ⟨G, 14, none⟩ = some (.slice va pl.length vc) ∧ V.cell? ⟨gs, 2, none⟩ = some (.slice (some ⟨Q, 0, none⟩) nq nq)) := hd (fun V hb => HGA.out V (hbb.trans (hb.mono hbb.size)))
              obtain ⟨m0, m1, m2, m3, m4, m5, m6, m7, m8, m9, m10, m11, m12, m13, m14, m15⟩ := HGB.out wb (below_same _)
              have hne : gs ≠ Q ∧ Q ≠ gs ∧ G ≠ Q ∧ Q ≠ G := by
                have h1 := HOS.out.ne
                have h2 := HG.out.lt
                have h3 := HG.out.md.size
                have h4 := hG.out
                omega
              obtain ⟨ne1, ne2, ne3, ne4⟩ := hne
              clear hsp y0_ y1_ y2_ y3_ y4_ y5_ y6_ HGA hbb HE1 HFW HX1 HCi
              go_region_held3 (fun w' => w'.cell? ⟨G, 0, none⟩ = some (.int .i64 ps) ∧ w'.cell? ⟨G, 1, none⟩ = some (.int .i64 pp) ∧ w'.cell? ⟨G, 2, none⟩ = some (.int .i64 p0) ∧ w'.cell? ⟨G, 3, none⟩ = some (.int .i64 p1) ∧ w'.cell? ⟨G, 4, none⟩ = some (.int .i64 p2) ∧ w'.cell? ⟨G, 5, none⟩ = some (.int .i64 p3) ∧ w'.cell? ⟨G, 6, none⟩ = some (.int .i64 p4) ∧ w'.cell? ⟨G, 7, none⟩ = some (.int .i64 p5) ∧ w'.cell? ⟨G, 8, none⟩ = some (.int .i64 p6) ∧ w'.cell? ⟨G, 9, none⟩ = some (.int .i64 p7) ∧ w'.cell? ⟨G, 10, none⟩ = some (.int .i64 pc) ∧ w'.cell? ⟨G, 11, none⟩ = some (.int .i64 pi) ∧ w'.cell? ⟨G, 12, none⟩ = some (.bool pf) ∧ w'.cell? ⟨G, 13, none⟩ = some (.int .i64 pw) ∧ w'.cell? ⟨G, 14, none⟩ = some (.slice va pl.length vc) ∧ w'.cell? ⟨gs, 2, none⟩ = some (.slice (some ⟨Q, 0, none⟩) nq nq)) (go_keep)
                (first
                  | (go_at_call 19; (with_reducible refine hst.mono ?_); rintro e w2 ⟨cs2, rfl, hpo, b2⟩; obtain ⟨k0, k1, k2, k3, k4, k5, k6, k7, k8, k9, k10, k11, k12, k13, k14, k15⟩ := HGB.out w2 (bel_dr b2); have hpo2 := hpo; obtain ⟨y1, ecs, ma_⟩ := hpo; simp only at ecs; subst ecs; simp only at ma_; obtain ⟨s1a, s1c, -, -, es1, -⟩ := ma_; subst es1; obtain ⟨hg2, ⟨⟨z0, zz0⟩, ⟨z1, zz1⟩, ⟨z2, zz2⟩, ⟨z3, zz3⟩, ⟨z4, zz4⟩, ⟨z5, zz5⟩, ⟨z6, zz6⟩, ⟨z7, zz7⟩, ⟨z8, zz8⟩, ⟨z9, zz9⟩, ⟨z10, zz10⟩, ⟨z11, zz11⟩, ⟨z12, zz12⟩, ⟨z13, zz13⟩, ⟨z14, zz14⟩⟩, hfz⟩ := HPUT.out w2 (.slice s1a pl.length s1c) b2 hpo2; have HG2 := hd hg2; clear hg2 hpo2 b2))
              all_goals (
                go_wp2_with fail
                go_roundg (gk - 1)
                case rel => exact ⟨i2 + 1, by go_num, by omega, HG2⟩
                case measure => omega)
          · obtain rfl : i2 = nq := by omega
            obtain ⟨g1, g2, g3⟩ := set3 br (.int .i64 tk) (.slice (some ⟨P, 0, none⟩) i i) (.slice (some ⟨Q, 0, none⟩) i2 i2)
            have g4 := set3_below (A := w.heap.size) (B := B2) bw (by have := hB.out; have := hB2.out; omega) (.int .i64 tk) (.slice (some ⟨P, 0, none⟩) i i) (.slice (some ⟨Q, 0, none⟩) i2 i2)
            obtain ⟨FW, hFW⟩ : ∃ W, Hid (((wr.setCell ⟨B2, 0, none⟩ (.int .i64 tk)).setCell ⟨B2, 1, none⟩ (.slice (some ⟨P, 0, none⟩) i i)).setCell ⟨B2, 2, none⟩ (.slice (some ⟨Q, 0, none⟩) i2 i2) = W) := ⟨_, rfl⟩
            rw [hFW.out] at g1 g2 g3 g4
            have HZ := hd g1
            have HO : Hid (Q0 (.returned (.agg #[.int .i64 tk, .slice (some ⟨P, 0, none⟩) i i, .slice (some ⟨Q, 0, none⟩) i2 i2])) FW) := hd (by
              rw [← hQ.out]
              have s0 := S0.out
              have hb := hB.out
              have hb2 := hB2.out
              obtain ⟨z1, z2, z3⟩ := HOS.out.ge
              obtain ⟨n1, n2, n3⟩ := HOS.out.ne
              have hbl := HOS.out.bel.size
              have hml := HG1.out.md.size
              have hml2 := HG.out.md.size
              have hP := HG1.out.lt
              obtain ⟨L1, b1, r1, r2, r3, r4, r5, -⟩ := HG1.out.ex
              obtain ⟨L2, b2, t1, t2, t3, t4, t5, -⟩ := HG.out.ex
              have hm1 := mono_le _ r4
              have hm2 := mono_le _ t4
              have hq1 : (ofX c a ⟨tk, pp, pq⟩).ps = xs := hxs.out
              have hq2 : (ofX c a ⟨tk, pp, pq⟩).qs = ys := hys.out
              have hq3 : (ofX c a ⟨tk, pp, pq⟩).tk = tk := rfl
              have hx1 : xs.length = i := by rw [← hxs.out, cut_len, hnp.out]
              have hy1 : ys.length = i2 := by rw [← hys.out, cut_len, hnq.out]
              have hQW : Q < wc.heap.size := by
                obtain ⟨L, q1, -⟩ := HOS.out.rq
                exact q1.lt Q rfl
              have hk1 : ∀ k, k ≠ B2 → k ≠ Q → k < W2.heap.size → FW.heap[k]? = W2.heap[k]? := fun k k1 k2 k3 => by rw [g3 k k1]; exact HG.out.md.block k k3 k2
              have f1 := F1.out
              have f2 := F2.out
              refine ⟨_, rfl, ?_, g4⟩
              unfold sO
              rw [hq1, hq2, hq3, hx1, hy1]
              refine ⟨some ⟨P, 0, none⟩, i, L1, b1, some ⟨Q, 0, none⟩, i2, L2, b2, rfl, r1.kept (fun k hk => by cases hk; exact hk1 P (by omega) n1 (by omega)), t1.kept (fun k hk => by cases hk; exact g3 Q (by omega)), fun k hk => ?_, fun k hk => ?_, by omega, r4, by omega, t4, by rw [t3, g2]; exact Nat.le_refl _, by unfold BIG; omega, by unfold BIG; omega, fun j hj => ?_, fun j hj => ?_⟩
              · have e0 : P = k := Option.some.inj hk
                exact ⟨by omega, by omega, fun e => by have e9 : Q = k := Option.some.inj e; omega⟩
              · have e0 : Q = k := Option.some.inj hk
                exact ⟨by omega, by omega⟩
              · have h1 := hm1 j (by omega)
                have h2 := hm1 (j + 1) (by omega)
                exact (r5 j hj).kept fun k k1 k2 => hk1 k (by omega) (by omega) (by omega)
              · have h1 := hm2 j (by omega)
                exact (t5 j hj).kept fun k k1 k2 => g3 k (by omega))
            have v0_ := box_at1 bg (j := 0) rfl
            have v1_ := box_at1 bg (j := 1) rfl
            have v2_ := box_at1 bg (j := 2) rfl
            have z0_ := box_at1 br (j := 0) rfl
            have z1_ := box_at1 br (j := 1) rfl
            have z2_ := box_at1 br (j := 2) rfl
            have zf : ∀ j, wr.frozen? ⟨B2, j, none⟩ = false := fun j => box_free br j
            clear g1 g2 g3 g4 HG HG1 bx bs br bg bw hlt hik HX HOS HCX HCY HT HA HB F1 F2 F3 F4
            go_wp2_with fail
            rw [hFW.out]
            refine bodyPost_ret (v := .agg #[.int .i64 tk, .slice (some ⟨P, 0, none⟩) i i, .slice (some ⟨Q, 0, none⟩) i2 i2]) ?_ rfl HO.out
            have y0_ := box_at1 HZ.out (j := 0) rfl
            have y1_ := box_at1 HZ.out (j := 1) rfl
            have y2_ := box_at1 HZ.out (j := 2) rfl
            clear HO HZ v0_ v1_ v2_ z0_ z1_ z2_ zf hFW
            simp at y0_ y1_ y2_
            simp [results, Try.results9, go_sem, y0_, y1_, y2_]
end Go.Proofs.Ytjbmljheepomnaa
