/- ViewKeeps: the walk. -/
import Derived.Test.YtjbmljheepomnaaVX2
import Derived.Test.YtjbmljheepomnaaVRs
import Derived.Test.YtjbmljheepomnaaVD4
import Derived.Test.YtjbmljheepomnaaVK1
import Derived.Test.YtjbmljheepomnaaVK2
import Derived.Test.YtjbmljheepomnaaVU
namespace Go.Proofs.Ytjbmljheepomnaa
open Go.RowKit

theorem box_new {w : World} {x : Array Value} {T : TypeId} {W : World} (h : w.alloc (.cells x T) = W) : W.heap[w.heap.size]? = some (.cells x T (0, 0)) ∧ Below w.heap.size w W ∧ W.heap.size = w.heap.size + 1 := by
  subst h
  exact ⟨heap_alloc_new w _, below_al w _, by simp⟩
theorem below_blk {w V : World} (hb : Below w.heap.size w V) {G : Nat} {x : Array Value} {T : TypeId} (h : w.heap[G]? = some (.cells x T (0, 0))) : V.heap[G]? = some (.cells x T (0, 0)) := (hb.block G (Array.getElem?_eq_some_iff.1 h).1).trans h
theorem slc {α : Type} [Inhabited α] {sz : Nat} {E : World → List Value → α → Prop} {w : World} {v : Value} {xs : List α} (h : DeR sz E w v xs) : ∃ a n c, v = .slice a n c := by
  obtain ⟨a, c, cs, e, -⟩ := h
  exact ⟨a, _, c, e⟩
set_option maxRecDepth 100000 in
set_option maxHeartbeats 32000000 in
theorem viewKeeps_any {w : World} {cc cs : List Value} {c : CfX} {x : StX} (hc : fE w cc c) (hx : sE w cs x) (a : Nat) (ha : a < 18446744073709551616) :
    Calls Try.prog 5 #[.agg cc.toArray, .agg cs.toArray, .int .u64 (a : Int)] w fun e w' => e = .returned (.bool true) ∧ Below w.heap.size w w' := by
  have HFC := hd hc
  have HSX := hd hx
  obtain ⟨v0, v1, v2, v3, v4, v5, v6, ecc, -, -⟩ := hc
  obtain ⟨sp, sq, ecs, d1, d2⟩ := hx
  obtain ⟨s1, sn1, sc1, e1⟩ := slc d1
  obtain ⟨s2, sn2, sc2, e2⟩ := slc d2
  subst e1 e2
  subst ecc ecs
  clear d1 d2
  obtain ⟨sk, hsk⟩ : ∃ k, Hid (x.tk = k) := ⟨_, rfl⟩
  rw [hsk.out] at HSX ⊢
  have HC7 : Hid (fE w [v0, v1, v2, v3, v4, v5, v6] c) := HFC
  have HS3 : Hid (sE w [.int .i64 sk, .slice s1 sn1 sc1, .slice s2 sn2 sc2] x) := HSX
  clear HFC HSX hsk
  go_enter Try.func5, Try.ntmps5
  go_upto_region 1 with fail
  obtain ⟨h1, h2, h5⟩ := two_al' w (.cells #[v0, v1, v2, v3, v4, v5, v6] 26) (.cells #[.int .i64 sk, .slice s1 sn1 sc1, .slice s2 sn2 sc2] 30)
  obtain ⟨W0, hW0⟩ : ∃ W, Hid ((w.alloc (.cells #[v0, v1, v2, v3, v4, v5, v6] 26)).alloc (.cells #[.int .i64 sk, .slice s1 sn1 sc1, .slice s2 sn2 sc2] 30) = W) := ⟨_, rfl⟩
  rw [hW0.out] at h1 h2 h5 ⊢
  obtain ⟨B, hB⟩ : ∃ n, Hid (w.heap.size = n) := ⟨_, rfl⟩
  rw [hB.out] at h1 h2 ⊢
  obtain ⟨B1, hB1⟩ : ∃ n, Hid (B + 1 = n) := ⟨_, rfl⟩
  rw [hB1.out] at h2 ⊢
  have HBW := hd h5
  have HX : Hid (∀ V, Below W0.heap.size W0 V → V.heap[B]? = some (.cells #[v0, v1, v2, v3, v4, v5, v6] 26 (0, 0)) ∧ V.heap[B1]? = some (.cells #[.int .i64 sk, .slice s1 sn1 sc1, .slice s2 sn2 sc2] 30 (0, 0)) ∧ Below w.heap.size w V) := hd (fun V hb => ⟨below_blk hb h1, below_blk hb h2, HBW.out.trans (hb.mono HBW.out.size)⟩)
  have haw := awake_any W0
  clear h1 h2 h5 hW0
  go_upto_region 3 with (go_at_call 6; refine haw.mono ?_; rintro e w1 ⟨rfl, hb1⟩; have HB1x := hd hb1; clear hb1)
  clear haw
  obtain ⟨-, p2, p3⟩ := HX.out w1 HB1x.out
  have s0_ := box_at1 p2 (j := 0) rfl
  have s1_ := box_at1 p2 (j := 1) rfl
  have s2_ := box_at1 p2 (j := 2) rfl
  simp at s0_ s1_ s2_
  have hf1 := few_any (HS3.out.below p3)
  go_wp2_with fail
  refine hf1.mono ?_
  rintro e w2 ⟨b1, rfl, hb1, hw2⟩
  have HB2x := hd (HB1x.out.trans (hw2.mono HB1x.out.size))
  clear hf1 hw2 p2 p3
  clear s0_ s1_ s2_
  obtain ⟨p1, p2, p3⟩ := HX.out w2 HB2x.out
  cases b1
  · go_wp2_with fail
    go_ret
    exact ⟨rfl, p3⟩
  have HF1 := hd (hb1 rfl)
  clear hb1
  have s0_ := box_at1 p2 (j := 0) rfl
  have s1_ := box_at1 p2 (j := 1) rfl
  have s2_ := box_at1 p2 (j := 2) rfl
  simp at s0_ s1_ s2_
  have hcp := copyState_any (HS3.out.below p3) HF1.out
  go_upto_region 6 with (go_at_call 14; (with_reducible refine hcp.mono ?_); rintro e w3 ⟨cs3, rfl, hse, hb3⟩; obtain ⟨o1, o2, ecs, d1, d2⟩ := id hse; obtain ⟨k1, kn1, kc1, e1⟩ := slc d1; obtain ⟨k2, kn2, kc2, e2⟩ := slc d2; subst e1 e2; subst ecs; have HOW := hd hse; have HB3x := hd (HB2x.out.trans (hb3.mono HB2x.out.size)); clear hse hb3 d1 d2)
  clear hcp p1 p2 p3
  clear s0_ s1_ s2_
  obtain ⟨k0, hk0⟩ : ∃ k, Hid (x.tk = k) := ⟨_, rfl⟩
  rw [hk0.out] at HOW ⊢
  obtain ⟨w4, hw4⟩ : ∃ W, Hid (w3.alloc (.cells #[.int .i64 k0, .slice k1 kn1 kc1, .slice k2 kn2 kc2] 30) = W) := ⟨_, rfl⟩
  rw [hw4.out]
  obtain ⟨q1, q2, q3⟩ := box_new hw4.out
  obtain ⟨OW, hOW⟩ : ∃ n, Hid (w3.heap.size = n) := ⟨_, rfl⟩
  rw [hOW.out] at q1 ⊢
  have HOB := hd q1
  have HB34 := hd q2
  have HB4x : Hid (Below W0.heap.size W0 w4) := hd (HB3x.out.trans (q2.mono HB3x.out.size))
  have HOW4 : Hid (sE w4 [.int .i64 k0, .slice k1 kn1 kc1, .slice k2 kn2 kc2] x) := hd (HOW.out.below q2)
  clear q1 q2 q3 hw4
  obtain ⟨p1, p2, p3⟩ := HX.out w4 HB4x.out
  have y0_ := box_at1 p1 (j := 0) rfl
  have y1_ := box_at1 p1 (j := 1) rfl
  have y2_ := box_at1 p1 (j := 2) rfl
  have y3_ := box_at1 p1 (j := 3) rfl
  have y4_ := box_at1 p1 (j := 4) rfl
  have y5_ := box_at1 p1 (j := 5) rfl
  have y6_ := box_at1 p1 (j := 6) rfl
  simp at y0_ y1_ y2_ y3_ y4_ y5_ y6_
  have s0_ := box_at1 p2 (j := 0) rfl
  have s1_ := box_at1 p2 (j := 1) rfl
  have s2_ := box_at1 p2 (j := 2) rfl
  simp at s0_ s1_ s2_
  obtain ⟨z1, hz1⟩ : ∃ z, Hid (ofX c a x = z) := ⟨_, rfl⟩
  have HFZ1 : Hid (StFew z1) := hd (by rw [← hz1.out]; exact HF1.out.of)
  have hro := rof_any (HC7.out.below p3) (HS3.out.below p3) HF1.out.1 HF1.out.2.1 a ha
  rw [hz1.out] at hro
  have HCP : Hid (∀ V k, sE V k z1 → Calls Try.prog 14 #[.agg k.toArray] V (ROfOut V z1)) := hd (fun V k hk => copyState_any hk HFZ1.out)
  go_upto_region 7 with (first | (go_at_call 10; (with_reducible refine hro.mono ?_); rintro e w5 ⟨cs5, rfl, hse5, hb5⟩; have HS5 := hd hse5; clear hse5) | (go_at_call 14; (with_reducible refine (HCP.out _ _ HS5.out).mono ?_); rintro e w6 ⟨cs6, rfl, hse, hb6⟩; obtain ⟨o1, o2, ecs, d1, d2⟩ := id hse; obtain ⟨g1, gn1, gc1, e1⟩ := slc d1; obtain ⟨g2, gn2, gc2, e2⟩ := slc d2; subst e1 e2; subst ecs; have HGW := hd hse; have HB46 := hd (hb5.trans (hb6.mono hb5.size)); clear hse hb5 hb6 d1 d2))
  clear hro p1 p2 p3 HCP
  clear y0_ y1_ y2_ y3_ y4_ y5_ y6_ s0_ s1_ s2_
  obtain ⟨g0, hg0⟩ : ∃ k, Hid (z1.tk = k) := ⟨_, rfl⟩
  rw [hg0.out] at HGW ⊢
  obtain ⟨w7, hw7⟩ : ∃ W, Hid (w6.alloc (.cells #[.int .i64 g0, .slice g1 gn1 gc1, .slice g2 gn2 gc2] 30) = W) := ⟨_, rfl⟩
  rw [hw7.out]
  obtain ⟨q1, q2, q3⟩ := box_new hw7.out
  obtain ⟨GW, hGW⟩ : ∃ n, Hid (w6.heap.size = n) := ⟨_, rfl⟩
  rw [hGW.out] at q1 ⊢
  have HGB := hd q1
  have HB47 : Hid (Below w4.heap.size w4 w7) := hd (HB46.out.trans (q2.mono HB46.out.size))
  have HB7x : Hid (Below W0.heap.size W0 w7) := hd (HB4x.out.trans (HB47.out.mono HB4x.out.size))
  have HOW7 : Hid (sE w7 [.int .i64 k0, .slice k1 kn1 kc1, .slice k2 kn2 kc2] x) := hd (HOW4.out.below HB47.out)
  have HGW7 : Hid (sE w7 [.int .i64 g0, .slice g1 gn1 gc1, .slice g2 gn2 gc2] z1) := hd (HGW.out.below q2)
  have HOB7 : Hid (w7.heap[OW]? = some (.cells #[.int .i64 k0, .slice k1 kn1 kc1, .slice k2 kn2 kc2] 30 (0, 0))) := hd (below_blk HB47.out HOB.out)
  clear q1 q2 q3 hw7 HOW HOW4 HGW HOB HB34 HB46 HB3x HB2x HB1x HS5
  obtain ⟨p1, p2, p3⟩ := HX.out w7 HB7x.out
  have p4 := HOB7.out
  have y0_ := box_at1 p1 (j := 0) rfl
  have y1_ := box_at1 p1 (j := 1) rfl
  have y2_ := box_at1 p1 (j := 2) rfl
  have y3_ := box_at1 p1 (j := 3) rfl
  have y4_ := box_at1 p1 (j := 4) rfl
  have y5_ := box_at1 p1 (j := 5) rfl
  have y6_ := box_at1 p1 (j := 6) rfl
  simp at y0_ y1_ y2_ y3_ y4_ y5_ y6_
  have o0_ := box_at1 p4 (j := 0) rfl
  have o1_ := box_at1 p4 (j := 1) rfl
  have o2_ := box_at1 p4 (j := 2) rfl
  simp at o0_ o1_ o2_
  have hof := of_any (HC7.out.below p3) HOW7.out HF1.out a ha
  rw [hz1.out] at hof
  go_upto_region 8 with (go_at_call 9; (with_reducible refine hof.mono ?_); rintro e w8 ⟨cs8, rfl, hso, hb8⟩; have HSO := hd hso; obtain ⟨a1, c1, L1, b1, a2, c2, L2, b2, ecs, -⟩ := hso; subst ecs; have HB78 := hd hb8; clear hb8)
  clear hof p1 p2 p3 p4
  clear y0_ y1_ y2_ y3_ y4_ y5_ y6_ o0_ o1_ o2_
  obtain ⟨np, hnp⟩ : ∃ n, Hid (z1.ps.length = n) := ⟨_, rfl⟩
  obtain ⟨mq, hmq⟩ : ∃ n, Hid (z1.qs.length = n) := ⟨_, rfl⟩
  rw [hnp.out, hmq.out]
  have HSO8 : Hid (∃ ccs, ccs = [.int .i64 z1.tk, .slice a1 np c1, .slice a2 mq c2] ∧ sO w7.heap.size w8.heap.size w8 ccs z1) := hd ⟨_, rfl, by rw [← hnp.out, ← hmq.out]; exact HSO.out⟩
  clear HSO
  obtain ⟨w9, hw9⟩ : ∃ W, Hid (w8.alloc (.cells #[.int .i64 z1.tk, .slice a1 np c1, .slice a2 mq c2] 30) = W) := ⟨_, rfl⟩
  rw [hw9.out]
  obtain ⟨q1, q2, q3⟩ := box_new hw9.out
  obtain ⟨OB, hOB⟩ : ∃ n, Hid (w8.heap.size = n) := ⟨_, rfl⟩
  rw [hOB.out] at q1 ⊢
  have HNB := hd q1
  have HS89 := hd q3
  have HB89 := hd q2
  have HB79 : Hid (Below w7.heap.size w7 w9) := hd (HB78.out.trans (q2.mono HB78.out.size))
  have HB9x : Hid (Below W0.heap.size W0 w9) := hd (HB7x.out.trans (HB79.out.mono HB7x.out.size))
  clear q1 q2 q3 hw9
  obtain ⟨p1, p2, p3⟩ := HX.out w9 HB9x.out
  have p4 := below_blk HB79.out HOB7.out
  have y0_ := box_at1 p1 (j := 0) rfl
  have y1_ := box_at1 p1 (j := 1) rfl
  have y2_ := box_at1 p1 (j := 2) rfl
  have y3_ := box_at1 p1 (j := 3) rfl
  have y4_ := box_at1 p1 (j := 4) rfl
  have y5_ := box_at1 p1 (j := 5) rfl
  have y6_ := box_at1 p1 (j := 6) rfl
  simp at y0_ y1_ y2_ y3_ y4_ y5_ y6_
  have o0_ := box_at1 p4 (j := 0) rfl
  have o1_ := box_at1 p4 (j := 1) rfl
  have o2_ := box_at1 p4 (j := 2) rfl
  simp at o0_ o1_ o2_
  have hof := of_any (HC7.out.below p3) (HOW7.out.below HB79.out) HF1.out a ha
  rw [hz1.out] at hof
  go_upto_region 9 with (go_at_call 9; (with_reducible refine hof.mono ?_); rintro e wA ⟨cs8, rfl, hso, hb8⟩; have HSO := hd hso; obtain ⟨t1, tc1, -, -, t2, tc2, -, -, ecs, -⟩ := hso; subst ecs; have HB9A := hd hb8; clear hb8)
  clear hof p1 p2 p3 p4
  clear y0_ y1_ y2_ y3_ y4_ y5_ y6_ o0_ o1_ o2_
  rw [hnp.out, hmq.out] at HSO ⊢
  obtain ⟨WB, hWB⟩ : ∃ W, Hid (wA.alloc (.cells #[.int .i64 z1.tk, .slice t1 np tc1, .slice t2 mq tc2] 30) = W) := ⟨_, rfl⟩
  rw [hWB.out]
  obtain ⟨q1, q2, q3⟩ := box_new hWB.out
  obtain ⟨TB, hTB⟩ : ∃ n, Hid (wA.heap.size = n) := ⟨_, rfl⟩
  rw [hTB.out] at q1 ⊢
  have HTB := hd q1
  have HSTB := hd q3
  have HBAB := hd q2
  have HTW : Hid (sO w9.heap.size wA.heap.size WB [.int .i64 z1.tk, .slice t1 np tc1, .slice t2 mq tc2] z1) := hd (HSO.out.kept fun k k1 k2 => q2.block k k2)
  have HB9B : Hid (Below w9.heap.size w9 WB) := hd (HB9A.out.trans (q2.mono HB9A.out.size))
  have HB7B : Hid (Below w7.heap.size w7 WB) := hd (HB79.out.trans (HB9B.out.mono HB79.out.size))
  have HOWB : Hid (sO w7.heap.size w8.heap.size WB [.int .i64 z1.tk, .slice a1 np c1, .slice a2 mq c2] z1) := hd (by
    obtain ⟨ccs, e, h⟩ := HSO8.out
    subst e
    exact h.kept fun k k1 k2 => (HB9B.out.block k (by have := HS89.out; omega)).trans (HB89.out.block k k2))
  have HNBB : Hid (WB.heap[OB]? = some (.cells #[.int .i64 z1.tk, .slice a1 np c1, .slice a2 mq c2] 30 (0, 0))) := hd (below_blk HB9B.out HNB.out)
  have HGBB : Hid (WB.heap[GW]? = some (.cells #[.int .i64 g0, .slice g1 gn1 gc1, .slice g2 gn2 gc2] 30 (0, 0))) := hd (below_blk HB7B.out HGB.out)
  have HOBB : Hid (WB.heap[OW]? = some (.cells #[.int .i64 k0, .slice k1 kn1 kc1, .slice k2 kn2 kc2] 30 (0, 0))) := hd (below_blk HB7B.out HOB7.out)
  have HBxB : Hid (Below W0.heap.size W0 WB) := hd (HB7x.out.trans (HB7B.out.mono HB7x.out.size))
  have HLT : Hid (OW < w7.heap.size ∧ GW < w7.heap.size ∧ w7.heap.size ≤ w8.heap.size ∧ OB = w8.heap.size ∧ w9.heap.size = w8.heap.size + 1 ∧ w9.heap.size ≤ wA.heap.size ∧ TB = wA.heap.size ∧ WB.heap.size = wA.heap.size + 1) := hd ⟨(Array.getElem?_eq_some_iff.1 HOB7.out).1, (Array.getElem?_eq_some_iff.1 HGB.out).1, HB78.out.size, hOB.out.symm, by rw [HS89.out, hOB.out], HB9A.out.size, hTB.out.symm, by rw [HSTB.out, hTB.out]⟩
  clear q1 q2 q3 hWB
  have HS1 : Hid (∀ V, Below WB.heap.size WB V → Calls Try.prog 8 #[.agg #[.int .i64 z1.tk, .slice a1 np c1, .slice a2 mq c2], .agg #[.int .i64 g0, .slice g1 gn1 gc1, .slice g2 gn2 gc2]] V fun e w' => e = .returned (.bool true) ∧ Below V.heap.size V w') := hd (fun V hb => by
    have := rsame_any (HOWB.out.rd.below hb) (HGW7.out.below (HB7B.out.trans (hb.mono HB7B.out.size)))
    rw [dec_yes rfl] at this
    exact this)
  have HS2 : Hid (∀ V, Below WB.heap.size WB V → Calls Try.prog 8 #[.agg #[.int .i64 z1.tk, .slice t1 np tc1, .slice t2 mq tc2], .agg #[.int .i64 g0, .slice g1 gn1 gc1, .slice g2 gn2 gc2]] V fun e w' => e = .returned (.bool true) ∧ Below V.heap.size V w') := hd (fun V hb => by
    have := rsame_any (HTW.out.rd.below hb) (HGW7.out.below (HB7B.out.trans (hb.mono HB7B.out.size)))
    rw [dec_yes rfl] at this
    exact this)
  have HY : Hid (∀ V, Below WB.heap.size WB V → V.cell? ⟨OB, 0, none⟩ = some (.int .i64 z1.tk) ∧ V.cell? ⟨OB, 1, none⟩ = some (.slice a1 np c1) ∧ V.cell? ⟨OB, 2, none⟩ = some (.slice a2 mq c2) ∧ V.cell? ⟨GW, 0, none⟩ = some (.int .i64 g0) ∧ V.cell? ⟨GW, 1, none⟩ = some (.slice g1 gn1 gc1) ∧ V.cell? ⟨GW, 2, none⟩ = some (.slice g2 gn2 gc2) ∧ V.cell? ⟨TB, 0, none⟩ = some (.int .i64 z1.tk) ∧ V.cell? ⟨TB, 1, none⟩ = some (.slice t1 np tc1) ∧ V.cell? ⟨TB, 2, none⟩ = some (.slice t2 mq tc2)) := hd (fun V hb => by
    have v1 := below_blk hb HNBB.out
    have v2 := below_blk hb HGBB.out
    have v3 := below_blk hb HTB.out
    exact ⟨box_at1 v1 rfl, box_at1 v1 rfl, box_at1 v1 rfl, box_at1 v2 rfl, box_at1 v2 rfl, box_at1 v2 rfl, box_at1 v3 rfl, box_at1 v3 rfl, box_at1 v3 rfl⟩)
  obtain ⟨x0, x1, x2, x3, x4, x5, x6, x7, x8⟩ := HY.out WB (below_same _)
  go_upto_region 11 with (first
    | (go_at_call 8; (with_reducible refine (HS1.out WB (below_same _)).mono ?_); rintro e wC ⟨rfl, hbC⟩; have HBC := hd hbC; obtain ⟨m0, m1, m2, m3, m4, m5, m6, m7, m8⟩ := HY.out wC hbC; clear hbC)
    | (go_at_call 8; (with_reducible refine (HS2.out wC HBC.out).mono ?_); rintro e wD ⟨rfl, hbD⟩; have HBD := hd (HBC.out.trans (hbD.mono HBC.out.size)); clear hbD))
  clear x0 m0 x1 m1 x2 m2 x3 m3 x4 m4 x5 m5 x6 m6 x7 m7 x8 m8 HS1 HS2 HY HBC
  have HOWD : Hid (sO w7.heap.size w8.heap.size wD [.int .i64 z1.tk, .slice a1 np c1, .slice a2 mq c2] z1) := hd (HOWB.out.kept fun k k1 k2 => HBD.out.block k (by have := HLT.out; omega))
  have HOD := hd (below_blk HBD.out HNBB.out)
  obtain ⟨a1', c1', L1, b1, a2', c2', L2, b2, e0, r1, r2, n1, n2, l1, m1, l2, m2, l3, Bp, Bq, h1, h2⟩ := HOWD.out
  rw [hnp.out] at e0 r1 m1 l2 Bp h1
  rw [hmq.out] at e0 r2 m2 l3 Bq h2
  simp only [List.cons.injEq, Value.slice.injEq, and_true, true_and] at e0
  obtain ⟨⟨rfl, rfl⟩, rfl, rfl⟩ := e0
  have HR1 := hd r1
  have HR2 := hd r2
  have HN1 := hd n1
  have HN2 := hd n2
  have HP1 := hd h1
  have HP2 := hd h2
  have HM1 := hd (mono_le _ m1)
  have HM2 := hd (mono_le _ m2)
  have HMS := hd m2
  have HL := hd (And.intro l1 (And.intro l2 l3))
  have f1 : np ≤ 1048576 := by rw [← hnp.out]; exact HFZ1.out.1
  have f2 : mq ≤ 1048576 := by rw [← hmq.out]; exact HFZ1.out.2.1
  have HDS : Hid (OB < wD.heap.size ∧ wA.heap.size + 1 ≤ wD.heap.size) := hd (by have := HBD.out.size; have := HLT.out; omega)
  have HUM : Hid (∀ V S, Mod S wD V → (∀ k, S k → w7.heap.size ≤ k ∧ k < w8.heap.size) → V.heap[OB]? = some (.cells #[.int .i64 z1.tk, .slice a1 np c1, .slice a2 mq c2] 30 (0, 0))) := hd (fun V S h hs => by
    rw [h.block OB HDS.out.1 (fun e => by have := hs _ e; have := HLT.out; omega)]
    exact HOD.out)
  have HU1 : Hid (∀ i, i ≤ np → ∀ k, (blk a1 = some k ∨ (b1 0 ≤ k ∧ k < b1 i)) → w7.heap.size ≤ k ∧ k < w8.heap.size) := hd (fun i hi k hk => by
    obtain ⟨z1, z2, z3⟩ := HL.out
    have q1 := HM1.out i hi
    have q0 := HM1.out np (Nat.le_refl _)
    have q2 := HM2.out mq (Nat.le_refl _)
    rcases hk with hk | hk
    · have := HN1.out k hk; omega
    · omega)
  clear r1 r2 n1 n2 h1 h2 m1 m2 l1 l2 l3 Bp Bq
  go_upto_block 0 with fail
  go_cut [] (fun wy => Hid (Mod (fun k => blk a1 = some k ∨ (b1 0 ≤ k ∧ k < b1 np)) wD wy))
  case first =>
    have G0 : Hid (∃ L, Row wD 43 6 a1 np c1 L ∧ (∀ j, 0 ≤ j → j < np → el 6 L j = el 6 L1 j) ∧ Mod (fun k => blk a1 = some k ∨ (b1 0 ≤ k ∧ k < b1 0)) wD wD) := hd ⟨L1, HR1.out, fun _ _ _ => rfl, Mod.refl _ _⟩
    have x1 := box_at1 HOD.out (j := 1) rfl
    simp at x1
    go_wp2_with fail
    clear x1
    go_loopg [11] np (fun k v11 wr => ∃ (i : Nat), v11 = .int .i64 (i : Int) ∧ i + k = np ∧ Hid (∃ L, Row wr 43 6 a1 np c1 L ∧ (∀ j, i ≤ j → j < np → el 6 L j = el 6 L1 j) ∧ Mod (fun k => blk a1 = some k ∨ (b1 0 ≤ k ∧ k < b1 i)) wD wr))
    case atStart => exact ⟨0, rfl, by omega, G0⟩
    case round =>
      obtain ⟨i, rfl, hik, HI⟩ := hrel
      obtain ⟨wo, rfl⟩ : ∃ W, W = wr := ⟨_, rfl⟩
      obtain ⟨GK, rfl⟩ : ∃ x, x = gk := ⟨_, rfl⟩
      clear G0
      obtain ⟨L, hL, hLe, hmd⟩ := HI.out
      have hob := HUM.out wo _ hmd (HU1.out i (by omega))
      have x1 := box_at1 hob (j := 1) rfl
      simp at x1
      by_cases hlt : i < np
      case neg =>
        obtain rfl : i = np := by omega
        have HME := hd hmd
        clear hL hLe hmd hob HI hlt hik
        go_wp2_with fail
        go_meet
        case rel => exact HME
      have hlt' : (i : Int) < (np : Int) := by omega
      obtain ⟨y1, y2, y3⟩ := HL.out
      have ym := HM1.out i (by omega)
      have ym2 := HM1.out (i + 1) (by omega)
      have hpo : pO (b1 i) (b1 (i + 1)) wo (el 6 L1 i) (z1.ps.getD i default) := (HP1.out i hlt).kept fun k k1 k2 => hmd.block k (by have := HLT.out; have := HM1.out np (Nat.le_refl _); have := HM2.out mq (Nat.le_refl _); have := HDS.out; omega) (fun e => by
        rcases e with e | e
        · have := HN1.out k e; omega
        · omega)
      obtain ⟨v1', v4', v5', m1, m2, ee, hm1, hm2, hm3, e1, e2, e3⟩ := hpo
      obtain ⟨la, lc, el1, lrw, lbl⟩ := e1.rw
      obtain ⟨oa, oc, el2, orw, obl⟩ := e2.rw
      obtain ⟨qa, qc, LQ, qb, el3, qrow, qn, ql1, qm, ql2, -, qel⟩ := e3
      subst el1 el2 el3
      have hff := HFZ1.out.2.2.1 i
      obtain ⟨X0, hX0⟩ : ∃ z, Hid (z1.ps.getD i default = z) := ⟨_, rfl⟩
      rw [hX0.out] at ee lrw orw qrow qm ql2 qel hff
      obtain ⟨f3, f4, f5, f6⟩ := hff
      obtain ⟨g, ea1, -⟩ := hL.cell (i * 6) (by omega)
      subst ea1
      have hcell : ∀ j u, j < 6 → (el 6 L1 i)[j]? = some u → wo.cell? ⟨g, i * 6 + j, none⟩ = some u := fun j u hj hu => by
        obtain ⟨g', e', h'⟩ := hL.cell (i * 6 + j) (by omega)
        cases e'
        rw [h', ← el_at 6 L i j hj, hLe i (Nat.le_refl _) hlt]
        exact hu
      rw [ee] at hcell
      have p0_ := hcell 0 _ (by decide) rfl
      have p1_ := hcell 1 _ (by decide) rfl
      have p2_ := hcell 2 _ (by decide) rfl
      have p3_ := hcell 3 _ (by decide) rfl
      have p4_ := hcell 4 _ (by decide) rfl
      have p5_ := hcell 5 _ (by decide) rfl
      simp only [Nat.add_zero] at p0_
      obtain ⟨nl, hnl⟩ : ∃ n, Hid (X0.lg.length = n) := ⟨_, rfl⟩
      obtain ⟨no, hno⟩ : ∃ n, Hid (X0.os.length = n) := ⟨_, rfl⟩
      obtain ⟨nz, hnz⟩ : ∃ n, Hid (X0.qs.length = n) := ⟨_, rfl⟩
      obtain ⟨i0, hi0⟩ : ∃ n, Hid (X0.cu = n) := ⟨_, rfl⟩
      obtain ⟨i2, hi2⟩ : ∃ n, Hid (X0.lo = n) := ⟨_, rfl⟩
      obtain ⟨i3, hi3⟩ : ∃ n, Hid (X0.fo = n) := ⟨_, rfl⟩
      rw [hi0.out] at p0_
      rw [hi2.out] at p2_
      rw [hi3.out] at p3_
      rw [hnl.out] at lrw f3 p1_
      rw [hno.out] at orw f4 p4_
      rw [hnz.out] at qrow qm ql2 qel f5 p5_
      have F6 := hd f6
      have QEL := hd qel
      have QROW := hd qrow
      have QM := hd (mono_le _ qm)
      have QMS := hd qm
      have QN := hd qn
      have LBL := hd lbl
      have OBL := hd obl
      have LRW := hd lrw
      have ORW := hd orw
      have HLX := hd hLe
      have HROW := hd hL
      have HMD := hd hmd
      have HG := hd (And.intro hm1 (And.intro hm2 (And.intro hm3 (And.intro ql1 ql2))))
      have HYM := hd (And.intro ym ym2)
      have hwo := hmd.size
      have HWO := hd hwo
      clear ee lrw orw qrow qm ql2 qel f6 lbl obl hLe hL hmd hob e1 e2 hcell qn hm1 hm2 hm3 ql1 hwo ym ym2 y1 y2 y3
      go_upto_block 2 with fail
      obtain ⟨wa, hwa⟩ : ∃ W, Hid (wo.alloc (.cells #[.int .i64 i0, .slice la nl lc, .int .i64 i2, .int .i64 i3, .slice oa no oc, .slice qa nz qc] 43) = W) := ⟨_, rfl⟩
      rw [hwa.out]
      obtain ⟨q1, q2, q3⟩ := box_new hwa.out
      obtain ⟨X, hX⟩ : ∃ n, Hid (wo.heap.size = n) := ⟨_, rfl⟩
      rw [hX.out] at q1 q3 ⊢
      have HXA := hd q1
      have HBA := hd q2
      have HSA := hd q3
      have HXX : Hid (∀ V S, Mod S wa V → (∀ k, S k → k < X ∨ X + 1 ≤ k) → V.heap[X]? = some (.cells #[.int .i64 i0, .slice la nl lc, .int .i64 i2, .int .i64 i3, .slice oa no oc, .slice qa nz qc] 43 (0, 0))) := hd (fun V S h hs => by
        rw [h.block X (by rw [HSA.out]; omega) (fun e => by have := hs _ e; omega)]
        exact HXA.out)
      have HIN : Hid (∀ k, b1 i ≤ k → k < b1 (i + 1) → k < X) := hd (fun k k1 k2 => by
        have := HLT.out; have := HM1.out np (Nat.le_refl _); have := HM2.out mq (Nat.le_refl _); have := HDS.out; have := HL.out; have := HYM.out; have := hX.out; have := HWO.out; omega)
      have LRWa : Hid (RW wa 45 3 la nl lc) := hd (LRW.out.kept fun k hk => HBA.out.block k (by rw [hX.out]; exact HIN.out k (LBL.out k hk).1 (by have := LBL.out k hk; have := HG.out; omega)))
      have ORWa : Hid (RW wa 3 1 oa no oc) := hd (ORW.out.kept fun k hk => HBA.out.block k (by rw [hX.out]; exact HIN.out k (by have := OBL.out k hk; have := HG.out; omega) (by have := OBL.out k hk; have := HG.out; omega)))
      clear q1 q2 q3 hwa LRW ORW p0_ p1_ p2_ p3_ p4_ p5_ x1
      -- the log
      go_cut [] (fun wy => Hid (RW wy 45 3 la nl lc ∧ Mod (fun k => blk la = some k) wa wy))
      case first =>
        have x1 := box_at1 HXA.out (j := 1) rfl
        simp at x1
        go_wp2_with fail
        clear x1
        go_loopg [13] nl (fun k v13 wr => ∃ (j : Nat), v13 = .int .i64 (j : Int) ∧ j + k = nl ∧ Hid (RW wr 45 3 la nl lc ∧ Mod (fun k => blk la = some k) wa wr))
        case atStart => exact ⟨0, rfl, by omega, hd ⟨LRWa.out, Mod.refl _ _⟩⟩
        case round =>
          obtain ⟨j, rfl, hjk, HJ⟩ := hrel
          have hxb := HXX.out wr _ HJ.out.2 (fun k hk => .inl (HIN.out k (LBL.out k hk).1 (by have := LBL.out k hk; have := HG.out; omega)))
          have x1 := box_at1 hxb (j := 1) rfl
          simp at x1
          by_cases hlj : j < nl
          · have hlj' : (j : Int) < (nl : Int) := by omega
            obtain ⟨gl, eal, t1, ⟨u0, t2⟩, t3⟩ := HJ.out.1.put (j * 3 + 2) (by omega) (.int .i64 99)
            have HJN := hd (And.intro t1 (Mod.setCell (p := ⟨gl, j * 3 + 2, none⟩) HJ.out.2 (.inl (by rw [eal]; rfl)) (.int .i64 99)))
            have t4 := t3 (j * 3 + 2)
            subst eal
            clear t1 t3 hxb HJ
            go_wp2_with fail
            go_roundg (gk - 1)
            case rel => exact ⟨j + 1, by go_num, by omega, HJN⟩
            case measure => omega
          · obtain rfl : j = nl := by omega
            clear hxb
            go_wp2_with fail
            go_meet
            case rel => exact HJ
      case rest =>
        obtain ⟨HLRW, HLMD⟩ : Hid (RW wc 45 3 la nl lc) ∧ Hid (Mod (fun k => blk la = some k) wa wc) := ⟨hd hcut.out.1, hd hcut.out.2⟩
        clear hcut
        have hxb := HXX.out wc _ HLMD.out (fun k hk => .inl (HIN.out k (LBL.out k hk).1 (by have := LBL.out k hk; have := HG.out; omega)))
        have HXC := hd hxb
        have x1 := box_at1 hxb (j := 1) rfl
        have x4 := box_at1 hxb (j := 4) rfl
        have x5 := box_at1 hxb (j := 5) rfl
        simp at x1 x4 x5
        go_upto_region 19 with fail
        go_quiet (fail)
        obtain ⟨wS, hwS⟩ : ∃ W, Hid (W = wc.drewN nq) := ⟨_, rfl⟩
        rw [← hwS.out]
        have HSB : Hid (Below wc.heap.size wc wS) := hd (by rw [hwS.out]; exact below_draw _ _)
        have HSLA : Hid (Mod (fun k => blk la = some k) wa wS) := hd (HLMD.out.after HSB.out)
        have HSX : Hid (wS.heap[X]? = some (.cells #[.int .i64 i0, .slice la nl lc, .int .i64 i2, .int .i64 i3, .slice oa no oc, .slice qa nz qc] 43 (0, 0))) := hd (below_blk HSB.out HXC.out)
        have HLRS : Hid (RW wS 45 3 la nl lc) := hd (HLRW.out.kept fun k hk => HSB.out.block k (HLRW.out.lt k hk))
        have HORS : Hid (RW wS 3 1 oa no oc) := hd (ORWa.out.mod HSLA.out fun k hk e => by have := OBL.out k hk; have := LBL.out k e; omega)
        have HXS : Hid (∀ V S, Mod S wS V → (∀ k, S k → k < X ∨ X + 1 ≤ k) → V.heap[X]? = some (.cells #[.int .i64 i0, .slice la nl lc, .int .i64 i2, .int .i64 i3, .slice oa no oc, .slice qa nz qc] 43 (0, 0))) := hd (fun V S h hs => by
          rw [h.block X (Array.getElem?_eq_some_iff.1 HSX.out).1 (fun e => by have := hs _ e; omega)]
          exact HSX.out)
        clear hwS HXC HLMD HLRW hxb x1 x4 x5 ORWa LRWa HXX HXA
        go_upto_block 4 with fail
        go_cut [] (fun wy => Hid (RW wy 3 1 oa no oc ∧ Mod (fun k => blk oa = some k) wS wy))
        case first =>
          have x4 := box_at1 HSX.out (j := 4) rfl
          simp at x4
          go_wp2_with fail
          clear x4
          go_loopg [17] no (fun k v17 wr => ∃ (j : Nat), v17 = .int .i64 (j : Int) ∧ j + k = no ∧ Hid (RW wr 3 1 oa no oc ∧ Mod (fun k => blk oa = some k) wS wr))
          case atStart => exact ⟨0, rfl, by omega, hd ⟨HORS.out, Mod.refl _ _⟩⟩
          case round =>
            obtain ⟨j, rfl, hjk, HJ⟩ := hrel
            have hxb := HXS.out wr _ HJ.out.2 (fun k hk => .inl (HIN.out k (by have := OBL.out k hk; have := HG.out; omega) (by have := OBL.out k hk; have := HG.out; omega)))
            have x4 := box_at1 hxb (j := 4) rfl
            simp at x4
            by_cases hlj : j < no
            · have hlj' : (j : Int) < (no : Int) := by omega
              obtain ⟨gl, eal, t1, ⟨u0, t2⟩, t3⟩ := HJ.out.1.put j (by omega) (.int .i64 99)
              have HJN := hd (And.intro t1 (Mod.setCell (p := ⟨gl, j, none⟩) HJ.out.2 (.inl (by rw [eal]; rfl)) (.int .i64 99)))
              have t4 := t3 j
              subst eal
              clear t1 t3 hxb HJ
              go_wp2_with fail
              go_roundg (gk - 1)
              case rel => exact ⟨j + 1, by go_num, by omega, HJN⟩
              case measure => omega
            · obtain rfl : j = no := by omega
              clear hxb
              go_wp2_with fail
              go_meet
              case rel => exact HJ
        case rest =>
          obtain ⟨HORU, HOMD⟩ : Hid (RW wc 3 1 oa no oc) ∧ Hid (Mod (fun k => blk oa = some k) wS wc) := ⟨hd hcut.out.1, hd hcut.out.2⟩
          clear hcut
          obtain ⟨wU, hwU⟩ : ∃ W, Hid (wc = W) := ⟨_, rfl⟩
          rw [hwU.out] at HORU HOMD ⊢
          have HUX : Hid (wU.heap[X]? = some (.cells #[.int .i64 i0, .slice la nl lc, .int .i64 i2, .int .i64 i3, .slice oa no oc, .slice qa nz qc] 43 (0, 0))) := hd (HXS.out wU _ HOMD.out (fun k hk => .inl (HIN.out k (by have := OBL.out k hk; have := HG.out; omega) (by have := OBL.out k hk; have := HG.out; omega))))
          have HLRU : Hid (RW wU 45 3 la nl lc) := hd (HLRS.out.mod HOMD.out fun k hk e => by have := OBL.out k e; have := LBL.out k hk; omega)
          have HUZ : Hid (X < wU.heap.size) := hd (Array.getElem?_eq_some_iff.1 HUX.out).1
          have HUS : Hid (∀ k, m2 ≤ k → k < X → wU.heap[k]? = wo.heap[k]?) := hd (fun k k1 k2 => by
            have hs1 := HSLA.out.size
            have hg := HG.out
            have hsa := HSA.out
            have hxx := hX.out
            rw [HOMD.out.block k (by omega) (fun e => by have := OBL.out k e; omega), HSLA.out.block k (by omega) (fun e => by have := LBL.out k e; omega)]
            exact HBA.out.block k (by omega))
          have HMU : Hid (Mod (fun k => b1 i ≤ k ∧ k < m2) wo wU) := hd (((Mod.of_below (fun k => b1 i ≤ k ∧ k < m2) HBA.out).trans HSLA.out (fun k e => .inl (by have := LBL.out k e; have := HG.out; omega))).trans HOMD.out (fun k e => .inl (by have := OBL.out k e; have := HG.out; omega)))
          have HQRU : Hid (Row wU 23 1 qa nz qc LQ) := hd (QROW.out.kept fun k hk => HUS.out k (QN.out k hk).1 (HIN.out k (by have := QN.out k hk; have := HG.out; omega) (by have := QN.out k hk; have := HG.out; have := QM.out nz (Nat.le_refl _); omega)))
          have HQEU : Hid (∀ j, j < nz → qO (qb j) (qb (j + 1)) wU (el 1 LQ j) (X0.qs.getD j default)) := hd (fun j hj => (QEL.out j hj).kept fun k k1 k2 => HUS.out k (by have := QM.out j (by omega); have := HG.out; omega) (HIN.out k (by have := QM.out j (by omega); have := HG.out; omega) (by have := QM.out (j + 1) (by omega); have := HG.out; omega)))
          have HUXX : Hid (∀ V S, Mod S wU V → (∀ k, S k → k < X ∨ X + 1 ≤ k) → V.heap[X]? = some (.cells #[.int .i64 i0, .slice la nl lc, .int .i64 i2, .int .i64 i3, .slice oa no oc, .slice qa nz qc] 43 (0, 0))) := hd (fun V S h hs => by
            rw [h.block X HUZ.out (fun e => by have := hs _ e; omega)]
            exact HUX.out)
          have HQX : Hid (∀ j, j ≤ nz → ∀ k, qb 0 ≤ k ∧ k < qb j → k < X) := hd (fun j hj k hk => HIN.out k (by have := HG.out; omega) (by have := QM.out j hj; have := HG.out; omega))
          clear hwU HORS HLRS HSX HXS HSB HSLA HOMD HSA HUS QROW QEL HBA
          go_upto_block 6 with fail
          go_cut [] (fun wy => Hid (Mod (fun k => qb 0 ≤ k ∧ k < qb nz) wU wy))
          case first =>
            have x5 := box_at1 HUX.out (j := 5) rfl
            simp at x5
            go_wp2_with fail
            clear x5
            go_loopg [18] nz (fun k v18 wr => ∃ (j : Nat), v18 = .int .i64 (j : Int) ∧ j + k = nz ∧ Hid (Mod (fun k => qb 0 ≤ k ∧ k < qb j) wU wr))
            case atStart => exact ⟨0, rfl, by omega, hd (Mod.refl _ _)⟩
            case round =>
              obtain ⟨j, rfl, hjk, HJ⟩ := hrel
              obtain ⟨wq, rfl⟩ : ∃ W, W = wr := ⟨_, rfl⟩
              obtain ⟨GQ, rfl⟩ : ∃ x, x = gk := ⟨_, rfl⟩
              have hxb := HUXX.out wq _ HJ.out (fun k hk => .inl (HQX.out j (by omega) k hk))
              have x5 := box_at1 hxb (j := 5) rfl
              simp at x5
              by_cases hlj : j < nz
              case neg =>
                obtain rfl : j = nz := by omega
                clear hxb
                go_wp2_with fail
                go_meet
                case rel => exact HJ
              have hlj' : (j : Int) < (nz : Int) := by omega
              obtain ⟨kv, ekv, kow⟩ := (HQEU.out j hlj).kept (w' := wq) fun k k1 k2 => HJ.out.block k (by have := HQX.out (j + 1) (by omega) k (by have := QM.out j (by omega); omega); have := HUZ.out; omega) (fun e => by omega)
              obtain ⟨ka, kc, ek, krw, kbl⟩ := kow.rw
              subst ek
              have hf6 := F6.out j
              obtain ⟨nk, hnk⟩ : ∃ n, Hid ((X0.qs.getD j default).length = n) := ⟨_, rfl⟩
              rw [hnk.out] at ekv krw hf6
              have hrow := HQRU.out.kept (w' := wq) fun k hk => HJ.out.block k (HQRU.out.lt k hk) (fun e => by have := QN.out k hk; omega)
              have hqlen : LQ.length = nz := by rw [HQRU.out.len, Nat.mul_one]
              rw [el_one LQ j (by omega)] at ekv
              obtain ⟨gq, eqa, hcq⟩ := hrow.cell j (by omega)
              rw [List.getElem?_eq_getElem (by omega)] at hcq
              have hv : LQ[j]'(by omega) = .slice ka nk kc := by
                have h := List.head_eq_of_cons_eq ekv
                rw [← h, List.getD_eq_getElem?_getD, List.getElem?_eq_getElem (by omega)]
                rfl
              rw [hv] at hcq
              have KBL := hd kbl
              have KRW := hd krw
              have HQM := hd (QM.out j (by omega))
              have HQM2 := hd (QM.out (j + 1) (by omega))
              have HQS := hd (QMS.out j hlj)
              have HWQ := hd HJ.out.size
              clear hxb ekv kow krw kbl hrow hqlen hv hnk
              subst eqa
              go_upto_block 8 with fail
              go_cut [] (fun wy => Hid (RW wy 3 1 ka nk kc ∧ Mod (fun k => blk ka = some k) wq wy))
              case first =>
                clear hcq x5
                go_wp2_with fail
                go_loopg [20] nk (fun k v20 wr => ∃ (t : Nat), v20 = .int .i64 (t : Int) ∧ t + k = nk ∧ Hid (RW wr 3 1 ka nk kc ∧ Mod (fun k => blk ka = some k) wq wr))
                case atStart => exact ⟨0, rfl, by omega, hd ⟨KRW.out, Mod.refl _ _⟩⟩
                case round =>
                  obtain ⟨t, rfl, htk, HT⟩ := hrel
                  by_cases hlt2 : t < nk
                  · have hlt2' : (t : Int) < (nk : Int) := by omega
                    obtain ⟨gl, eal, t1, ⟨u0, t2⟩, t3⟩ := HT.out.1.put t (by omega) (.int .i64 99)
                    have HJN := hd (And.intro t1 (Mod.setCell (p := ⟨gl, t, none⟩) HT.out.2 (.inl (by rw [eal]; rfl)) (.int .i64 99)))
                    have t4 := t3 t
                    subst eal
                    clear t1 t3 HT
                    go_wp2_with fail
                    go_roundg (gk - 1)
                    case rel => exact ⟨t + 1, by go_num, by omega, HJN⟩
                    case measure => omega
                  · obtain rfl : t = nk := by omega
                    go_wp2_with fail
                    go_meet
                    case rel => exact HT
              case rest =>
                have HI9 : Hid (RW wc 3 1 ka nk kc ∧ Mod (fun k => qb j ≤ k ∧ k < qb (j + 1)) wq wc ∧ ∀ k, blk ka = some k → (qb j ≤ k ∧ k < qb (j + 1)) ∨ wq.heap.size ≤ k) := hd ⟨hcut.out.1, hcut.out.2.mono (fun k _ e => KBL.out k e), fun k hk => .inl (KBL.out k hk)⟩
                clear hcut hcq x5
                go_wp2_with fail
                go_loopg [19, 21] 9 (fun k v19 v21 wr => ∃ (t N : Nat) (ak : Option Addr) (ck : Nat), v19 = .slice ak N ck ∧ v21 = .int .i64 (t : Int) ∧ t + k = 9 ∧ N ≤ 1048576 + t ∧ Hid (RW wr 3 1 ak N ck ∧ Mod (fun k => qb j ≤ k ∧ k < qb (j + 1)) wq wr ∧ ∀ k, blk ak = some k → (qb j ≤ k ∧ k < qb (j + 1)) ∨ wq.heap.size ≤ k))
                case atStart => exact ⟨0, nk, ka, kc, rfl, rfl, by omega, by omega, HI9⟩
                case round =>
                  obtain ⟨t, N, ak, ck, rfl, rfl, htk, hN, HT⟩ := hrel
                  clear HI9
                  by_cases hlt2 : t < 9
                  · have hlt2' : (t : Int) < 9 := by omega
                    obtain ⟨a9, c9, w9', ap, ar, am, af⟩ := HT.out.1.push (T' := 23) Try.underlying23 info_int rfl (by decide) (by omega) [.int .i64 98] rfl (by intro u hu; simp only [List.mem_cons, List.not_mem_nil, or_false] at hu; subst hu; rfl)
                    have HTN : Hid (RW w9' 3 1 a9 (N + 1) c9 ∧ Mod (fun k => qb j ≤ k ∧ k < qb (j + 1)) wq w9' ∧ ∀ k, blk a9 = some k → (qb j ≤ k ∧ k < qb (j + 1)) ∨ wq.heap.size ≤ k) := hd ⟨ar, HT.out.2.1.trans am (fun k e => HT.out.2.2 k e), fun k hk => by
                      rcases af k hk with h | h
                      · exact HT.out.2.2 k h
                      · right; have := HT.out.2.1.size; omega⟩
                    have hap := hd ap
                    clear ap ar am af HT
                    go_wp2_with (at_builtin; refine wpList_append_run rfl _ _ _ rfl _ _ _ _ rfl rfl hap.out ?_; clear hap)
                    go_roundg (gk - 1)
                    case rel => exact ⟨t + 1, N + 1, a9, c9, rfl, by go_num, by omega, by omega, HTN⟩
                    case measure => omega
                  · obtain rfl : t = 9 := by omega
                    have hge : decide ((9 : Int) < 9) = false := by decide
                    have HJN : Hid (Mod (fun k => qb 0 ≤ k ∧ k < qb (j + 1)) wU wr) := hd ((HJ.out.mono (S' := fun k => qb 0 ≤ k ∧ k < qb (j + 1)) (fun k _ e => by have := HQS.out; omega)).trans HT.out.2.1 (fun k e => .inl (by have := HQM.out; omega)))
                    clear HT HJ
                    go_wp2_with fail
                    go_roundg (GQ - 1)
                    case rel => exact ⟨j + 1, by go_num, by omega, HJN⟩
                    case measure => omega
          case rest =>
            have HQMD := hd hcut.out
            clear hcut HQEU HUXX
            obtain ⟨wV, hwV⟩ : ∃ W, Hid (wc = W) := ⟨_, rfl⟩
            rw [hwV.out] at HQMD ⊢
            have HE0 : Hid (RW wV 45 3 la nl lc ∧ RW wV 3 1 oa no oc ∧ RW wV 23 1 qa nz qc ∧ Mod (fun k => b1 i ≤ k ∧ k < b1 (i + 1)) wo wV ∧ (∀ k, blk la = some k → (b1 i ≤ k ∧ k < b1 (i + 1)) ∨ wo.heap.size ≤ k) ∧ (∀ k, blk oa = some k → (b1 i ≤ k ∧ k < b1 (i + 1)) ∨ wo.heap.size ≤ k) ∧ (∀ k, blk qa = some k → (b1 i ≤ k ∧ k < b1 (i + 1)) ∨ wo.heap.size ≤ k) ∧ (∀ k, blk la = some k → blk oa ≠ some k ∧ blk qa ≠ some k) ∧ ∀ k, blk oa = some k → blk qa ≠ some k) := hd (by
              have hg := HG.out
              have hqz := QM.out nz (Nat.le_refl _)
              refine ⟨HLRU.out.mod HQMD.out fun k hk e => by have := LBL.out k hk; omega, HORU.out.mod HQMD.out fun k hk e => by have := OBL.out k hk; omega, HQRU.out.rw.mod HQMD.out fun k hk e => by have := QN.out k hk; omega, (HMU.out.mono (S' := fun k => b1 i ≤ k ∧ k < b1 (i + 1)) (fun k _ e => by omega)).trans HQMD.out (fun k e => .inl (by omega)), fun k hk => .inl (by have := LBL.out k hk; omega), fun k hk => .inl (by have := OBL.out k hk; omega), fun k hk => .inl (by have := QN.out k hk; omega), fun k hk => ⟨fun e => by have := LBL.out k hk; have := OBL.out k e; omega, fun e => by have := LBL.out k hk; have := QN.out k e; omega⟩, fun k hk e => by have := OBL.out k hk; have := QN.out k e; omega⟩)
            clear HLRU HORU HQRU HMU HQMD hwV LBL OBL QN QM HQX HUX HUZ
            go_upto_block 12 with fail
            go_cut [] (fun wy => Hid (Mod (fun k => b1 i ≤ k ∧ k < b1 (i + 1)) wo wy))
            case first =>
              go_wp2_with fail
              go_loopg [14, 15, 16, 22] 9 (fun k v14 v15 v16 v22 wr => ∃ (t N1 N2 N3 : Nat) (al ao aq : Option Addr) (cl co cq : Nat), v14 = .slice al N1 cl ∧ v15 = .slice ao N2 co ∧ v16 = .slice aq N3 cq ∧ v22 = .int .i64 (t : Int) ∧ t + k = 9 ∧ (N1 ≤ 1048576 + t ∧ N2 ≤ 1048576 + t ∧ N3 ≤ 1048576 + t) ∧ Hid (RW wr 45 3 al N1 cl ∧ RW wr 3 1 ao N2 co ∧ RW wr 23 1 aq N3 cq ∧ Mod (fun k => b1 i ≤ k ∧ k < b1 (i + 1)) wo wr ∧ (∀ k, blk al = some k → (b1 i ≤ k ∧ k < b1 (i + 1)) ∨ wo.heap.size ≤ k) ∧ (∀ k, blk ao = some k → (b1 i ≤ k ∧ k < b1 (i + 1)) ∨ wo.heap.size ≤ k) ∧ (∀ k, blk aq = some k → (b1 i ≤ k ∧ k < b1 (i + 1)) ∨ wo.heap.size ≤ k) ∧ (∀ k, blk al = some k → blk ao ≠ some k ∧ blk aq ≠ some k) ∧ ∀ k, blk ao = some k → blk aq ≠ some k))
              case atStart => exact ⟨0, nl, no, nz, la, oa, qa, lc, oc, qc, rfl, rfl, rfl, rfl, by omega, by omega, HE0⟩
              case round =>
                obtain ⟨t, N1, N2, N3, al, ao, aq, cl, co, cq, rfl, rfl, rfl, rfl, htk, ⟨hN1, hN2, hN3⟩, HT⟩ := hrel
                clear HE0
                by_cases hlt2 : t < 9
                · have hlt2' : (t : Int) < 9 := by omega
                  obtain ⟨r1, r2, r3, r4, r5, r6, r7, r8, r9⟩ := HT.out
                  obtain ⟨xa, xc, xw, xp, xr, xm, xf⟩ := r1.push (T' := 40) Try.underlying40 info_entry rfl (by decide) (by omega) [.int .i64 0, .int .i64 0, .int .i64 98] rfl (by intro u hu; simp only [List.mem_cons, List.not_mem_nil, or_false] at hu; rcases hu with rfl | rfl | rfl <;> rfl)
                  have xs2 := xm.size
                  have r2' := r2.mod xm fun k hk e => (r8 k e).1 hk
                  have r3' := r3.mod xm fun k hk e => (r8 k e).2 hk
                  obtain ⟨ya, yc, yw, yp, yr, ym, yf⟩ := r2'.push (T' := 23) Try.underlying23 info_int rfl (by decide) (by omega) [.int .i64 98] rfl (by intro u hu; simp only [List.mem_cons, List.not_mem_nil, or_false] at hu; subst hu; rfl)
                  have ys2 := ym.size
                  have hxne : ∀ k, blk xa = some k → blk ao ≠ some k ∧ blk aq ≠ some k := fun k hk => by
                    rcases xf k hk with h | h
                    · exact r8 k h
                    · exact ⟨fun e => by have := r2.lt k e; omega, fun e => by have := r3.lt k e; omega⟩
                  have xr' := xr.mod ym fun k hk e => (hxne k hk).1 e
                  have r3'' := r3'.mod ym fun k hk e => r9 k e hk
                  obtain ⟨za, zc, zw, zp, zr, zm, zf⟩ := r3''.push (T' := 41) Try.underlying41 info_lint rfl (by decide) (by omega) [.slice none 0 0] rfl (by intro u hu; simp only [List.mem_cons, List.not_mem_nil, or_false] at hu; subst hu; rfl)
                  have hyne : ∀ k, blk ya = some k → blk aq ≠ some k ∧ blk xa ≠ some k := fun k hk => by
                    rcases yf k hk with h | h
                    · exact ⟨r9 k h, fun e => (hxne k e).1 h⟩
                    · exact ⟨fun e => by have := r3'.lt k e; omega, fun e => by have := xr.lt k e; omega⟩
                  have xr'' := xr'.mod zm fun k hk e => (hxne k hk).2 e
                  have yr' := yr.mod zm fun k hk e => (hyne k hk).1 e
                  have m1' := r4.trans xm (fun k e => r5 k e)
                  have m2' := m1'.trans ym (fun k e => r6 k e)
                  have m3' := m2'.trans zm (fun k e => r7 k e)
                  have hsr := r4.size
                  have HTN : Hid (RW zw 45 3 xa (N1 + 1) xc ∧ RW zw 3 1 ya (N2 + 1) yc ∧ RW zw 23 1 za (N3 + 1) zc ∧ Mod (fun k => b1 i ≤ k ∧ k < b1 (i + 1)) wo zw ∧ (∀ k, blk xa = some k → (b1 i ≤ k ∧ k < b1 (i + 1)) ∨ wo.heap.size ≤ k) ∧ (∀ k, blk ya = some k → (b1 i ≤ k ∧ k < b1 (i + 1)) ∨ wo.heap.size ≤ k) ∧ (∀ k, blk za = some k → (b1 i ≤ k ∧ k < b1 (i + 1)) ∨ wo.heap.size ≤ k) ∧ (∀ k, blk xa = some k → blk ya ≠ some k ∧ blk za ≠ some k) ∧ ∀ k, blk ya = some k → blk za ≠ some k) := hd (by
                    refine ⟨xr'', yr', zr, m3', fun k hk => ?_, fun k hk => ?_, fun k hk => ?_, fun k hk => ⟨fun e => (hyne k e).2 hk, fun e => ?_⟩, fun k hk e => ?_⟩
                    · rcases xf k hk with h | h
                      · exact r5 k h
                      · right; omega
                    · rcases yf k hk with h | h
                      · exact r6 k h
                      · right; omega
                    · rcases zf k hk with h | h
                      · exact r7 k h
                      · right; omega
                    · rcases zf k e with h | h
                      · exact (hxne k hk).2 h
                      · have := xr'.lt k hk; omega
                    · rcases zf k e with h | h
                      · exact (hyne k hk).1 h
                      · have := yr.lt k hk; omega)
                  have hx := hd xp
                  have hy := hd yp
                  have hz := hd zp
                  clear xp yp zp xr xm xf yr ym yf zr zm zf r1 r2 r3 r4 r5 r6 r7 r8 r9 r2' r3' r3'' xr' xr'' yr' m1' m2' m3' hxne hyne hsr HT xs2 ys2
                  go_wp2_with (first
                    | (at_builtin; refine wpList_append_run rfl _ _ _ rfl _ _ _ _ rfl rfl hx.out ?_; clear hx)
                    | (at_builtin; refine wpList_append_run rfl _ _ _ rfl _ _ _ _ rfl rfl hy.out ?_; clear hy)
                    | (at_builtin; refine wpList_append_run rfl _ _ _ rfl _ _ _ _ rfl rfl hz.out ?_; clear hz))
                  go_roundg (gk - 1)
                  case rel => exact ⟨t + 1, N1 + 1, N2 + 1, N3 + 1, xa, ya, za, xc, yc, zc, rfl, rfl, rfl, by go_num, by omega, by omega, HTN⟩
                  case measure => omega
                · obtain rfl : t = 9 := by omega
                  have hge : decide ((9 : Int) < 9) = false := by decide
                  have HMF := hd HT.out.2.2.2.1
                  clear HT
                  go_wp2_with fail
                  go_meet
                  case rel => exact HMF
            case rest =>
              have HEM := hd hcut.out
              clear hcut HE0
              have hgl := HROW.out.lt g rfl
              have hgb : ¬ (b1 i ≤ g ∧ g < b1 (i + 1)) := fun e => by have := HN1.out g rfl; have := HYM.out; omega
              have hrw := HROW.out.mod HEM.out (fun k hk e => by cases hk; exact hgb e)
              have hmdE : Mod (fun k => blk (some (⟨g, 0, none⟩ : Addr)) = some k ∨ (b1 0 ≤ k ∧ k < b1 (i + 1))) wD wc := (HMD.out.mono (S' := fun k => blk (some (⟨g, 0, none⟩ : Addr)) = some k ∨ (b1 0 ≤ k ∧ k < b1 (i + 1))) (fun k _ e => by have := HG.out; rcases e with e | e; exact .inl e; exact .inr (by omega))).trans HEM.out (fun k e => .inl (.inr (by have := HYM.out; omega)))
              have hob := HUM.out wc _ hmdE (HU1.out (i + 1) (by omega))
              have x1 := box_at1 hob (j := 1) rfl
              simp at x1
              obtain ⟨L', u1, u2, u3⟩ := row_fill6 hrw hlt (.int .i64 0) (.slice none 0 0) (.int .i64 0) (.int .i64 0) (.slice none 0 0) (.slice none 0 0)
              obtain ⟨w1', ⟨w2', w3', w4'⟩, w5'⟩ := fill6_other wc g i (.int .i64 0) (.slice none 0 0) (.int .i64 0) (.int .i64 0) (.slice none 0 0) (.slice none 0 0)
              have hfr : ∀ j, wc.frozen? ⟨g, j, none⟩ = false := fun j => hrw.free j g rfl
              have hex : ∀ j, j < 6 → ∃ u, wc.cell? ⟨g, i * 6 + j, none⟩ = some u := fun j hj => by
                obtain ⟨g', e', h'⟩ := hrw.cell (i * 6 + j) (by omega)
                cases e'
                rw [h']
                exact ⟨_, List.getElem?_eq_getElem (by rw [hrw.len]; omega)⟩
              obtain ⟨b0_, c0_⟩ := hex 0 (by decide)
              obtain ⟨b1_, c1_⟩ := hex 1 (by decide)
              obtain ⟨b2_, c2_⟩ := hex 2 (by decide)
              obtain ⟨b3_, c3_⟩ := hex 3 (by decide)
              obtain ⟨b4_, c4_⟩ := hex 4 (by decide)
              obtain ⟨b5_, c5_⟩ := hex 5 (by decide)
              simp only [Nat.add_zero] at c0_
              have HNX : Hid (∀ V, V = ((((((wc.setCell ⟨g, i * 6, none⟩ (.int .i64 0)).setCell ⟨g, i * 6 + 1, none⟩ (.slice none 0 0)).setCell ⟨g, i * 6 + 2, none⟩ (.int .i64 0)).setCell ⟨g, i * 6 + 3, none⟩ (.int .i64 0)).setCell ⟨g, i * 6 + 4, none⟩ (.slice none 0 0)).setCell ⟨g, i * 6 + 5, none⟩ (.slice none 0 0)) → ∃ L, Row V 43 6 (some ⟨g, 0, none⟩) np c1 L ∧ (∀ j, i + 1 ≤ j → j < np → el 6 L j = el 6 L1 j) ∧ Mod (fun k => blk (some (⟨g, 0, none⟩ : Addr)) = some k ∨ (b1 0 ≤ k ∧ k < b1 (i + 1))) wD V) := hd (by
                rintro V rfl
                refine ⟨L', u1, fun j k1 k2 => by rw [u2 j (by omega)]; exact HLX.out j (by omega) k2, hmdE.trans (S' := fun k => k = g) ⟨w2', w3', w4', by rw [w1']; exact Nat.le_refl _, fun k k1 k2 => w5' k k2⟩ (fun k e => .inl (.inl (by rw [e]; rfl)))⟩)
              clear hrw hmdE hob u1 u2 u3 w1' w2' w3' w4' w5' hex HEM HROW HMD HI
              go_wp2_with fail
              go_roundg (GK - 1)
              case rel => exact ⟨i + 1, by go_num, by omega, hd (HNX.out _ rfl)⟩
              case measure => omega
  case rest =>
    have HPM := hd hcut.out
    clear hcut HP1 HR1
    obtain ⟨WE, hWE⟩ : ∃ W, Hid (wc = W) := ⟨_, rfl⟩
    rw [hWE.out] at HPM ⊢
    have HES := hd HPM.out.size
    have HOE := hd (HUM.out WE _ HPM.out (HU1.out np (Nat.le_refl _)))
    have hr2 := HR2.out.mod HPM.out (fun k hk e => by
      rcases e with e | e
      · exact (HN1.out k e).2.2 hk
      · have := HN2.out k hk; omega)
    have HR2E := hd hr2
    have HP2E : Hid (∀ i, i < mq → rO (b2 i) (b2 (i + 1)) WE (el 15 L2 i) (z1.qs.getD i default)) := hd (fun i hi => (HP2.out i hi).kept fun k k1 k2 => HPM.out.block k (by have := HLT.out; have := HM2.out (i + 1) (by omega); have := HL.out; have := HDS.out; omega) (fun e => by
      have q0 := HM2.out i (by omega)
      have q1 := HL.out
      have q2 := HM1.out np (Nat.le_refl _)
      rcases e with e | e
      · have := HN1.out k e; omega
      · omega))
    have HUE : Hid (∀ V S, Mod S WE V → (∀ k, S k → w7.heap.size ≤ k ∧ k < w8.heap.size) → V.heap[OB]? = some (.cells #[.int .i64 z1.tk, .slice a1 np c1, .slice a2 mq c2] 30 (0, 0))) := hd (fun V S h hs => by
      rw [h.block OB (by have := HDS.out; have := HES.out; omega) (fun e => by have := hs _ e; have := HLT.out; omega)]
      exact HOE.out)
    have HU2 : Hid (∀ i, i ≤ mq → ∀ k, (blk a2 = some k ∨ (b2 0 ≤ k ∧ k < b2 i)) → w7.heap.size ≤ k ∧ k < w8.heap.size) := hd (fun i hi k hk => by
      obtain ⟨z1, z2, z3⟩ := HL.out
      have q1 := HM2.out i hi
      have q0 := HM1.out np (Nat.le_refl _)
      rcases hk with hk | hk
      · have := HN2.out k hk; omega
      · omega)
    have HMS2 : Hid (∀ i, i < mq → b2 i ≤ b2 (i + 1)) := HMS
    clear hr2 hWE HP2 HR2 HUM
    go_upto_block 14 with fail
    go_cut [] (fun wy => Hid (Mod (fun k => blk a2 = some k ∨ (b2 0 ≤ k ∧ k < b2 mq)) WE wy))
    case first =>
      have G0 : Hid (∃ L, Row WE 49 15 a2 mq c2 L ∧ (∀ j, 0 ≤ j → j < mq → el 15 L j = el 15 L2 j) ∧ Mod (fun k => blk a2 = some k ∨ (b2 0 ≤ k ∧ k < b2 0)) WE WE) := hd ⟨L2, HR2E.out, fun _ _ _ => rfl, Mod.refl _ _⟩
      have x2 := box_at1 HOE.out (j := 2) rfl
      simp at x2
      go_wp2_with fail
      clear x2
      go_loopg [23] mq (fun k v23 wr => ∃ (i : Nat), v23 = .int .i64 (i : Int) ∧ i + k = mq ∧ Hid (∃ L, Row wr 49 15 a2 mq c2 L ∧ (∀ j, i ≤ j → j < mq → el 15 L j = el 15 L2 j) ∧ Mod (fun k => blk a2 = some k ∨ (b2 0 ≤ k ∧ k < b2 i)) WE wr))
      case atStart => exact ⟨0, rfl, by omega, G0⟩
      case round =>
        obtain ⟨i, rfl, hik, HI⟩ := hrel
        obtain ⟨wo, rfl⟩ : ∃ W, W = wr := ⟨_, rfl⟩
        obtain ⟨GK, rfl⟩ : ∃ x, x = gk := ⟨_, rfl⟩
        clear G0
        obtain ⟨L, hL, hLe, hmd⟩ := HI.out
        have hob := HUE.out wo _ hmd (HU2.out i (by omega))
        have x2 := box_at1 hob (j := 2) rfl
        simp at x2
        by_cases hlt : i < mq
        case neg =>
          obtain rfl : i = mq := by omega
          have HME := hd hmd
          clear hL hLe hmd hob HI hlt hik
          go_wp2_with fail
          go_meet
          case rel => exact HME
        have hlt' : (i : Int) < (mq : Int) := by omega
        have ym := HM2.out i (by omega)
        have ym2 := HM2.out (i + 1) (by omega)
        have ys := HMS2.out i hlt
        have hpo : rO (b2 i) (b2 (i + 1)) wo (el 15 L2 i) (z1.qs.getD i default) := (HP2E.out i hlt).kept fun k k1 k2 => hmd.block k (by have := HLT.out; have := HL.out; have := HDS.out; have := HES.out; omega) (fun e => by
          rcases e with e | e
          · have := HN2.out k e; have := HL.out; have := HM1.out np (Nat.le_refl _); omega
          · omega)
        obtain ⟨v14, ee, e1⟩ := hpo
        obtain ⟨la, lc, LL, lb, el1, lrow, ln, ll1, lm, ll2, -, lel⟩ := e1
        subst el1
        obtain ⟨f3, f4⟩ := HFZ1.out.2.2.2 i
        obtain ⟨X0, hX0⟩ : ∃ z, Hid (z1.qs.getD i default = z) := ⟨_, rfl⟩
        rw [hX0.out] at ee lrow lm ll2 lel f3 f4
        obtain ⟨g, ea1, -⟩ := hL.cell (i * 15) (by omega)
        subst ea1
        have p14 : wo.cell? ⟨g, i * 15 + 14, none⟩ = some (.slice la X0.ls.length lc) := by
          obtain ⟨g', e', h'⟩ := hL.cell (i * 15 + 14) (by omega)
          cases e'
          rw [h', ← el_at 15 L i 14 (by decide), hLe i (Nat.le_refl _) hlt, ee]
          rfl
        obtain ⟨nl, hnl⟩ : ∃ n, Hid (X0.ls.length = n) := ⟨_, rfl⟩
        rw [hnl.out] at lrow lm ll2 lel f3 p14
        have F4 := hd f4
        have LEL := hd lel
        have LROW := hd lrow
        have LM := hd (mono_le _ lm)
        have LMS := hd lm
        have LN := hd ln
        have HLX := hd hLe
        have HROW := hd hL
        have HMD := hd hmd
        have HG := hd (And.intro ll1 ll2)
        have HYM := hd (And.intro ym (And.intro ym2 ys))
        have HWO := hd hmd.size
        have HBI : Hid (∀ k, b2 i ≤ k → k < b2 (i + 1) → k < wo.heap.size) := hd (fun k k1 k2 => by have := HLT.out; have := HL.out; have := HDS.out; have := HES.out; have := HYM.out; have := HWO.out; omega)
        clear ee lrow lm ll2 lel f4 hLe hL hmd hob ln ll1 ym ym2 ys
        go_upto_block 16 with fail
        clear p14 x2
        go_cut [] (fun wy => Hid (RW wy 53 4 la nl lc ∧ Mod (fun k => blk la = some k ∨ (lb 0 ≤ k ∧ k < lb nl)) wo wy))
        case first =>
          have G1 : Hid (∃ M, Row wo 53 4 la nl lc M ∧ (∀ j, 0 ≤ j → j < nl → el 4 M j = el 4 LL j) ∧ Mod (fun k => blk la = some k ∨ (lb 0 ≤ k ∧ k < lb 0)) wo wo) := hd ⟨LL, LROW.out, fun _ _ _ => rfl, Mod.refl _ _⟩
          go_wp2_with fail
          go_loopg [25] nl (fun k v25 wr => ∃ (j : Nat), v25 = .int .i64 (j : Int) ∧ j + k = nl ∧ Hid (∃ M, Row wr 53 4 la nl lc M ∧ (∀ t, j ≤ t → t < nl → el 4 M t = el 4 LL t) ∧ Mod (fun k => blk la = some k ∨ (lb 0 ≤ k ∧ k < lb j)) wo wr))
          case atStart => exact ⟨0, rfl, by omega, G1⟩
          case round =>
            obtain ⟨j, rfl, hjk, HJ⟩ := hrel
            obtain ⟨wq, rfl⟩ : ∃ W, W = wr := ⟨_, rfl⟩
            obtain ⟨GQ, rfl⟩ : ∃ x, x = gk := ⟨_, rfl⟩
            clear G1
            obtain ⟨M, hM, hMe, hmm⟩ := HJ.out
            by_cases hlj : j < nl
            case neg =>
              obtain rfl : j = nl := by omega
              have HJE := hd (And.intro hM.rw hmm)
              clear hM hMe hmm HJ hjk
              go_wp2_with fail
              go_meet
              case rel => exact HJE
            have hlj' : (j : Int) < (nl : Int) := by omega
            have hlo : lO (lb j) (lb (j + 1)) wq (el 4 LL j) (X0.ls.getD j default) := (LEL.out j hlj).kept fun k k1 k2 => hmm.block k (HBI.out k (by have := LM.out j (by omega); have := HG.out; omega) (by have := LM.out (j + 1) (by omega); have := HG.out; omega)) (fun e => by
              rcases e with e | e
              · have := LN.out k e; have := LM.out j (by omega); omega
              · omega)
            obtain ⟨w1', w2', mm, ee, hm1, hm2, e1, e2⟩ := hlo
            obtain ⟨va, vc, ev, vrw, vbl⟩ := e1.rw
            obtain ⟨ua, uc, eu, urw, ubl⟩ := e2.rw
            subst ev eu
            obtain ⟨f5, f6⟩ := F4.out j
            obtain ⟨nv, hnv⟩ : ∃ n, Hid ((X0.ls.getD j default).vs.length = n) := ⟨_, rfl⟩
            obtain ⟨nu, hnu⟩ : ∃ n, Hid ((X0.ls.getD j default).ws.length = n) := ⟨_, rfl⟩
            rw [hnv.out] at ee vrw f5
            rw [hnu.out] at ee urw f6
            obtain ⟨gl, ela, -⟩ := hM.cell (j * 4) (by omega)
            have hcell : ∀ t u, t < 4 → (el 4 LL j)[t]? = some u → wq.cell? ⟨gl, j * 4 + t, none⟩ = some u := fun t u ht hu => by
              obtain ⟨g', e', h'⟩ := hM.cell (j * 4 + t) (by omega)
              rw [ela] at e'
              cases e'
              rw [h', ← el_at 4 M j t ht, hMe j (Nat.le_refl _) hlj]
              exact hu
            rw [ee] at hcell
            have q0 := hcell 0 _ (by decide) rfl
            have q1 := hcell 1 _ (by decide) rfl
            simp only [Nat.add_zero] at q0
            have HMR := hd hM
            have HMX := hd hMe
            have HMM := hd hmm
            have VBL := hd vbl
            have UBL := hd ubl
            have HLB := hd (And.intro hm1 (And.intro hm2 (And.intro (LM.out j (by omega)) (And.intro (LM.out (j + 1) (by omega)) (LMS.out j hlj)))))
            have HLA := hd ela
            clear hM hMe hmm ee e1 e2 hcell vbl ubl hm1 hm2 HJ hnv hnu
            subst ela
            go_upto_region 50 with fail
            go_quiet (fail)
            clear q0 q1
            obtain ⟨wS, hwS⟩ : ∃ W, Hid (W = wq.drewN nq) := ⟨_, rfl⟩
            rw [← hwS.out]
            have HSB : Hid (Below wq.heap.size wq wS) := hd (by rw [hwS.out]; exact below_draw _ _)
            have VRW : Hid (RW wS 2 1 va nv vc) := hd (vrw.kept fun k hk => HSB.out.block k (vrw.lt k hk))
            have URW : Hid (RW wS 55 2 ua nu uc) := hd (urw.kept fun k hk => HSB.out.block k (urw.lt k hk))
            clear vrw urw hwS
            go_upto_block 18 with fail
            go_cut [] (fun wy => Hid (RW wy 2 1 va nv vc ∧ Mod (fun k => blk va = some k) wS wy))
            case first =>
              go_wp2_with fail
              go_loopg [28] nv (fun k v28 wr => ∃ (t : Nat), v28 = .int .i64 (t : Int) ∧ t + k = nv ∧ Hid (RW wr 2 1 va nv vc ∧ Mod (fun k => blk va = some k) wS wr))
              case atStart => exact ⟨0, rfl, by omega, hd ⟨VRW.out, Mod.refl _ _⟩⟩
              case round =>
                obtain ⟨t, rfl, htk, HT⟩ := hrel
                by_cases hlt2 : t < nv
                · have hlt2' : (t : Int) < (nv : Int) := by omega
                  obtain ⟨gv, eal, t1, ⟨u0, t2⟩, t3⟩ := HT.out.1.put t (by omega) (.int .i64 99)
                  have HJN := hd (And.intro t1 (Mod.setCell (p := ⟨gv, t, none⟩) HT.out.2 (.inl (by rw [eal]; rfl)) (.int .i64 99)))
                  have t4 := t3 t
                  subst eal
                  clear t1 t3 HT
                  go_wp2_with fail
                  go_roundg (gk - 1)
                  case rel => exact ⟨t + 1, by go_num, by omega, HJN⟩
                  case measure => omega
                · obtain rfl : t = nv := by omega
                  go_wp2_with fail
                  go_meet
                  case rel => exact HT
            case rest =>
              obtain ⟨wT, hwT⟩ : ∃ W, Hid (wc = W) := ⟨_, rfl⟩
              rw [hwT.out] at hcut ⊢
              have VRT : Hid (RW wT 2 1 va nv vc) := hd hcut.out.1
              have HMT := hd hcut.out.2
              have URT : Hid (RW wT 55 2 ua nu uc) := hd (URW.out.mod HMT.out fun k hk e => by have := VBL.out k e; have := UBL.out k hk; omega)
              clear hcut VRW URW hwT
              go_upto_block 20 with fail
              go_cut [] (fun wy => Hid (RW wy 55 2 ua nu uc ∧ Mod (fun k => blk ua = some k) wT wy))
              case first =>
                go_wp2_with fail
                go_loopg [29] nu (fun k v29 wr => ∃ (t : Nat), v29 = .int .i64 (t : Int) ∧ t + k = nu ∧ Hid (RW wr 55 2 ua nu uc ∧ Mod (fun k => blk ua = some k) wT wr))
                case atStart => exact ⟨0, rfl, by omega, hd ⟨URT.out, Mod.refl _ _⟩⟩
                case round =>
                  obtain ⟨t, rfl, htk, HT⟩ := hrel
                  by_cases hlt2 : t < nu
                  · have hlt2' : (t : Int) < (nu : Int) := by omega
                    obtain ⟨gv, eal, t1, ⟨u0, t2⟩, t3⟩ := HT.out.1.put (t * 2) (by omega) (.int .i64 99)
                    have HJN := hd (And.intro t1 (Mod.setCell (p := ⟨gv, t * 2, none⟩) HT.out.2 (.inl (by rw [eal]; rfl)) (.int .i64 99)))
                    have t4 := t3 (t * 2)
                    subst eal
                    clear t1 t3 HT
                    go_wp2_with fail
                    go_roundg (gk - 1)
                    case rel => exact ⟨t + 1, by go_num, by omega, HJN⟩
                    case measure => omega
                  · obtain rfl : t = nu := by omega
                    go_wp2_with fail
                    go_meet
                    case rel => exact HT
              case rest =>
                have HI9 : Hid (RW wc 2 1 va nv vc ∧ RW wc 55 2 ua nu uc ∧ Mod (fun k => lb j ≤ k ∧ k < lb (j + 1)) wq wc ∧ (∀ k, blk va = some k → (lb j ≤ k ∧ k < lb (j + 1)) ∨ wq.heap.size ≤ k) ∧ (∀ k, blk ua = some k → (lb j ≤ k ∧ k < lb (j + 1)) ∨ wq.heap.size ≤ k) ∧ ∀ k, blk va = some k → blk ua ≠ some k) := hd (by
                  have hh := HLB.out
                  refine ⟨VRT.out.mod hcut.out.2 fun k hk e => by have := VBL.out k hk; have := UBL.out k e; omega, hcut.out.1, ((Mod.of_below (fun k => lb j ≤ k ∧ k < lb (j + 1)) HSB.out).trans HMT.out (fun k e => .inl (by have := VBL.out k e; omega))).trans hcut.out.2 (fun k e => .inl (by have := UBL.out k e; omega)), fun k hk => .inl (by have := VBL.out k hk; omega), fun k hk => .inl (by have := UBL.out k hk; omega), fun k hk e => by have := VBL.out k hk; have := UBL.out k e; omega⟩)
                clear hcut VRT HMT URT HSB
                go_upto_block 22 with fail
                go_cut [] (fun wy => Hid (Mod (fun k => lb j ≤ k ∧ k < lb (j + 1)) wq wy))
                case first =>
                  go_wp2_with fail
                  go_loopg [26, 27, 30] 9 (fun k v26 v27 v30 wr => ∃ (t N1 N2 : Nat) (al ao : Option Addr) (cl co : Nat), v26 = .slice al N1 cl ∧ v27 = .slice ao N2 co ∧ v30 = .int .i64 (t : Int) ∧ t + k = 9 ∧ (N1 ≤ 1048576 + t ∧ N2 ≤ 1048576 + t) ∧ Hid (RW wr 2 1 al N1 cl ∧ RW wr 55 2 ao N2 co ∧ Mod (fun k => lb j ≤ k ∧ k < lb (j + 1)) wq wr ∧ (∀ k, blk al = some k → (lb j ≤ k ∧ k < lb (j + 1)) ∨ wq.heap.size ≤ k) ∧ (∀ k, blk ao = some k → (lb j ≤ k ∧ k < lb (j + 1)) ∨ wq.heap.size ≤ k) ∧ ∀ k, blk al = some k → blk ao ≠ some k))
                  case atStart => exact ⟨0, nv, nu, va, ua, vc, uc, rfl, rfl, rfl, by omega, by omega, HI9⟩
                  case round =>
                    obtain ⟨t, N1, N2, al, ao, cl, co, rfl, rfl, rfl, htk, ⟨hN1, hN2⟩, HT⟩ := hrel
                    clear HI9
                    by_cases hlt2 : t < 9
                    · have hlt2' : (t : Int) < 9 := by omega
                      obtain ⟨r1, r2, r4, r5, r6, r8⟩ := HT.out
                      obtain ⟨xa, xc, xw, xp, xr, xm, xf⟩ := r1.push (T' := 50) Try.underlying50 info_i64 rfl (by decide) (by omega) [.int .i64 98] rfl (by intro u hu; simp only [List.mem_cons, List.not_mem_nil, or_false] at hu; subst hu; rfl)
                      have xs2 := xm.size
                      have r2' := r2.mod xm fun k hk e => r8 k e hk
                      obtain ⟨ya, yc, yw, yp, yr, ym, yf⟩ := r2'.push (T' := 51) Try.underlying51 info_waiter rfl (by decide) (by omega) [.int .i64 98, .int .i64 0] rfl (by intro u hu; simp only [List.mem_cons, List.not_mem_nil, or_false] at hu; rcases hu with rfl | rfl <;> rfl)
                      have ys2 := ym.size
                      have hxne : ∀ k, blk xa = some k → blk ao ≠ some k := fun k hk => by
                        rcases xf k hk with h | h
                        · exact r8 k h
                        · exact fun e => by have := r2.lt k e; omega
                      have xr' := xr.mod ym fun k hk e => hxne k hk e
                      have m1' := r4.trans xm (fun k e => r5 k e)
                      have m2' := m1'.trans ym (fun k e => r6 k e)
                      have hsr := r4.size
                      have HTN : Hid (RW yw 2 1 xa (N1 + 1) xc ∧ RW yw 55 2 ya (N2 + 1) yc ∧ Mod (fun k => lb j ≤ k ∧ k < lb (j + 1)) wq yw ∧ (∀ k, blk xa = some k → (lb j ≤ k ∧ k < lb (j + 1)) ∨ wq.heap.size ≤ k) ∧ (∀ k, blk ya = some k → (lb j ≤ k ∧ k < lb (j + 1)) ∨ wq.heap.size ≤ k) ∧ ∀ k, blk xa = some k → blk ya ≠ some k) := hd (by
                        refine ⟨xr', yr, m2', fun k hk => ?_, fun k hk => ?_, fun k hk e => ?_⟩
                        · rcases xf k hk with h | h
                          · exact r5 k h
                          · right; omega
                        · rcases yf k hk with h | h
                          · exact r6 k h
                          · right; omega
                        · rcases yf k e with h | h
                          · exact hxne k hk h
                          · have := xr.lt k hk; omega)
                      have hx := hd xp
                      have hy := hd yp
                      clear xp yp xr xm xf yr ym yf r1 r2 r4 r5 r6 r8 r2' xr' m1' m2' hxne hsr HT xs2 ys2
                      go_wp2_with (first
                        | (at_builtin; refine wpList_append_run rfl _ _ _ rfl _ _ _ _ rfl rfl hx.out ?_; clear hx)
                        | (at_builtin; refine wpList_append_run rfl _ _ _ rfl _ _ _ _ rfl rfl hy.out ?_; clear hy))
                      go_roundg (gk - 1)
                      case rel => exact ⟨t + 1, N1 + 1, N2 + 1, xa, ya, xc, yc, rfl, rfl, by go_num, by omega, by omega, HTN⟩
                      case measure => omega
                    · obtain rfl : t = 9 := by omega
                      have hge : decide ((9 : Int) < 9) = false := by decide
                      have HMF := hd HT.out.2.2.1
                      clear HT
                      go_wp2_with fail
                      go_meet
                      case rel => exact HMF
                case rest =>
                  have HEM := hd hcut.out
                  clear hcut HI9
                  have hh := HLB.out
                  have hgb : ¬ (lb j ≤ gl ∧ gl < lb (j + 1)) := fun e => by have := LN.out gl rfl; omega
                  have hrw := HMR.out.mod HEM.out (fun k hk e => by cases hk; exact hgb e)
                  have hmdE : Mod (fun k => blk (some (⟨gl, 0, none⟩ : Addr)) = some k ∨ (lb 0 ≤ k ∧ k < lb (j + 1))) wo wc := (HMM.out.mono (S' := fun k => blk (some (⟨gl, 0, none⟩ : Addr)) = some k ∨ (lb 0 ≤ k ∧ k < lb (j + 1))) (fun k _ e => by rcases e with e | e; exact .inl e; exact .inr (by omega))).trans HEM.out (fun k e => .inl (.inr (by omega)))
                  obtain ⟨M', u1, u2⟩ := row_fill4 hrw hlj (.slice none 0 0) (.slice none 0 0) (.int .i64 0) (.int .i64 0)
                  obtain ⟨n1', ⟨n2', n3', n4'⟩, n5'⟩ := fill4_other wc gl j (.slice none 0 0) (.slice none 0 0) (.int .i64 0) (.int .i64 0)
                  have hfr : ∀ j, wc.frozen? ⟨gl, j, none⟩ = false := fun j => hrw.free j gl rfl
                  have hex : ∀ y, y < 4 → ∃ u, wc.cell? ⟨gl, j * 4 + y, none⟩ = some u := fun y hy => by
                    obtain ⟨g', e', h'⟩ := hrw.cell (j * 4 + y) (by omega)
                    cases e'
                    rw [h']
                    exact ⟨_, List.getElem?_eq_getElem (by rw [hrw.len]; omega)⟩
                  obtain ⟨b0_, c0_⟩ := hex 0 (by decide)
                  obtain ⟨b1_, c1_⟩ := hex 1 (by decide)
                  obtain ⟨b2_, c2_⟩ := hex 2 (by decide)
                  obtain ⟨b3_, c3_⟩ := hex 3 (by decide)
                  simp only [Nat.add_zero] at c0_
                  have HNX : Hid (∀ V, V = ((((wc.setCell ⟨gl, j * 4, none⟩ (.slice none 0 0)).setCell ⟨gl, j * 4 + 1, none⟩ (.slice none 0 0)).setCell ⟨gl, j * 4 + 2, none⟩ (.int .i64 0)).setCell ⟨gl, j * 4 + 3, none⟩ (.int .i64 0)) → ∃ M, Row V 53 4 (some ⟨gl, 0, none⟩) nl lc M ∧ (∀ t, j + 1 ≤ t → t < nl → el 4 M t = el 4 LL t) ∧ Mod (fun k => blk (some (⟨gl, 0, none⟩ : Addr)) = some k ∨ (lb 0 ≤ k ∧ k < lb (j + 1))) wo V) := hd (by
                    rintro V rfl
                    refine ⟨M', u1, fun t k1 k2 => by rw [u2 t (by omega)]; exact HMX.out t (by omega) k2, hmdE.trans (S' := fun k => k = gl) ⟨n2', n3', n4', by rw [n1']; exact Nat.le_refl _, fun k k1 k2 => n5' k k2⟩ (fun k e => .inl (.inl (by rw [e]; rfl)))⟩)
                  clear hrw hmdE u1 u2 n1' n2' n3' n4' n5' hex HEM HMR HMM hh
                  go_wp2_with fail
                  go_roundg (GQ - 1)
                  case rel => exact ⟨j + 1, by go_num, by omega, hd (HNX.out _ rfl)⟩
                  case measure => omega
        case rest =>
          obtain ⟨wV, hwV⟩ : ∃ W, Hid (wc = W) := ⟨_, rfl⟩
          rw [hwV.out] at hcut ⊢
          have HE0 : Hid (RW wV 53 4 la nl lc ∧ Mod (fun k => b2 i ≤ k ∧ k < b2 (i + 1)) wo wV ∧ ∀ k, blk la = some k → (b2 i ≤ k ∧ k < b2 (i + 1)) ∨ wo.heap.size ≤ k) := hd (by
            have hg := HG.out
            have hq := LM.out nl (Nat.le_refl _)
            exact ⟨hcut.out.1, hcut.out.2.mono (fun k _ e => by
              rcases e with e | e
              · have := LN.out k e; omega
              · omega), fun k hk => .inl (by have := LN.out k hk; omega)⟩)
          clear hcut hwV
          go_upto_block 24 with fail
          go_cut [] (fun wy => Hid (Mod (fun k => b2 i ≤ k ∧ k < b2 (i + 1)) wo wy))
          case first =>
            go_wp2_with fail
            go_loopg [24, 31] 9 (fun k v24 v31 wr => ∃ (t N1 : Nat) (al : Option Addr) (cl : Nat), v24 = .slice al N1 cl ∧ v31 = .int .i64 (t : Int) ∧ t + k = 9 ∧ N1 ≤ 1048576 + t ∧ Hid (RW wr 53 4 al N1 cl ∧ Mod (fun k => b2 i ≤ k ∧ k < b2 (i + 1)) wo wr ∧ ∀ k, blk al = some k → (b2 i ≤ k ∧ k < b2 (i + 1)) ∨ wo.heap.size ≤ k))
            case atStart => exact ⟨0, nl, la, lc, rfl, rfl, by omega, by omega, HE0⟩
            case round =>
              obtain ⟨t, N1, al, cl, rfl, rfl, htk, hN1, HT⟩ := hrel
              clear HE0
              by_cases hlt2 : t < 9
              · have hlt2' : (t : Int) < 9 := by omega
                obtain ⟨r1, r4, r5⟩ := HT.out
                obtain ⟨xa, xc, xw, xp, xr, xm, xf⟩ := r1.push (T' := 47) Try.underlying47 info_lane rfl (by decide) (by omega) [.slice none 0 0, .slice none 0 0, .int .i64 0, .int .i64 0] rfl (by intro u hu; simp only [List.mem_cons, List.not_mem_nil, or_false] at hu; rcases hu with rfl | rfl | rfl | rfl <;> rfl)
                have m1' := r4.trans xm (fun k e => r5 k e)
                have hsr := r4.size
                have HTN : Hid (RW xw 53 4 xa (N1 + 1) xc ∧ Mod (fun k => b2 i ≤ k ∧ k < b2 (i + 1)) wo xw ∧ ∀ k, blk xa = some k → (b2 i ≤ k ∧ k < b2 (i + 1)) ∨ wo.heap.size ≤ k) := hd (by
                  refine ⟨xr, m1', fun k hk => ?_⟩
                  rcases xf k hk with h | h
                  · exact r5 k h
                  · right; omega)
                have hx := hd xp
                clear xp xr xm xf r1 r4 r5 m1' hsr HT
                go_wp2_with (at_builtin; refine wpList_append_run rfl _ _ _ rfl _ _ _ _ rfl rfl hx.out ?_; clear hx)
                go_roundg (gk - 1)
                case rel => exact ⟨t + 1, N1 + 1, xa, xc, rfl, by go_num, by omega, by omega, HTN⟩
                case measure => omega
              · obtain rfl : t = 9 := by omega
                have hge : decide ((9 : Int) < 9) = false := by decide
                have HMF := hd HT.out.2.1
                clear HT
                go_wp2_with fail
                go_meet
                case rel => exact HMF
          case rest =>
            have HEM := hd hcut.out
            clear hcut HE0
            have hgb : ¬ (b2 i ≤ g ∧ g < b2 (i + 1)) := fun e => by have := HN2.out g rfl; have := HYM.out; have := HL.out; have := HM1.out np (Nat.le_refl _); omega
            have hrw := HROW.out.mod HEM.out (fun k hk e => by cases hk; exact hgb e)
            have hmdE : Mod (fun k => blk (some (⟨g, 0, none⟩ : Addr)) = some k ∨ (b2 0 ≤ k ∧ k < b2 (i + 1))) WE wc := (HMD.out.mono (S' := fun k => blk (some (⟨g, 0, none⟩ : Addr)) = some k ∨ (b2 0 ≤ k ∧ k < b2 (i + 1))) (fun k _ e => by have := HYM.out; rcases e with e | e; exact .inl e; exact .inr (by omega))).trans HEM.out (fun k e => .inl (.inr (by have := HYM.out; omega)))
            have hob := HUE.out wc _ hmdE (HU2.out (i + 1) (by omega))
            have x2 := box_at1 hob (j := 2) rfl
            simp at x2
            obtain ⟨L', u1, u2, u3⟩ := row_fill15 hrw hlt (.int .i64 0) (.int .i64 0) (.int .i64 0) (.int .i64 0) (.int .i64 0) (.int .i64 0) (.int .i64 0) (.int .i64 0) (.int .i64 0) (.int .i64 0) (.int .i64 0) (.int .i64 0) (.bool false) (.int .i64 0) (.slice none 0 0)
            obtain ⟨n1', ⟨n2', n3', n4'⟩, n5'⟩ := fill15_other wc g i (.int .i64 0) (.int .i64 0) (.int .i64 0) (.int .i64 0) (.int .i64 0) (.int .i64 0) (.int .i64 0) (.int .i64 0) (.int .i64 0) (.int .i64 0) (.int .i64 0) (.int .i64 0) (.bool false) (.int .i64 0) (.slice none 0 0)
            have hfr : ∀ j, wc.frozen? ⟨g, j, none⟩ = false := fun j => hrw.free j g rfl
            have hex : ∀ y, y < 15 → ∃ u, wc.cell? ⟨g, i * 15 + y, none⟩ = some u := fun y hy => by
              obtain ⟨g', e', h'⟩ := hrw.cell (i * 15 + y) (by omega)
              cases e'
              rw [h']
              exact ⟨_, List.getElem?_eq_getElem (by rw [hrw.len]; omega)⟩
            obtain ⟨b0_, c0_⟩ := hex 0 (by decide)
            obtain ⟨b1_, c1_⟩ := hex 1 (by decide)
            obtain ⟨b2_, c2_⟩ := hex 2 (by decide)
            obtain ⟨b3_, c3_⟩ := hex 3 (by decide)
            obtain ⟨b4_, c4_⟩ := hex 4 (by decide)
            obtain ⟨b5_, c5_⟩ := hex 5 (by decide)
            obtain ⟨b6_, c6_⟩ := hex 6 (by decide)
            obtain ⟨b7_, c7_⟩ := hex 7 (by decide)
            obtain ⟨b8_, c8_⟩ := hex 8 (by decide)
            obtain ⟨b9_, c9_⟩ := hex 9 (by decide)
            obtain ⟨b10_, c10_⟩ := hex 10 (by decide)
            obtain ⟨b11_, c11_⟩ := hex 11 (by decide)
            obtain ⟨b12_, c12_⟩ := hex 12 (by decide)
            obtain ⟨b13_, c13_⟩ := hex 13 (by decide)
            obtain ⟨b14_, c14_⟩ := hex 14 (by decide)
            simp only [Nat.add_zero] at c0_
            have HNX : Hid (∀ V, V = (((((((((((((((wc.setCell ⟨g, i * 15, none⟩ (.int .i64 0)).setCell ⟨g, i * 15 + 1, none⟩ (.int .i64 0)).setCell ⟨g, i * 15 + 2, none⟩ (.int .i64 0)).setCell ⟨g, i * 15 + 3, none⟩ (.int .i64 0)).setCell ⟨g, i * 15 + 4, none⟩ (.int .i64 0)).setCell ⟨g, i * 15 + 5, none⟩ (.int .i64 0)).setCell ⟨g, i * 15 + 6, none⟩ (.int .i64 0)).setCell ⟨g, i * 15 + 7, none⟩ (.int .i64 0)).setCell ⟨g, i * 15 + 8, none⟩ (.int .i64 0)).setCell ⟨g, i * 15 + 9, none⟩ (.int .i64 0)).setCell ⟨g, i * 15 + 10, none⟩ (.int .i64 0)).setCell ⟨g, i * 15 + 11, none⟩ (.int .i64 0)).setCell ⟨g, i * 15 + 12, none⟩ (.bool false)).setCell ⟨g, i * 15 + 13, none⟩ (.int .i64 0)).setCell ⟨g, i * 15 + 14, none⟩ (.slice none 0 0)) → ∃ L, Row V 49 15 (some ⟨g, 0, none⟩) mq c2 L ∧ (∀ j, i + 1 ≤ j → j < mq → el 15 L j = el 15 L2 j) ∧ Mod (fun k => blk (some (⟨g, 0, none⟩ : Addr)) = some k ∨ (b2 0 ≤ k ∧ k < b2 (i + 1))) WE V) := hd (by
              rintro V rfl
              refine ⟨L', u1, fun j k1 k2 => by rw [u2 j (by omega)]; exact HLX.out j (by omega) k2, hmdE.trans (S' := fun k => k = g) ⟨n2', n3', n4', by rw [n1']; exact Nat.le_refl _, fun k k1 k2 => n5' k k2⟩ (fun k e => .inl (.inl (by rw [e]; rfl)))⟩)
            clear hrw hmdE hob u1 u2 u3 n1' n2' n3' n4' n5' hex HEM HROW HMD HI
            go_wp2_with fail
            go_roundg (GK - 1)
            case rel => exact ⟨i + 1, by go_num, by omega, hd (HNX.out _ rfl)⟩
            case measure => omega
    case rest =>
      have HQM := hd hcut.out
      clear hcut
      obtain ⟨wZ, hwZ⟩ : ∃ W, Hid (wc = W) := ⟨_, rfl⟩
      rw [hwZ.out] at HQM ⊢
      have HUZ : Hid (Mod (fun k => w7.heap.size ≤ k ∧ k < w8.heap.size) wD wZ) := hd ((HPM.out.mono (S' := fun k => w7.heap.size ≤ k ∧ k < w8.heap.size) (fun k _ e => HU1.out np (Nat.le_refl _) k e)).trans HQM.out (fun k e => .inl (HU2.out mq (Nat.le_refl _) k e)))
      have HBDD : Hid (Below w7.heap.size w7 wD) := hd (HB7B.out.trans (HBD.out.mono HB7B.out.size))
      have HZ7 : Hid (Below w7.heap.size w7 wZ) := hd (HBDD.out.trans (HUZ.out.below HBDD.out.size (fun k _ e => e.1)))
      have HZ0 : Hid (Below W0.heap.size W0 wZ) := hd (HB7x.out.trans (HZ7.out.mono HB7x.out.size))
      have HTZ : Hid (sE wZ [.int .i64 z1.tk, .slice t1 np tc1, .slice t2 mq tc2] z1) := hd ((HTW.out.kept (w' := wZ) fun k k1 k2 => by
        have hl := HLT.out
        have hs := HBD.out.size
        rw [HUZ.out.block k (by omega) (by omega)]
        exact HBD.out.block k (by omega)).rd)
      have HYZ : Hid (∀ V, Below wZ.heap.size wZ V → V.cell? ⟨OW, 0, none⟩ = some (.int .i64 k0) ∧ V.cell? ⟨OW, 1, none⟩ = some (.slice k1 kn1 kc1) ∧ V.cell? ⟨OW, 2, none⟩ = some (.slice k2 kn2 kc2) ∧ V.cell? ⟨B1, 0, none⟩ = some (.int .i64 sk) ∧ V.cell? ⟨B1, 1, none⟩ = some (.slice s1 sn1 sc1) ∧ V.cell? ⟨B1, 2, none⟩ = some (.slice s2 sn2 sc2) ∧ V.cell? ⟨TB, 0, none⟩ = some (.int .i64 z1.tk) ∧ V.cell? ⟨TB, 1, none⟩ = some (.slice t1 np tc1) ∧ V.cell? ⟨TB, 2, none⟩ = some (.slice t2 mq tc2) ∧ V.cell? ⟨GW, 0, none⟩ = some (.int .i64 g0) ∧ V.cell? ⟨GW, 1, none⟩ = some (.slice g1 gn1 gc1) ∧ V.cell? ⟨GW, 2, none⟩ = some (.slice g2 gn2 gc2)) := hd (fun V hb => by
        have hbw := HZ7.out.trans (hb.mono HZ7.out.size)
        have v1 := below_blk hbw HOB7.out
        have v2 := below_blk hbw HGB.out
        have h0 := HB7x.out.trans (hbw.mono HB7x.out.size)
        have v3 := (HX.out V h0).2.1
        have v4 : wZ.heap[TB]? = some (.cells #[.int .i64 z1.tk, .slice t1 np tc1, .slice t2 mq tc2] 30 (0, 0)) := by
          have hl := HLT.out
          have hs := HBD.out.size
          rw [HUZ.out.block TB (by omega) (by omega)]
          exact below_blk HBD.out HTB.out
        have v5 := below_blk hb v4
        exact ⟨box_at1 v1 rfl, box_at1 v1 rfl, box_at1 v1 rfl, box_at1 v3 rfl, box_at1 v3 rfl, box_at1 v3 rfl, box_at1 v5 rfl, box_at1 v5 rfl, box_at1 v5 rfl, box_at1 v2 rfl, box_at1 v2 rfl, box_at1 v2 rfl⟩)
      have HS1 : Hid (∀ V, Below wZ.heap.size wZ V → Calls Try.prog 8 #[.agg #[.int .i64 k0, .slice k1 kn1 kc1, .slice k2 kn2 kc2], .agg #[.int .i64 sk, .slice s1 sn1 sc1, .slice s2 sn2 sc2]] V fun e w' => e = .returned (.bool true) ∧ Below V.heap.size V w') := hd (fun V hb => by
        have hbw := HZ7.out.trans (hb.mono HZ7.out.size)
        have h0 := HB7x.out.trans (hbw.mono HB7x.out.size)
        have := rsame_any (HOW7.out.below hbw) (HS3.out.below (HX.out V h0).2.2)
        rw [dec_yes rfl] at this
        exact this)
      have HS2 : Hid (∀ V, Below wZ.heap.size wZ V → Calls Try.prog 8 #[.agg #[.int .i64 z1.tk, .slice t1 np tc1, .slice t2 mq tc2], .agg #[.int .i64 g0, .slice g1 gn1 gc1, .slice g2 gn2 gc2]] V fun e w' => e = .returned (.bool true) ∧ Below V.heap.size V w') := hd (fun V hb => by
        have hbw := HZ7.out.trans (hb.mono HZ7.out.size)
        have := rsame_any (HTZ.out.below hb) (HGW7.out.below hbw)
        rw [dec_yes rfl] at this
        exact this)
      have HFIN : Hid (∀ V, Below wZ.heap.size wZ V → Below w.heap.size w V) := hd (fun V hb => by
        have hbw := HZ7.out.trans (hb.mono HZ7.out.size)
        exact (HX.out V (HB7x.out.trans (hbw.mono HB7x.out.size))).2.2)
      have HBS : Hid (Below wZ.heap.size wZ wZ) := hd (below_same _)
      obtain ⟨x0, x1, x2, x3, x4, x5, x6, x7, x8, x9, x10, x11⟩ := HYZ.out wZ HBS.out
      clear hwZ HQM HPM
      go_wp2_with (first
        | (go_at_call 8; (with_reducible refine (HS1.out wZ HBS.out).mono ?_); rintro e u1 ⟨rfl, bu1⟩; have bv1 := hd (HBS.out.trans (bu1.mono HBS.out.size)); obtain ⟨m0, m1, m2, m3, m4, m5, m6, m7, m8, m9, m10, m11⟩ := HYZ.out u1 bv1.out; clear bu1)
        | (go_at_call 8; (with_reducible refine (HS2.out u1 bv1.out).mono ?_); rintro e u2 ⟨rfl, bu2⟩; have bv2 := hd (bv1.out.trans (bu2.mono bv1.out.size)); clear bu2))
      go_ret
      exact ⟨rfl, HFIN.out _ bv2.out⟩
end Go.Proofs.Ytjbmljheepomnaa
