/- ViewTells: the walk. -/
import Derived.Test.YtjbmljheepomnaaVX2
import Derived.Test.YtjbmljheepomnaaVRs
import Derived.Test.YtjbmljheepomnaaVD4
namespace Go.Proofs.Ytjbmljheepomnaa
open Go.RowKit

set_option maxRecDepth 100000 in
set_option maxHeartbeats 16000000 in
theorem viewTells_any {w : World} {cc cs ct : List Value} {c : CfX} {x y : StX} (hc : fE w cc c) (hx : sE w cs x) (hy : sE w ct y) (p : Int) (a : Nat) (ha : a < 18446744073709551616) :
    Calls Try.prog 3 #[.agg cc.toArray, .agg cs.toArray, .agg ct.toArray, .int .i64 p, .int .u64 (a : Int)] w fun e w' => e = .returned (.bool true) ∧ Below w.heap.size w w' := by
  have HFC := hd hc
  have HSX := hd hx
  have HSY := hd hy
  obtain ⟨v0, v1, v2, v3, v4, v5, v6, ecc, -, -⟩ := hc
  obtain ⟨sp, sq, ecs, -, -⟩ := hx
  obtain ⟨tp, tq, ect, -, -⟩ := hy
  subst ecc ecs ect
  obtain ⟨sk, hsk⟩ : ∃ k, Hid (x.tk = k) := ⟨_, rfl⟩
  obtain ⟨tk, htk⟩ : ∃ k, Hid (y.tk = k) := ⟨_, rfl⟩
  rw [hsk.out] at HSX ⊢
  rw [htk.out] at HSY ⊢
  have HC7 : Hid (fE w [v0, v1, v2, v3, v4, v5, v6] c) := HFC
  have HS3 : Hid (sE w [.int .i64 sk, sp, sq] x) := HSX
  have HT3 : Hid (sE w [.int .i64 tk, tp, tq] y) := HSY
  clear HFC HSX HSY
  go_enter Try.func3, Try.ntmps3
  go_upto_region 1 with fail
  obtain ⟨h1, h2, h3, h4, h5⟩ := three_al w (.cells #[v0, v1, v2, v3, v4, v5, v6] 26) (.cells #[.int .i64 sk, sp, sq] 30) (.cells #[.int .i64 tk, tp, tq] 30)
  obtain ⟨W0, hW0⟩ : ∃ W, Hid (((w.alloc (.cells #[v0, v1, v2, v3, v4, v5, v6] 26)).alloc (.cells #[.int .i64 sk, sp, sq] 30)).alloc (.cells #[.int .i64 tk, tp, tq] 30) = W) := ⟨_, rfl⟩
  rw [hW0.out] at h1 h2 h3 h4 h5 ⊢
  obtain ⟨B, hB⟩ : ∃ n, Hid (w.heap.size = n) := ⟨_, rfl⟩
  rw [hB.out] at h1 h2 h3 h4 ⊢
  obtain ⟨B1, hB1⟩ : ∃ n, Hid (B + 1 = n) := ⟨_, rfl⟩
  obtain ⟨B2, hB2⟩ : ∃ n, Hid (B + 2 = n) := ⟨_, rfl⟩
  (try rw [show B + 1 + 1 = B + 2 from rfl])
  rw [hB1.out] at h2 ⊢
  rw [hB2.out] at h3 ⊢
  have HBW := hd h5
  have HX : Hid (∀ V, Below W0.heap.size W0 V → V.cell? ⟨B, 0, none⟩ = some (v0) ∧ V.cell? ⟨B, 1, none⟩ = some (v1) ∧ V.cell? ⟨B, 2, none⟩ = some (v2) ∧ V.cell? ⟨B, 3, none⟩ = some (v3) ∧ V.cell? ⟨B, 4, none⟩ = some (v4) ∧ V.cell? ⟨B, 5, none⟩ = some (v5) ∧ V.cell? ⟨B, 6, none⟩ = some (v6) ∧ V.cell? ⟨B1, 0, none⟩ = some (.int .i64 sk) ∧ V.cell? ⟨B1, 1, none⟩ = some (sp) ∧ V.cell? ⟨B1, 2, none⟩ = some (sq) ∧ V.cell? ⟨B2, 0, none⟩ = some (.int .i64 tk) ∧ V.cell? ⟨B2, 1, none⟩ = some (tp) ∧ V.cell? ⟨B2, 2, none⟩ = some (tq)) := hd (fun V hb => by
    have v1 := (hb.block B (Array.getElem?_eq_some_iff.1 h1).1).trans h1
    have v2 := (hb.block B1 (Array.getElem?_eq_some_iff.1 h2).1).trans h2
    have v3 := (hb.block B2 (Array.getElem?_eq_some_iff.1 h3).1).trans h3
    exact ⟨box_at1 v1 rfl, box_at1 v1 rfl, box_at1 v1 rfl, box_at1 v1 rfl, box_at1 v1 rfl, box_at1 v1 rfl, box_at1 v1 rfl, box_at1 v2 rfl, box_at1 v2 rfl, box_at1 v2 rfl, box_at1 v3 rfl, box_at1 v3 rfl, box_at1 v3 rfl⟩)
  have HW : Hid (∀ V, Below W0.heap.size W0 V → Below w.heap.size w V) := hd (fun V hb => HBW.out.trans (hb.mono HBW.out.size))
  have haw := awake_any W0
  clear h1 h2 h3 h4 h5 hW0
  go_upto_region 3 with (go_at_call 6; refine haw.mono ?_; rintro e w1 ⟨rfl, hb1⟩; have HB1x := hd hb1; clear hb1)
  clear haw
  obtain ⟨x0, x1, x2, x3, x4, x5, x6, x7, x8, x9, x10, x11, x12⟩ := HX.out w1 HB1x.out
  have hf1 := few_any (HS3.out.below (HW.out w1 HB1x.out))
  go_wp2_with fail
  refine hf1.mono ?_
  rintro e w2 ⟨b1, rfl, hb1, hw2⟩
  have HB2x := hd (HB1x.out.trans (hw2.mono HB1x.out.size))
  clear x0 x1 x2 x3 x4 x5 x6 x7 x8 x9 x10 x11 x12 hf1 hw2
  cases b1
  · go_wp2_with fail
    go_ret
    exact ⟨rfl, HW.out _ HB2x.out⟩
  have HF1 := hd (hb1 rfl)
  clear hb1
  obtain ⟨x0, x1, x2, x3, x4, x5, x6, x7, x8, x9, x10, x11, x12⟩ := HX.out w2 HB2x.out
  have hf2 := few_any (HT3.out.below (HW.out w2 HB2x.out))
  go_wp2_with fail
  refine hf2.mono ?_
  rintro e w3 ⟨b2, rfl, hb2, hw3⟩
  have HB3x := hd (HB2x.out.trans (hw3.mono HB2x.out.size))
  clear x0 x1 x2 x3 x4 x5 x6 x7 x8 x9 x10 x11 x12 hf2 hw3
  cases b2
  · go_wp2_with fail
    go_ret
    exact ⟨rfl, HW.out _ HB3x.out⟩
  clear hb2
  have HOF : Hid (∀ V, Below W0.heap.size W0 V → Calls Try.prog 9 #[.agg #[v0, v1, v2, v3, v4, v5, v6], .agg #[.int .i64 sk, sp, sq], .int .u64 (a : Int)] V (OfOut V (ofX c a x))) := hd (fun V hb => of_any (HC7.out.below (HW.out V hb)) (HS3.out.below (HW.out V hb)) HF1.out a ha)
  have HRO : Hid (∀ V, Below W0.heap.size W0 V → Calls Try.prog 10 #[.agg #[v0, v1, v2, v3, v4, v5, v6], .agg #[.int .i64 sk, sp, sq], .int .u64 (a : Int)] V (ROfOut V (ofX c a x))) := hd (fun V hb => rof_any (HC7.out.below (HW.out V hb)) (HS3.out.below (HW.out V hb)) HF1.out.1 HF1.out.2.1 a ha)
  have HSE : Hid (∀ V, Below W0.heap.size W0 V → Calls Try.prog 11 #[.agg #[v0, v1, v2, v3, v4, v5, v6], .int .i64 p, .int .u64 (a : Int)] V fun e w' => e = .returned (.bool (seesQ c a p)) ∧ Below V.heap.size V w') := hd (fun V hb => sees_any (HC7.out.below (HW.out V hb)) p a ha)
  have HRS : Hid (∀ V, Below W0.heap.size W0 V → Calls Try.prog 12 #[.agg #[v0, v1, v2, v3, v4, v5, v6], .int .i64 p, .int .u64 (a : Int)] V fun e w' => e = .returned (.bool (seesQ c a p)) ∧ Below V.heap.size V w') := hd (fun V hb => rsees_any (HC7.out.below (HW.out V hb)) p a ha)
  have HST : Hid (∀ V, Below W0.heap.size W0 V → Calls Try.prog 13 #[.agg #[.int .i64 sk, sp, sq], .agg #[.int .i64 tk, tp, tq]] V fun e w' => e = .returned (.bool (dec (x = y))) ∧ Below V.heap.size V w') := hd (fun V hb => same_any (HS3.out.below (HW.out V hb)) (HT3.out.below (HW.out V hb)))
  have HRT : Hid (∀ V, Below W0.heap.size W0 V → Calls Try.prog 8 #[.agg #[.int .i64 sk, sp, sq], .agg #[.int .i64 tk, tp, tq]] V fun e w' => e = .returned (.bool (dec (x = y))) ∧ Below V.heap.size V w') := hd (fun V hb => rsame_any (HS3.out.below (HW.out V hb)) (HT3.out.below (HW.out V hb)))
  have HSS : Hid (∀ V, Below W0.heap.size W0 V → Calls Try.prog 13 #[.agg #[.int .i64 sk, sp, sq], .agg #[.int .i64 sk, sp, sq]] V fun e w' => e = .returned (.bool true) ∧ Below V.heap.size V w') := hd (fun V hb => by
    have := same_any (HS3.out.below (HW.out V hb)) (HS3.out.below (HW.out V hb))
    rw [dec_yes rfl] at this
    exact this)
  have HCP : Hid (∀ V, Below W0.heap.size W0 V → Calls Try.prog 14 #[.agg #[.int .i64 sk, sp, sq]] V (ROfOut V x)) := hd (fun V hb => copyState_any (HS3.out.below (HW.out V hb)) HF1.out)
  have HSA : Hid (∀ V k1 k2 z, Below W0.heap.size W0 V → sE V k1 z → sE V k2 z → Calls Try.prog 8 #[.agg k1.toArray, .agg k2.toArray] V fun e w' => e = .returned (.bool true) ∧ Below V.heap.size V w') := hd (fun V k1 k2 z hb e1 e2 => by
    have := rsame_any e1 e2
    rw [dec_yes rfl] at this
    exact this)
  have HSB : Hid (∀ V k2, Below W0.heap.size W0 V → sE V k2 x → Calls Try.prog 13 #[.agg #[.int .i64 sk, sp, sq], .agg k2.toArray] V fun e w' => e = .returned (.bool true) ∧ Below V.heap.size V w') := hd (fun V k2 hb e2 => by
    have := same_any (HS3.out.below (HW.out V hb)) e2
    rw [dec_yes rfl] at this
    exact this)
  generalize dec (x = y) = r2 at *
  generalize seesQ c a p = r1 at *
  clear hsk htk HC7 HT3
  obtain ⟨x0, x1, x2, x3, x4, x5, x6, x7, x8, x9, x10, x11, x12⟩ := HX.out w3 HB3x.out
  go_upto_region 5 with fail
  have HB4x : Hid (Below W0.heap.size W0 w3.drew) := hd (HB3x.out.trans ((bel_drew w3).mono HB3x.out.size))
  go_cut [10] (fun v10 wy => v10 = .bool true ∧ Hid (Below W0.heap.size W0 wy))
  case first =>
    go_region_held3 (fun w' => w'.cell? ⟨B, 0, none⟩ = some (v0) ∧ w'.cell? ⟨B, 1, none⟩ = some (v1) ∧ w'.cell? ⟨B, 2, none⟩ = some (v2) ∧ w'.cell? ⟨B, 3, none⟩ = some (v3) ∧ w'.cell? ⟨B, 4, none⟩ = some (v4) ∧ w'.cell? ⟨B, 5, none⟩ = some (v5) ∧ w'.cell? ⟨B, 6, none⟩ = some (v6) ∧ w'.cell? ⟨B1, 0, none⟩ = some (.int .i64 sk) ∧ w'.cell? ⟨B1, 1, none⟩ = some (sp) ∧ w'.cell? ⟨B1, 2, none⟩ = some (sq) ∧ w'.cell? ⟨B2, 0, none⟩ = some (.int .i64 tk) ∧ w'.cell? ⟨B2, 1, none⟩ = some (tp) ∧ w'.cell? ⟨B2, 2, none⟩ = some (tq)) (go_keep)
      (first
        | (go_at_call 9; (with_reducible refine (HOF.out _ HB4x.out).mono ?_); rintro e u1 ⟨cs1, rfl, hso, bu1⟩; have bv1 := hd (HB4x.out.trans (bu1.mono HB4x.out.size)); obtain ⟨k1_0, k1_1, k1_2, k1_3, k1_4, k1_5, k1_6, k1_7, k1_8, k1_9, k1_10, k1_11, k1_12⟩ := HX.out u1 bv1.out; have hs1 := hd hso.rd; clear hso; replace bu1 := hd bu1)
        | (go_at_call 10; (with_reducible refine (HRO.out _ bv1.out).mono ?_); rintro e u2 ⟨cs2, rfl, hse, bu2⟩; have bv2 := hd (bv1.out.trans (bu2.mono bv1.out.size)); obtain ⟨k2_0, k2_1, k2_2, k2_3, k2_4, k2_5, k2_6, k2_7, k2_8, k2_9, k2_10, k2_11, k2_12⟩ := HX.out u2 bv2.out; have hs2 := hd hse; have hs3 := hd (hs1.out.below bu2); clear hse; replace bu2 := hd bu2)
        | (go_at_call 8; (with_reducible refine (HSA.out _ _ _ _ bv2.out hs3.out hs2.out).mono ?_); rintro e u3 ⟨rfl, bu3⟩; have bv3 := hd (bv2.out.trans (bu3.mono bv2.out.size)); obtain ⟨k3_0, k3_1, k3_2, k3_3, k3_4, k3_5, k3_6, k3_7, k3_8, k3_9, k3_10, k3_11, k3_12⟩ := HX.out u3 bv3.out; replace bu3 := hd bu3)
        | (go_at_call 11; (with_reducible refine (HSE.out _ bv3.out).mono ?_); rintro e u4 ⟨rfl, bu4⟩; have bv4 := hd (bv3.out.trans (bu4.mono bv3.out.size)); obtain ⟨k4_0, k4_1, k4_2, k4_3, k4_4, k4_5, k4_6, k4_7, k4_8, k4_9, k4_10, k4_11, k4_12⟩ := HX.out u4 bv4.out; replace bu4 := hd bu4)
        | (go_at_call 12; (with_reducible refine (HRS.out _ bv4.out).mono ?_); rintro e u5 ⟨rfl, bu5⟩; have bv5 := hd (bv4.out.trans (bu5.mono bv4.out.size)); obtain ⟨k5_0, k5_1, k5_2, k5_3, k5_4, k5_5, k5_6, k5_7, k5_8, k5_9, k5_10, k5_11, k5_12⟩ := HX.out u5 bv5.out; replace bu5 := hd bu5)
        | (go_at_call 13; (with_reducible refine (HST.out _ bv5.out).mono ?_); rintro e u6 ⟨rfl, bu6⟩; have bv6 := hd (bv5.out.trans (bu6.mono bv5.out.size)); obtain ⟨k6_0, k6_1, k6_2, k6_3, k6_4, k6_5, k6_6, k6_7, k6_8, k6_9, k6_10, k6_11, k6_12⟩ := HX.out u6 bv6.out; replace bu6 := hd bu6)
        | (go_at_call 8; (with_reducible refine (HRT.out _ bv6.out).mono ?_); rintro e u7 ⟨rfl, bu7⟩; have bv7 := hd (bv6.out.trans (bu7.mono bv6.out.size)); obtain ⟨k7_0, k7_1, k7_2, k7_3, k7_4, k7_5, k7_6, k7_7, k7_8, k7_9, k7_10, k7_11, k7_12⟩ := HX.out u7 bv7.out; replace bu7 := hd bu7)
        | (go_at_call 13; (with_reducible refine (HSS.out _ bv7.out).mono ?_); rintro e u8 ⟨rfl, bu8⟩; have bv8 := hd (bv7.out.trans (bu8.mono bv7.out.size)); obtain ⟨k8_0, k8_1, k8_2, k8_3, k8_4, k8_5, k8_6, k8_7, k8_8, k8_9, k8_10, k8_11, k8_12⟩ := HX.out u8 bv8.out; replace bu8 := hd bu8)
        | (go_at_call 14; (with_reducible refine (HCP.out _ bv8.out).mono ?_); rintro e u9 ⟨cs9, rfl, hse9, bu9⟩; have bv9 := hd (bv8.out.trans (bu9.mono bv8.out.size)); obtain ⟨k9_0, k9_1, k9_2, k9_3, k9_4, k9_5, k9_6, k9_7, k9_8, k9_9, k9_10, k9_11, k9_12⟩ := HX.out u9 bv9.out; have hs9 := hd hse9; clear hse9; replace bu9 := hd bu9)
        | (go_at_call 13; (with_reducible refine (HSB.out _ _ bv9.out hs9.out).mono ?_); rintro e u10 ⟨rfl, bu10⟩; have bv10 := hd (bv9.out.trans (bu10.mono bv9.out.size)); obtain ⟨k10_0, k10_1, k10_2, k10_3, k10_4, k10_5, k10_6, k10_7, k10_8, k10_9, k10_10, k10_11, k10_12⟩ := HX.out u10 bv10.out; replace bu10 := hd bu10))
    all_goals (
      go_wp2_with fail
      go_meet
      case rel => exact ⟨rfl, bv10⟩)
  case rest =>
    obtain ⟨rfl, hbc⟩ := hcut
    go_wp2_with fail
    go_ret
    exact ⟨rfl, HW.out _ hbc.out⟩
end Go.Proofs.Ytjbmljheepomnaa
