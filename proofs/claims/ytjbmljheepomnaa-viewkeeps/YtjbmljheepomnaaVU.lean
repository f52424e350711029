/- ViewFollows: the walk. -/
import Derived.Test.YtjbmljheepomnaaVX2
namespace Go.Proofs.Ytjbmljheepomnaa
open Go.RowKit

theorem StFew.of {c : CfX} {a : Nat} {x : StX} (h : StFew x) : StFew (ofX c a x) := by
  obtain ⟨h1, h2, h3, h4⟩ := h
  refine ⟨by show (cutL _ _ _ _).length ≤ _; rw [cut_len]; exact h1, by show (cutL _ _ _ _).length ≤ _; rw [cut_len]; exact h2, fun j => ?_, fun j => ?_⟩
  · by_cases hj : j < x.ps.length
    · show PtFew ((cutL _ _ _ _).getD j default)
      rw [cut_at _ _ _ _ _ _ hj]
      split
      · exact h3 j
      · exact PtFew.zero
    · rw [getD_big (by show (cutL _ _ _ _).length ≤ j; rw [cut_len]; omega)]
      exact PtFew.zero
  · by_cases hj : j < x.qs.length
    · show PrFew ((cutL _ _ _ _).getD j default)
      rw [cut_at _ _ _ _ _ _ hj]
      split
      · exact h4 j
      · exact PrFew.zero
    · rw [getD_big (by show (cutL _ _ _ _).length ≤ j; rw [cut_len]; omega)]
      exact PrFew.zero
theorem two_al' (w : World) (o1 o2 : Obj) : ((w.alloc o1).alloc o2).heap[w.heap.size]? = some o1 ∧ ((w.alloc o1).alloc o2).heap[w.heap.size + 1]? = some o2 ∧ Below w.heap.size w ((w.alloc o1).alloc o2) := by
  have s1 : (w.alloc o1).heap.size = w.heap.size + 1 := by simp
  have h1 := heap_alloc_new w o1
  have h2 := heap_alloc_new (w.alloc o1) o2
  rw [s1] at h2
  have b2 := below_al (w.alloc o1) o2
  exact ⟨(b2.block _ (by omega)).trans h1, h2, (below_al w o1).alloc (by omega) o2⟩
set_option maxRecDepth 100000 in
set_option maxHeartbeats 16000000 in
theorem viewFollows_any {w : World} {cc cs : List Value} {c : CfX} {x : StX} (hc : fE w cc c) (hx : sE w cs x) (a b : Nat) (ha : a < 18446744073709551616) (hb0 : b < 18446744073709551616) (p : Int) :
    Calls Try.prog 4 #[.agg cc.toArray, .agg cs.toArray, .int .u64 (a : Int), .int .u64 (b : Int), .int .i64 p] w fun e w' => e = .returned (.bool true) ∧ Below w.heap.size w w' := by
  have HFC := hd hc
  have HSX := hd hx
  obtain ⟨v0, v1, v2, v3, v4, v5, v6, ecc, -, -⟩ := hc
  obtain ⟨sp, sq, ecs, -, -⟩ := hx
  subst ecc ecs
  obtain ⟨sk, hsk⟩ : ∃ k, Hid (x.tk = k) := ⟨_, rfl⟩
  rw [hsk.out] at HSX ⊢
  have HC7 : Hid (fE w [v0, v1, v2, v3, v4, v5, v6] c) := HFC
  have HS3 : Hid (sE w [.int .i64 sk, sp, sq] x) := HSX
  clear HFC HSX
  have hab : (a &&& b) < 18446744073709551616 := Nat.lt_of_le_of_lt Nat.and_le_left ha
  have eab := u64_and_nat a b ha hb0
  have hlow := of_low c a b x
  have hof := of_of c a x
  have hhigh := of_high c a b x
  have hmore := sees_more c a b p
  obtain ⟨ab, heab⟩ : ∃ n, Hid (a &&& b = n) := ⟨_, rfl⟩
  rw [heab.out] at hab eab hlow hhigh hmore
  have HLOW := hd hlow
  have HOFF := hd hof
  have HHIGH := hd hhigh
  have HMORE := hd hmore
  clear hlow hof hhigh hmore
  go_enter Try.func4, Try.ntmps4
  go_upto_region 1 with fail
  obtain ⟨h1, h2, h5⟩ := two_al' w (.cells #[v0, v1, v2, v3, v4, v5, v6] 26) (.cells #[.int .i64 sk, sp, sq] 30)
  obtain ⟨W0, hW0⟩ : ∃ W, Hid ((w.alloc (.cells #[v0, v1, v2, v3, v4, v5, v6] 26)).alloc (.cells #[.int .i64 sk, sp, sq] 30) = W) := ⟨_, rfl⟩
  rw [hW0.out] at h1 h2 h5 ⊢
  obtain ⟨B, hB⟩ : ∃ n, Hid (w.heap.size = n) := ⟨_, rfl⟩
  rw [hB.out] at h1 h2 ⊢
  obtain ⟨B1, hB1⟩ : ∃ n, Hid (B + 1 = n) := ⟨_, rfl⟩
  rw [hB1.out] at h2 ⊢
  have HBW := hd h5
  have HX : Hid (∀ V, Below W0.heap.size W0 V → V.cell? ⟨B, 0, none⟩ = some (v0) ∧ V.cell? ⟨B, 1, none⟩ = some (v1) ∧ V.cell? ⟨B, 2, none⟩ = some (v2) ∧ V.cell? ⟨B, 3, none⟩ = some (v3) ∧ V.cell? ⟨B, 4, none⟩ = some (v4) ∧ V.cell? ⟨B, 5, none⟩ = some (v5) ∧ V.cell? ⟨B, 6, none⟩ = some (v6) ∧ V.cell? ⟨B1, 0, none⟩ = some (.int .i64 sk) ∧ V.cell? ⟨B1, 1, none⟩ = some (sp) ∧ V.cell? ⟨B1, 2, none⟩ = some (sq)) := hd (fun V hb => by
    have v1 := (hb.block B (Array.getElem?_eq_some_iff.1 h1).1).trans h1
    have v2 := (hb.block B1 (Array.getElem?_eq_some_iff.1 h2).1).trans h2
    exact ⟨box_at1 v1 rfl, box_at1 v1 rfl, box_at1 v1 rfl, box_at1 v1 rfl, box_at1 v1 rfl, box_at1 v1 rfl, box_at1 v1 rfl, box_at1 v2 rfl, box_at1 v2 rfl, box_at1 v2 rfl⟩)
  have HW : Hid (∀ V, Below W0.heap.size W0 V → Below w.heap.size w V) := hd (fun V hb => HBW.out.trans (hb.mono HBW.out.size))
  have haw := awake_any W0
  clear h1 h2 h5 hW0
  go_upto_region 3 with (go_at_call 6; refine haw.mono ?_; rintro e w1 ⟨rfl, hb1⟩; have HB1x := hd hb1; clear hb1)
  clear haw
  obtain ⟨x0, x1, x2, x3, x4, x5, x6, x7, x8, x9⟩ := HX.out w1 HB1x.out
  have hf1 := few_any (HS3.out.below (HW.out w1 HB1x.out))
  go_wp2_with fail
  refine hf1.mono ?_
  rintro e w2 ⟨b1, rfl, hb1, hw2⟩
  have HB2x := hd (HB1x.out.trans (hw2.mono HB1x.out.size))
  clear x0 x1 x2 x3 x4 x5 x6 x7 x8 x9 hf1 hw2
  cases b1
  · go_wp2_with fail
    go_ret
    exact ⟨rfl, HW.out _ HB2x.out⟩
  have HF1 := hd (hb1 rfl)
  clear hb1
  obtain ⟨x0, x1, x2, x3, x4, x5, x6, x7, x8, x9⟩ := HX.out w2 HB2x.out
  have hof1 := of_any (HC7.out.below (HW.out w2 HB2x.out)) (HS3.out.below (HW.out w2 HB2x.out)) HF1.out a ha
  obtain ⟨z1, hz1⟩ : ∃ z, Hid (ofX c a x = z) := ⟨_, rfl⟩
  obtain ⟨z2, hz2⟩ : ∃ z, Hid (ofX c ab x = z) := ⟨_, rfl⟩
  have HFZ1 : Hid (StFew z1) := hd (by rw [← hz1.out]; exact HF1.out.of)
  have HFZ2 : Hid (StFew z2) := hd (by rw [← hz2.out]; exact HF1.out.of)
  rw [hz1.out] at hof1 HLOW HOFF
  rw [hz2.out] at HLOW HHIGH
  go_upto_region 6 with (go_at_call 9; (with_reducible refine hof1.mono ?_); rintro e w3 ⟨cs1, rfl, hso, hb3⟩; have hse := hso.rd; obtain ⟨oa, oc, -, -, oa2, oc2, -, -, ecs, -⟩ := hso; subst ecs; have HO1 := hd hse; have HB3x := hd (HB2x.out.trans (hb3.mono HB2x.out.size)); clear hse hb3)
  clear x0 x1 x2 x3 x4 x5 x6 x7 x8 x9 hof1
  have hal := heap_alloc_new w3 (.cells #[.int .i64 z1.tk, .slice oa z1.ps.length oc, .slice oa2 z1.qs.length oc2] 30)
  have hbl := below_al w3 (.cells #[.int .i64 z1.tk, .slice oa z1.ps.length oc, .slice oa2 z1.qs.length oc2] 30)
  obtain ⟨w4, hw4⟩ : ∃ W, Hid (w3.alloc (.cells #[.int .i64 z1.tk, .slice oa z1.ps.length oc, .slice oa2 z1.qs.length oc2] 30) = W) := ⟨_, rfl⟩
  rw [hw4.out] at hal hbl ⊢
  obtain ⟨X1, hX1⟩ : ∃ n, Hid (w3.heap.size = n) := ⟨_, rfl⟩
  rw [hX1.out] at hal ⊢
  have HAL1 := hd hal
  have HBL1 := hd hbl
  have HB4x : Hid (Below W0.heap.size W0 w4) := hd (HB3x.out.trans (hbl.mono HB3x.out.size))
  clear hal hbl hw4
  obtain ⟨x0, x1, x2, x3, x4, x5, x6, x7, x8, x9⟩ := HX.out w4 HB4x.out
  have hof2 := of_any (HC7.out.below (HW.out w4 HB4x.out)) (HS3.out.below (HW.out w4 HB4x.out)) HF1.out ab hab
  rw [hz2.out] at hof2
  go_upto_region 7 with (go_at_call 9; (with_reducible refine hof2.mono ?_); rintro e w5 ⟨cs2, rfl, hso, hb5⟩; have hse := hso.rd; obtain ⟨la, lc, -, -, la2, lc2, -, -, ecs, -⟩ := hso; subst ecs; have HL1 := hd hse; have HB45 := hd hb5; clear hse hb5)
  clear x0 x1 x2 x3 x4 x5 x6 x7 x8 x9 hof2
  have hal := heap_alloc_new w5 (.cells #[.int .i64 z2.tk, .slice la z2.ps.length lc, .slice la2 z2.qs.length lc2] 30)
  have hbl := below_al w5 (.cells #[.int .i64 z2.tk, .slice la z2.ps.length lc, .slice la2 z2.qs.length lc2] 30)
  obtain ⟨w6, hw6⟩ : ∃ W, Hid (w5.alloc (.cells #[.int .i64 z2.tk, .slice la z2.ps.length lc, .slice la2 z2.qs.length lc2] 30) = W) := ⟨_, rfl⟩
  rw [hw6.out] at hal hbl ⊢
  obtain ⟨X2, hX2⟩ : ∃ n, Hid (w5.heap.size = n) := ⟨_, rfl⟩
  rw [hX2.out] at hal ⊢
  have HB46 : Hid (Below w4.heap.size w4 w6) := hd (HB45.out.trans (hbl.mono HB45.out.size))
  have HB6x : Hid (Below W0.heap.size W0 w6) := hd (HB4x.out.trans (HB46.out.mono HB4x.out.size))
  have HO6 : Hid (sE w6 [.int .i64 z1.tk, .slice oa z1.ps.length oc, .slice oa2 z1.qs.length oc2] z1) := hd (HO1.out.below (HBL1.out.trans (HB46.out.mono HBL1.out.size)))
  have HL6 : Hid (sE w6 [.int .i64 z2.tk, .slice la z2.ps.length lc, .slice la2 z2.qs.length lc2] z2) := hd (HL1.out.below hbl)
  have HY : Hid (∀ V, Below w6.heap.size w6 V → (V.cell? ⟨B, 0, none⟩ = some (v0) ∧ V.cell? ⟨B, 1, none⟩ = some (v1) ∧ V.cell? ⟨B, 2, none⟩ = some (v2) ∧ V.cell? ⟨B, 3, none⟩ = some (v3) ∧ V.cell? ⟨B, 4, none⟩ = some (v4) ∧ V.cell? ⟨B, 5, none⟩ = some (v5) ∧ V.cell? ⟨B, 6, none⟩ = some (v6) ∧ V.cell? ⟨X1, 0, none⟩ = some (.int .i64 z1.tk) ∧ V.cell? ⟨X1, 1, none⟩ = some (.slice oa z1.ps.length oc) ∧ V.cell? ⟨X1, 2, none⟩ = some (.slice oa2 z1.qs.length oc2) ∧ V.cell? ⟨X2, 0, none⟩ = some (.int .i64 z2.tk) ∧ V.cell? ⟨X2, 1, none⟩ = some (.slice la z2.ps.length lc) ∧ V.cell? ⟨X2, 2, none⟩ = some (.slice la2 z2.qs.length lc2)) ∧ Below W0.heap.size W0 V) := hd (fun V hb => by
    have hb0 := HB6x.out.trans (hb.mono HB6x.out.size)
    obtain ⟨x0, x1, x2, x3, x4, x5, x6, x7, x8, x9⟩ := HX.out V hb0
    have hb4 := HB46.out.trans (hb.mono HB46.out.size)
    have v2 := (hb4.block X1 (Array.getElem?_eq_some_iff.1 HAL1.out).1).trans HAL1.out
    have v3 := (hb.block X2 (Array.getElem?_eq_some_iff.1 hal).1).trans hal
    exact ⟨⟨x0, x1, x2, x3, x4, x5, x6, box_at1 v2 rfl, box_at1 v2 rfl, box_at1 v2 rfl, box_at1 v3 rfl, box_at1 v3 rfl, box_at1 v3 rfl⟩, hb0⟩)
  clear hal hbl hw6
  have HSA : Hid (∀ V, Below W0.heap.size W0 V → Calls Try.prog 11 #[.agg #[v0, v1, v2, v3, v4, v5, v6], .int .i64 p, .int .u64 (ab : Int)] V fun e w' => e = .returned (.bool (seesQ c ab p)) ∧ Below V.heap.size V w') := hd (fun V hb => sees_any (HC7.out.below (HW.out V hb)) p ab hab)
  have HSB : Hid (∀ V, Below W0.heap.size W0 V → Calls Try.prog 11 #[.agg #[v0, v1, v2, v3, v4, v5, v6], .int .i64 p, .int .u64 (a : Int)] V fun e w' => e = .returned (.bool (seesQ c a p)) ∧ Below V.heap.size V w') := hd (fun V hb => sees_any (HC7.out.below (HW.out V hb)) p a ha)
  have HA1 : Hid (∀ V, Below w6.heap.size w6 V → Calls Try.prog 9 #[.agg #[v0, v1, v2, v3, v4, v5, v6], .agg #[.int .i64 z1.tk, .slice oa z1.ps.length oc, .slice oa2 z1.qs.length oc2], .int .u64 (a : Int)] V (OfOut V z1)) := hd (fun V hb => by
    have := of_any (HC7.out.below (HW.out V (HY.out V hb).2)) (HO6.out.below hb) HFZ1.out a ha
    rw [HOFF.out] at this
    exact this)
  have HA2 : Hid (∀ V, Below w6.heap.size w6 V → Calls Try.prog 9 #[.agg #[v0, v1, v2, v3, v4, v5, v6], .agg #[.int .i64 z1.tk, .slice oa z1.ps.length oc, .slice oa2 z1.qs.length oc2], .int .u64 (ab : Int)] V (OfOut V z2)) := hd (fun V hb => by
    have := of_any (HC7.out.below (HW.out V (HY.out V hb).2)) (HO6.out.below hb) HFZ1.out ab hab
    rw [HLOW.out] at this
    exact this)
  have HA3 : Hid (∀ V, Below w6.heap.size w6 V → Calls Try.prog 9 #[.agg #[v0, v1, v2, v3, v4, v5, v6], .agg #[.int .i64 z2.tk, .slice la z2.ps.length lc, .slice la2 z2.qs.length lc2], .int .u64 (a : Int)] V (OfOut V z2)) := hd (fun V hb => by
    have := of_any (HC7.out.below (HW.out V (HY.out V hb).2)) (HL6.out.below hb) HFZ2.out a ha
    rw [HHIGH.out] at this
    exact this)
  have HM1 : Hid (∀ V k1, Below w6.heap.size w6 V → sE V k1 z1 → Calls Try.prog 13 #[.agg k1.toArray, .agg #[.int .i64 z1.tk, .slice oa z1.ps.length oc, .slice oa2 z1.qs.length oc2]] V fun e w' => e = .returned (.bool true) ∧ Below V.heap.size V w') := hd (fun V k1 hb e1 => by
    have := same_any e1 (HO6.out.below hb)
    rw [dec_yes rfl] at this
    exact this)
  have HM2 : Hid (∀ V k1, Below w6.heap.size w6 V → sE V k1 z2 → Calls Try.prog 13 #[.agg k1.toArray, .agg #[.int .i64 z2.tk, .slice la z2.ps.length lc, .slice la2 z2.qs.length lc2]] V fun e w' => e = .returned (.bool true) ∧ Below V.heap.size V w') := hd (fun V k1 hb e1 => by
    have := same_any e1 (HL6.out.below hb)
    rw [dec_yes rfl] at this
    exact this)
  obtain ⟨r1, hr1⟩ : ∃ r, Hid (seesQ c ab p = r) := ⟨_, rfl⟩
  obtain ⟨r2, hr2⟩ : ∃ r, Hid (seesQ c a p = r) := ⟨_, rfl⟩
  rw [hr1.out] at HMORE HSA
  rw [hr2.out] at HMORE HSB
  clear hr1 hr2 hz1 hz2 hsk heab HO1 HL1 HBL1 HAL1 HB45 HB3x HB2x HB1x HF1 HC7 HS3 HLOW HOFF HHIGH HFZ1 HFZ2
  have HBS : Hid (Below w6.heap.size w6 w6) := hd (below_same _)
  obtain ⟨⟨x0, x1, x2, x3, x4, x5, x6, x7, x8, x9, x10, x11, x12⟩, -⟩ := HY.out w6 HBS.out
  go_upto_region 8 with (go_at_call 11; (with_reducible refine (HSA.out w6 HB6x.out).mono ?_); rintro e w7 ⟨rfl, hb7⟩; have HB7 := hd hb7; clear hb7)
  clear x0 x1 x2 x3 x4 x5 x6 x7 x8 x9 x10 x11 x12
  obtain ⟨⟨x0, x1, x2, x3, x4, x5, x6, x7, x8, x9, x10, x11, x12⟩, hbq⟩ := HY.out w7 HB7.out
  have HBQ := hd hbq
  clear hbq
  go_upto_region 9 with (go_at_call 11; (with_reducible refine (HSB.out w7 HBQ.out).mono ?_); rintro e w8 ⟨rfl, hb8⟩; have HB8 := hd (HB7.out.trans (hb8.mono HB7.out.size)); clear hb8)
  clear x0 x1 x2 x3 x4 x5 x6 x7 x8 x9 x10 x11 x12 HSA HSB HBQ HB7
  obtain ⟨⟨x0, x1, x2, x3, x4, x5, x6, x7, x8, x9, x10, x11, x12⟩, -⟩ := HY.out w8 HB8.out
  have HB9x : Hid (Below w6.heap.size w6 w8.drew) := hd (HB8.out.trans ((bel_drew w8).mono HB8.out.size))
  have hmr := HMORE.out
  cases r1
  case true =>
    obtain rfl : r2 = true := by simpa using hmr
    clear hmr HMORE
    go_cut [10] (fun v10 wy => v10 = .bool true ∧ Hid (Below w6.heap.size w6 wy))
    case first =>
      go_region_held3 (fun w' => w'.cell? ⟨B, 0, none⟩ = some (v0) ∧ w'.cell? ⟨B, 1, none⟩ = some (v1) ∧ w'.cell? ⟨B, 2, none⟩ = some (v2) ∧ w'.cell? ⟨B, 3, none⟩ = some (v3) ∧ w'.cell? ⟨B, 4, none⟩ = some (v4) ∧ w'.cell? ⟨B, 5, none⟩ = some (v5) ∧ w'.cell? ⟨B, 6, none⟩ = some (v6) ∧ w'.cell? ⟨X1, 0, none⟩ = some (.int .i64 z1.tk) ∧ w'.cell? ⟨X1, 1, none⟩ = some (.slice oa z1.ps.length oc) ∧ w'.cell? ⟨X1, 2, none⟩ = some (.slice oa2 z1.qs.length oc2) ∧ w'.cell? ⟨X2, 0, none⟩ = some (.int .i64 z2.tk) ∧ w'.cell? ⟨X2, 1, none⟩ = some (.slice la z2.ps.length lc) ∧ w'.cell? ⟨X2, 2, none⟩ = some (.slice la2 z2.qs.length lc2)) (go_keep)
        (first
          | (go_at_call 9; (with_reducible refine (HA1.out _ HB9x.out).mono ?_); rintro e u1 ⟨cs5, rfl, hso, bu1⟩; have bv1 := hd (HB9x.out.trans (bu1.mono HB9x.out.size)); obtain ⟨⟨k1_0, k1_1, k1_2, k1_3, k1_4, k1_5, k1_6, k1_7, k1_8, k1_9, k1_10, k1_11, k1_12⟩, -⟩ := HY.out u1 bv1.out; have hs1 := hd hso.rd; clear hso; replace bu1 := hd bu1)
          | (go_at_call 13; (with_reducible refine (HM1.out _ _ bv1.out hs1.out).mono ?_); rintro e u2 ⟨rfl, bu2⟩; have bv2 := hd (bv1.out.trans (bu2.mono bv1.out.size)); obtain ⟨⟨k2_0, k2_1, k2_2, k2_3, k2_4, k2_5, k2_6, k2_7, k2_8, k2_9, k2_10, k2_11, k2_12⟩, -⟩ := HY.out u2 bv2.out; replace bu2 := hd bu2)
          | (go_at_call 9; (with_reducible refine (HA2.out _ bv2.out).mono ?_); rintro e u3 ⟨cs6, rfl, hso, bu3⟩; have bv3 := hd (bv2.out.trans (bu3.mono bv2.out.size)); obtain ⟨⟨k3_0, k3_1, k3_2, k3_3, k3_4, k3_5, k3_6, k3_7, k3_8, k3_9, k3_10, k3_11, k3_12⟩, -⟩ := HY.out u3 bv3.out; have hs3 := hd hso.rd; clear hso; replace bu3 := hd bu3)
          | (go_at_call 13; (with_reducible refine (HM2.out _ _ bv3.out hs3.out).mono ?_); rintro e u4 ⟨rfl, bu4⟩; have bv4 := hd (bv3.out.trans (bu4.mono bv3.out.size)); obtain ⟨⟨k4_0, k4_1, k4_2, k4_3, k4_4, k4_5, k4_6, k4_7, k4_8, k4_9, k4_10, k4_11, k4_12⟩, -⟩ := HY.out u4 bv4.out; replace bu4 := hd bu4)
          | (go_at_call 9; (with_reducible refine (HA3.out _ bv4.out).mono ?_); rintro e u5 ⟨cs7, rfl, hso, bu5⟩; have bv5 := hd (bv4.out.trans (bu5.mono bv4.out.size)); obtain ⟨⟨k5_0, k5_1, k5_2, k5_3, k5_4, k5_5, k5_6, k5_7, k5_8, k5_9, k5_10, k5_11, k5_12⟩, -⟩ := HY.out u5 bv5.out; have hs5 := hd hso.rd; clear hso; replace bu5 := hd bu5)
          | (go_at_call 13; (with_reducible refine (HM2.out _ _ bv5.out hs5.out).mono ?_); rintro e u6 ⟨rfl, bu6⟩; have bv6 := hd (bv5.out.trans (bu6.mono bv5.out.size)); obtain ⟨⟨k6_0, k6_1, k6_2, k6_3, k6_4, k6_5, k6_6, k6_7, k6_8, k6_9, k6_10, k6_11, k6_12⟩, -⟩ := HY.out u6 bv6.out; replace bu6 := hd bu6))
      all_goals (
        go_wp2_with fail
        go_meet
        case rel => exact ⟨rfl, bv6⟩)
    case rest =>
      obtain ⟨rfl, hbc⟩ := hcut
      go_wp2_with fail
      go_ret
      exact ⟨rfl, HW.out _ (HY.out _ hbc.out).2⟩
  case false =>
    clear hmr HMORE
    refine wp_region_held_drew (S := fun w' => w'.cell? ⟨B, 0, none⟩ = some (v0) ∧ w'.cell? ⟨B, 1, none⟩ = some (v1) ∧ w'.cell? ⟨B, 2, none⟩ = some (v2) ∧ w'.cell? ⟨B, 3, none⟩ = some (v3) ∧ w'.cell? ⟨B, 4, none⟩ = some (v4) ∧ w'.cell? ⟨B, 5, none⟩ = some (v5) ∧ w'.cell? ⟨B, 6, none⟩ = some (v6) ∧ w'.cell? ⟨X1, 0, none⟩ = some (.int .i64 z1.tk) ∧ w'.cell? ⟨X1, 1, none⟩ = some (.slice oa z1.ps.length oc) ∧ w'.cell? ⟨X1, 2, none⟩ = some (.slice oa2 z1.qs.length oc2) ∧ w'.cell? ⟨X2, 0, none⟩ = some (.int .i64 z2.tk) ∧ w'.cell? ⟨X2, 1, none⟩ = some (.slice la z2.ps.length lc) ∧ w'.cell? ⟨X2, 2, none⟩ = some (.slice la2 z2.qs.length lc2)) (by kernel_rfl) (HY.out w8.drew HB9x.out).1 (fun hHeld => ?_)
    refine wpAnyH_take (i := 0) (oi := { dst := some 40, op := Op.load 26 (Operand.tmp 5), type := 26, pos := _, after := #[], guard := none }) (v := ?v0) rfl (by kernel_rfl) (by kernel_rfl) (by kernel_rfl) (fun _ _ _ h => h) (Or.inl ⟨by rfl, ?hy0⟩) (by assumption) ?r0
    case hy0 => (intro w5 hSw; (try dsimp only at hSw); first | (go_simp; done) | (go_simp; with_reducible rfl))
    simp only [Act.put, List.setIfInBounds_toArray, List.set_cons_zero, List.set_cons_succ]
    refine wpAnyH_take (i := 1) (oi := { dst := some 41, op := Op.load 30 (Operand.tmp 11), type := 30, pos := _, after := #[], guard := none }) (v := ?v1) rfl (by kernel_rfl) (by kernel_rfl) (by kernel_rfl) (fun _ _ _ h => h) (Or.inl ⟨by rfl, ?hy1⟩) (by assumption) ?r1
    case hy1 => (intro w5 hSw; (try dsimp only at hSw); first | (go_simp; done) | (go_simp; with_reducible rfl))
    simp only [Act.put, List.setIfInBounds_toArray, List.set_cons_zero, List.set_cons_succ]
    refine wpAnyH_take (i := 2) (oi := { dst := some 42, op := Op.move (Operand.tmp 2), type := 31, pos := _, after := #[], guard := none }) (v := ?v2) rfl (by kernel_rfl) (by kernel_rfl) (by kernel_rfl) (fun _ _ _ h => h) (Or.inl ⟨by rfl, ?hy2⟩) (by assumption) ?r2
    case hy2 => (intro w5 hSw; (try dsimp only at hSw); first | (go_simp; done) | (go_simp; with_reducible rfl))
    simp only [Act.put, List.setIfInBounds_toArray, List.set_cons_zero, List.set_cons_succ]
    refine wpAnyH_take (i := 4) (oi := { dst := some 44, op := Op.load 30 (Operand.tmp 11), type := 30, pos := _, after := #[], guard := none }) (v := ?v4) rfl (by kernel_rfl) (by kernel_rfl) (by kernel_rfl) (fun _ _ _ h => h) (Or.inl ⟨by rfl, ?hy4⟩) (by assumption) ?r4
    case hy4 => (intro w5 hSw; (try dsimp only at hSw); first | (go_simp; done) | (go_simp; with_reducible rfl))
    simp only [Act.put, List.setIfInBounds_toArray, List.set_cons_zero, List.set_cons_succ]
    refine wpAnyH_ready (rs := [3]) (by kernel_rfl) (by simp) (AllReadyH.cons (o := { dst := some 43, op := Op.call { callee := Callee.value (Operand.func 9), args := #[Operand.tmp 40, Operand.tmp 41, Operand.tmp 42], argTypes := #[26, 30, 31] }, type := 30, pos := _, after := #[{ on := 0, ground := Ground.data }, { on := 1, ground := Ground.data }, { on := 2, ground := Ground.data }], guard := none }) rfl (fun K hK => ?_) AllReadyH.nil)
    go_simp
    go_at_call 9
    refine (HA1.out _ HB9x.out).mono ?_
    rintro e u1 ⟨cs5, rfl, hso, bu1⟩
    have bv1 := hd (HB9x.out.trans (bu1.mono HB9x.out.size))
    have hs1 := hd hso.rd
    clear hso
    refine hK.out _ _ (HY.out u1 bv1.out).1 (fun hHeld => ?_)
    clear hK K
    try simp only [Act.put, List.setIfInBounds_toArray, List.set_cons_zero, List.set_cons_succ]
    refine wpAnyH_ready (rs := [5]) (by kernel_rfl) (by simp) (AllReadyH.cons (o := { dst := some 45, op := Op.call { callee := Callee.value (Operand.func 13), args := #[Operand.tmp 43, Operand.tmp 44], argTypes := #[30, 30] }, type := 4, pos := _, after := #[{ on := 3, ground := Ground.data }, { on := 4, ground := Ground.data }, { on := 3, ground := Ground.chain }], guard := none }) rfl (fun K hK => ?_) AllReadyH.nil)
    go_simp
    go_at_call 13
    refine (HM1.out _ _ bv1.out hs1.out).mono ?_
    rintro e u2 ⟨rfl, bu2⟩
    have bv2 := hd (bv1.out.trans (bu2.mono bv1.out.size))
    refine hK.out _ _ (HY.out u2 bv2.out).1 (fun hHeld => ?_)
    clear hK K
    try simp only [Act.put, List.setIfInBounds_toArray, List.set_cons_zero, List.set_cons_succ]
    refine wpAnyH_take (i := 6) (oi := { dst := some 46, op := Op.move (Operand.tmp 45), type := 4, pos := _, after := #[{ on := 5, ground := Ground.data }, { on := 5, ground := Ground.chain }], guard := none }) (v := ?v6) rfl (by kernel_rfl) (by kernel_rfl) (by kernel_rfl) (fun _ _ _ h => h) (Or.inl ⟨by rfl, ?hy6⟩) (by assumption) ?r6
    case hy6 => (intro w5 hSw; (try dsimp only at hSw); first | (go_simp; done) | (go_simp; with_reducible rfl))
    simp only [Act.put, List.setIfInBounds_toArray, List.set_cons_zero, List.set_cons_succ]
    refine wpAnyH_take (i := 7) (oi := { dst := some 47, op := Op.load 26 (Operand.tmp 5), type := 26, pos := _, after := #[{ on := 6, ground := Ground.guard }], guard := some (6, true) }) (v := ?v7) rfl (by kernel_rfl) (by kernel_rfl) (by kernel_rfl) (fun _ _ _ h => h) (Or.inl ⟨by rfl, ?hy7⟩) (by assumption) ?r7
    case hy7 => (intro w5 hSw; (try dsimp only at hSw); first | (go_simp; done) | (go_simp; with_reducible rfl))
    simp only [Act.put, List.setIfInBounds_toArray, List.set_cons_zero, List.set_cons_succ]
    refine wpAnyH_take (i := 8) (oi := { dst := some 48, op := Op.load 30 (Operand.tmp 11), type := 30, pos := _, after := #[{ on := 6, ground := Ground.guard }], guard := some (6, true) }) (v := ?v8) rfl (by kernel_rfl) (by kernel_rfl) (by kernel_rfl) (fun _ _ _ h => h) (Or.inl ⟨by rfl, ?hy8⟩) (by assumption) ?r8
    case hy8 => (intro w5 hSw; (try dsimp only at hSw); first | (go_simp; done) | (go_simp; with_reducible rfl))
    simp only [Act.put, List.setIfInBounds_toArray, List.set_cons_zero, List.set_cons_succ]
    refine wpAnyH_take (i := 9) (oi := { dst := some 49, op := Op.move (Operand.tmp 2), type := 31, pos := _, after := #[{ on := 6, ground := Ground.guard }], guard := some (6, true) }) (v := ?v9) rfl (by kernel_rfl) (by kernel_rfl) (by kernel_rfl) (fun _ _ _ h => h) (Or.inl ⟨by rfl, ?hy9⟩) (by assumption) ?r9
    case hy9 => (intro w5 hSw; (try dsimp only at hSw); first | (go_simp; done) | (go_simp; with_reducible rfl))
    simp only [Act.put, List.setIfInBounds_toArray, List.set_cons_zero, List.set_cons_succ]
    refine wpAnyH_take (i := 10) (oi := { dst := some 50, op := Op.move (Operand.tmp 3), type := 31, pos := _, after := #[{ on := 6, ground := Ground.guard }], guard := some (6, true) }) (v := ?v10) rfl (by kernel_rfl) (by kernel_rfl) (by kernel_rfl) (fun _ _ _ h => h) (Or.inl ⟨by rfl, ?hy10⟩) (by assumption) ?r10
    case hy10 => (intro w5 hSw; (try dsimp only at hSw); first | (go_simp; done) | (go_simp; with_reducible rfl))
    simp only [Act.put, List.setIfInBounds_toArray, List.set_cons_zero, List.set_cons_succ]
    refine wpAnyH_take (i := 11) (oi := { dst := some 51, op := Op.binOp BinOp.and 31 (Operand.tmp 49) (Operand.tmp 50) 31, type := 31, pos := _, after := #[{ on := 9, ground := Ground.data }, { on := 10, ground := Ground.data }, { on := 6, ground := Ground.guard }], guard := some (6, true) }) (v := ?v11) rfl (by kernel_rfl) (by kernel_rfl) (by kernel_rfl) (fun _ _ _ h => h) (Or.inl ⟨by rfl, ?hy11⟩) (by assumption) ?r11
    case hy11 => (intro w5 hSw; (try dsimp only at hSw); first | (go_simp; done) | (go_simp; with_reducible rfl))
    simp only [Act.put, List.setIfInBounds_toArray, List.set_cons_zero, List.set_cons_succ]
    refine wpAnyH_take (i := 13) (oi := { dst := some 53, op := Op.load 30 (Operand.tmp 12), type := 30, pos := _, after := #[{ on := 6, ground := Ground.guard }], guard := some (6, true) }) (v := ?v13) rfl (by kernel_rfl) (by kernel_rfl) (by kernel_rfl) (fun _ _ _ h => h) (Or.inl ⟨by rfl, ?hy13⟩) (by assumption) ?r13
    case hy13 => (intro w5 hSw; (try dsimp only at hSw); first | (go_simp; done) | (go_simp; with_reducible rfl))
    simp only [Act.put, List.setIfInBounds_toArray, List.set_cons_zero, List.set_cons_succ]
    refine wpAnyH_ready (rs := [12]) (by kernel_rfl) (by simp) (AllReadyH.cons (o := { dst := some 52, op := Op.call { callee := Callee.value (Operand.func 9), args := #[Operand.tmp 47, Operand.tmp 48, Operand.tmp 51], argTypes := #[26, 30, 31] }, type := 30, pos := _, after := #[{ on := 7, ground := Ground.data }, { on := 8, ground := Ground.data }, { on := 11, ground := Ground.data }, { on := 6, ground := Ground.chain }, { on := 6, ground := Ground.guard }], guard := some (6, true) }) rfl (fun K hK => ?_) AllReadyH.nil)
    go_simp
    go_at_call 9
    refine (HA2.out _ bv2.out).mono ?_
    rintro e u3 ⟨cs6, rfl, hso, bu3⟩
    have bv3 := hd (bv2.out.trans (bu3.mono bv2.out.size))
    have hs3 := hd hso.rd
    clear hso
    refine hK.out _ _ (HY.out u3 bv3.out).1 (fun hHeld => ?_)
    clear hK K
    try simp only [Act.put, List.setIfInBounds_toArray, List.set_cons_zero, List.set_cons_succ]
    refine wpAnyH_ready (rs := [14]) (by kernel_rfl) (by simp) (AllReadyH.cons (o := { dst := some 54, op := Op.call { callee := Callee.value (Operand.func 13), args := #[Operand.tmp 52, Operand.tmp 53], argTypes := #[30, 30] }, type := 4, pos := _, after := #[{ on := 12, ground := Ground.data }, { on := 13, ground := Ground.data }, { on := 12, ground := Ground.chain }, { on := 6, ground := Ground.guard }], guard := some (6, true) }) rfl (fun K hK => ?_) AllReadyH.nil)
    go_simp
    go_at_call 13
    refine (HM2.out _ _ bv3.out hs3.out).mono ?_
    rintro e u4 ⟨rfl, bu4⟩
    have bv4 := hd (bv3.out.trans (bu4.mono bv3.out.size))
    refine hK.out _ _ (HY.out u4 bv4.out).1 (fun hHeld => ?_)
    clear hK K
    try simp only [Act.put, List.setIfInBounds_toArray, List.set_cons_zero, List.set_cons_succ]
    refine wpAnyH_take (i := 15) (oi := { dst := some 55, op := Op.pick (Operand.tmp 46) (Operand.tmp 54) (Operand.const (Value.bool false)), type := 4, pos := _, after := #[{ on := 6, ground := Ground.data }, { on := 14, ground := Ground.data }], guard := none }) (v := ?v15) rfl (by kernel_rfl) (by kernel_rfl) (by kernel_rfl) (fun _ _ _ h => h) (Or.inl ⟨by rfl, ?hy15⟩) (by assumption) ?r15
    case hy15 => (intro w5 hSw; (try dsimp only at hSw); first | (go_simp; done) | (go_simp; with_reducible rfl))
    simp only [Act.put, List.setIfInBounds_toArray, List.set_cons_zero, List.set_cons_succ]
    refine wpAnyH_take (i := 16) (oi := { dst := some 56, op := Op.move (Operand.tmp 55), type := 4, pos := _, after := #[{ on := 15, ground := Ground.data }, { on := 14, ground := Ground.chain }], guard := none }) (v := ?v16) rfl (by kernel_rfl) (by kernel_rfl) (by kernel_rfl) (fun _ _ _ h => h) (Or.inl ⟨by rfl, ?hy16⟩) (by assumption) ?r16
    case hy16 => (intro w5 hSw; (try dsimp only at hSw); first | (go_simp; done) | (go_simp; with_reducible rfl))
    simp only [Act.put, List.setIfInBounds_toArray, List.set_cons_zero, List.set_cons_succ]
    refine wpAnyH_take (i := 17) (oi := { dst := some 57, op := Op.load 26 (Operand.tmp 5), type := 26, pos := _, after := #[{ on := 16, ground := Ground.guard }], guard := some (16, true) }) (v := ?v17) rfl (by kernel_rfl) (by kernel_rfl) (by kernel_rfl) (fun _ _ _ h => h) (Or.inl ⟨by rfl, ?hy17⟩) (by assumption) ?r17
    case hy17 => (intro w5 hSw; (try dsimp only at hSw); first | (go_simp; done) | (go_simp; with_reducible rfl))
    simp only [Act.put, List.setIfInBounds_toArray, List.set_cons_zero, List.set_cons_succ]
    refine wpAnyH_take (i := 18) (oi := { dst := some 58, op := Op.load 30 (Operand.tmp 12), type := 30, pos := _, after := #[{ on := 16, ground := Ground.guard }], guard := some (16, true) }) (v := ?v18) rfl (by kernel_rfl) (by kernel_rfl) (by kernel_rfl) (fun _ _ _ h => h) (Or.inl ⟨by rfl, ?hy18⟩) (by assumption) ?r18
    case hy18 => (intro w5 hSw; (try dsimp only at hSw); first | (go_simp; done) | (go_simp; with_reducible rfl))
    simp only [Act.put, List.setIfInBounds_toArray, List.set_cons_zero, List.set_cons_succ]
    refine wpAnyH_take (i := 19) (oi := { dst := some 59, op := Op.move (Operand.tmp 2), type := 31, pos := _, after := #[{ on := 16, ground := Ground.guard }], guard := some (16, true) }) (v := ?v19) rfl (by kernel_rfl) (by kernel_rfl) (by kernel_rfl) (fun _ _ _ h => h) (Or.inl ⟨by rfl, ?hy19⟩) (by assumption) ?r19
    case hy19 => (intro w5 hSw; (try dsimp only at hSw); first | (go_simp; done) | (go_simp; with_reducible rfl))
    simp only [Act.put, List.setIfInBounds_toArray, List.set_cons_zero, List.set_cons_succ]
    refine wpAnyH_take (i := 21) (oi := { dst := some 61, op := Op.load 30 (Operand.tmp 12), type := 30, pos := _, after := #[{ on := 16, ground := Ground.guard }], guard := some (16, true) }) (v := ?v21) rfl (by kernel_rfl) (by kernel_rfl) (by kernel_rfl) (fun _ _ _ h => h) (Or.inl ⟨by rfl, ?hy21⟩) (by assumption) ?r21
    case hy21 => (intro w5 hSw; (try dsimp only at hSw); first | (go_simp; done) | (go_simp; with_reducible rfl))
    simp only [Act.put, List.setIfInBounds_toArray, List.set_cons_zero, List.set_cons_succ]
    refine wpAnyH_ready (rs := [20]) (by kernel_rfl) (by simp) (AllReadyH.cons (o := { dst := some 60, op := Op.call { callee := Callee.value (Operand.func 9), args := #[Operand.tmp 57, Operand.tmp 58, Operand.tmp 59], argTypes := #[26, 30, 31] }, type := 30, pos := _, after := #[{ on := 17, ground := Ground.data }, { on := 18, ground := Ground.data }, { on := 19, ground := Ground.data }, { on := 16, ground := Ground.chain }, { on := 16, ground := Ground.guard }], guard := some (16, true) }) rfl (fun K hK => ?_) AllReadyH.nil)
    go_simp
    go_at_call 9
    refine (HA3.out _ bv4.out).mono ?_
    rintro e u5 ⟨cs7, rfl, hso, bu5⟩
    have bv5 := hd (bv4.out.trans (bu5.mono bv4.out.size))
    have hs5 := hd hso.rd
    clear hso
    refine hK.out _ _ (HY.out u5 bv5.out).1 (fun hHeld => ?_)
    clear hK K
    try simp only [Act.put, List.setIfInBounds_toArray, List.set_cons_zero, List.set_cons_succ]
    refine wpAnyH_ready (rs := [22]) (by kernel_rfl) (by simp) (AllReadyH.cons (o := { dst := some 62, op := Op.call { callee := Callee.value (Operand.func 13), args := #[Operand.tmp 60, Operand.tmp 61], argTypes := #[30, 30] }, type := 4, pos := _, after := #[{ on := 20, ground := Ground.data }, { on := 21, ground := Ground.data }, { on := 20, ground := Ground.chain }, { on := 16, ground := Ground.guard }], guard := some (16, true) }) rfl (fun K hK => ?_) AllReadyH.nil)
    go_simp
    go_at_call 13
    refine (HM2.out _ _ bv5.out hs5.out).mono ?_
    rintro e u6 ⟨rfl, bu6⟩
    have bv6 := hd (bv5.out.trans (bu6.mono bv5.out.size))
    refine hK.out _ _ (HY.out u6 bv6.out).1 (fun hHeld => ?_)
    clear hK K
    try simp only [Act.put, List.setIfInBounds_toArray, List.set_cons_zero, List.set_cons_succ]
    refine wpAnyH_take (i := 23) (oi := { dst := some 63, op := Op.pick (Operand.tmp 56) (Operand.tmp 62) (Operand.const (Value.bool false)), type := 4, pos := _, after := #[{ on := 16, ground := Ground.data }, { on := 22, ground := Ground.data }], guard := none }) (v := ?v23) rfl (by kernel_rfl) (by kernel_rfl) (by kernel_rfl) (fun _ _ _ h => h) (Or.inl ⟨by rfl, ?hy23⟩) (by assumption) ?r23
    case hy23 => (intro w5 hSw; (try dsimp only at hSw); first | (go_simp; done) | (go_simp; with_reducible rfl))
    simp only [Act.put, List.setIfInBounds_toArray, List.set_cons_zero, List.set_cons_succ]
    refine wpAnyH_take (i := 24) (oi := { dst := some 64, op := Op.move (Operand.tmp 63), type := 4, pos := _, after := #[{ on := 23, ground := Ground.data }, { on := 22, ground := Ground.chain }], guard := none }) (v := ?v24) rfl (by kernel_rfl) (by kernel_rfl) (by kernel_rfl) (fun _ _ _ h => h) (Or.inl ⟨by rfl, ?hy24⟩) (by assumption) ?r24
    case hy24 => (intro w5 hSw; (try dsimp only at hSw); first | (go_simp; done) | (go_simp; with_reducible rfl))
    simp only [Act.put, List.setIfInBounds_toArray, List.set_cons_zero, List.set_cons_succ]
    refine wpAnyH_take (i := 25) (oi := { dst := some 65, op := Op.move (Operand.tmp 13), type := 4, pos := _, after := #[{ on := 24, ground := Ground.guard }], guard := some (24, true) }) (v := ?v25) rfl (by kernel_rfl) (by kernel_rfl) (by kernel_rfl) (fun _ _ _ h => h) (Or.inl ⟨by rfl, ?hy25⟩) (by assumption) ?r25
    case hy25 => (intro w5 hSw; (try dsimp only at hSw); first | (go_simp; done) | (go_simp; with_reducible rfl))
    simp only [Act.put, List.setIfInBounds_toArray, List.set_cons_zero, List.set_cons_succ]
    refine wpAnyH_take (i := 26) (oi := { dst := some 66, op := Op.unOp UnOp.not 4 (Operand.tmp 65), type := 4, pos := _, after := #[{ on := 25, ground := Ground.data }, { on := 24, ground := Ground.guard }], guard := some (24, true) }) (v := ?v26) rfl (by kernel_rfl) (by kernel_rfl) (by kernel_rfl) (fun _ _ _ h => h) (Or.inl ⟨by rfl, ?hy26⟩) (by assumption) ?r26
    case hy26 => (intro w5 hSw; (try dsimp only at hSw); first | (go_simp; done) | (go_simp; with_reducible rfl))
    simp only [Act.put, List.setIfInBounds_toArray, List.set_cons_zero, List.set_cons_succ]
    refine wpAnyH_take (i := 27) (oi := { dst := some 67, op := Op.move (Operand.tmp 66), type := 4, pos := _, after := #[{ on := 26, ground := Ground.data }, { on := 24, ground := Ground.chain }, { on := 24, ground := Ground.guard }], guard := some (24, true) }) (v := ?v27) rfl (by kernel_rfl) (by kernel_rfl) (by kernel_rfl) (fun _ _ _ h => h) (Or.inl ⟨by rfl, ?hy27⟩) (by assumption) ?r27
    case hy27 => (intro w5 hSw; (try dsimp only at hSw); first | (go_simp; done) | (go_simp; with_reducible rfl))
    simp only [Act.put, List.setIfInBounds_toArray, List.set_cons_zero, List.set_cons_succ]
    refine wpAnyH_take (i := 28) (oi := { dst := some 68, op := Op.move (Operand.tmp 14), type := 4, pos := _, after := #[{ on := 27, ground := Ground.guard }], guard := some (27, false) }) (v := undef) rfl (by kernel_rfl) (by kernel_rfl) (by kernel_rfl) (fun _ _ _ h => h) (Or.inr ⟨by rfl, rfl⟩) (by assumption) ?r28
    simp only [Act.put, List.setIfInBounds_toArray, List.set_cons_zero, List.set_cons_succ]
    refine wpAnyH_take (i := 29) (oi := { dst := some 69, op := Op.pick (Operand.tmp 67) (Operand.const (Value.bool true)) (Operand.tmp 68), type := 4, pos := _, after := #[{ on := 27, ground := Ground.data }, { on := 28, ground := Ground.data }, { on := 24, ground := Ground.guard }], guard := some (24, true) }) (v := ?v29) rfl (by kernel_rfl) (by kernel_rfl) (by kernel_rfl) (fun _ _ _ h => h) (Or.inl ⟨by rfl, ?hy29⟩) (by assumption) ?r29
    case hy29 => (intro w5 hSw; (try dsimp only at hSw); first | (go_simp; done) | (go_simp; with_reducible rfl))
    simp only [Act.put, List.setIfInBounds_toArray, List.set_cons_zero, List.set_cons_succ]
    refine wpAnyH_take (i := 30) (oi := { dst := some 70, op := Op.pick (Operand.tmp 64) (Operand.tmp 69) (Operand.const (Value.bool false)), type := 4, pos := _, after := #[{ on := 24, ground := Ground.data }, { on := 29, ground := Ground.data }], guard := none }) (v := ?v30) rfl (by kernel_rfl) (by kernel_rfl) (by kernel_rfl) (fun _ _ _ h => h) (Or.inl ⟨by rfl, ?hy30⟩) (by assumption) ?r30
    case hy30 => (intro w5 hSw; (try dsimp only at hSw); first | (go_simp; done) | (go_simp; with_reducible rfl))
    simp only [Act.put, List.setIfInBounds_toArray, List.set_cons_zero, List.set_cons_succ]
    refine wpAnyH_take (i := 31) (oi := { dst := some 10, op := Op.assign (Operand.tmp 70), type := 4, pos := _, after := #[{ on := 30, ground := Ground.data }, { on := 27, ground := Ground.chain }, { on := 0, ground := Ground.phase }, { on := 1, ground := Ground.phase }, { on := 2, ground := Ground.phase }, { on := 3, ground := Ground.phase }, { on := 4, ground := Ground.phase }, { on := 5, ground := Ground.phase }, { on := 6, ground := Ground.phase }, { on := 7, ground := Ground.phase }, { on := 8, ground := Ground.phase }, { on := 9, ground := Ground.phase }, { on := 10, ground := Ground.phase }, { on := 11, ground := Ground.phase }, { on := 12, ground := Ground.phase }, { on := 13, ground := Ground.phase }, { on := 14, ground := Ground.phase }, { on := 15, ground := Ground.phase }, { on := 16, ground := Ground.phase }, { on := 17, ground := Ground.phase }, { on := 18, ground := Ground.phase }, { on := 19, ground := Ground.phase }, { on := 20, ground := Ground.phase }, { on := 21, ground := Ground.phase }, { on := 22, ground := Ground.phase }, { on := 23, ground := Ground.phase }, { on := 24, ground := Ground.phase }, { on := 25, ground := Ground.phase }, { on := 26, ground := Ground.phase }, { on := 27, ground := Ground.phase }, { on := 28, ground := Ground.phase }, { on := 29, ground := Ground.phase }, { on := 30, ground := Ground.phase }], guard := none }) (v := ?v31) rfl (by kernel_rfl) (by kernel_rfl) (by kernel_rfl) (fun _ _ _ h => h) (Or.inl ⟨by rfl, ?hy31⟩) (by assumption) ?r31
    case hy31 => (intro w5 hSw; (try dsimp only at hSw); first | (go_simp; done) | (go_simp; with_reducible rfl))
    simp only [Act.put, List.setIfInBounds_toArray, List.set_cons_zero, List.set_cons_succ]
    refine wpAnyH_done (by kernel_rfl) ?_ _
    go_wp2_with fail
    go_ret
    exact ⟨rfl, HW.out _ (HY.out _ bv6.out).2⟩
end Go.Proofs.Ytjbmljheepomnaa
