/- The document's example: the walk. -/
import Derived.Test.YtjbmljheepomnaaVX1
import Derived.Test.YtjbmljheepomnaaVFW
namespace Go.Proofs.Ytjbmljheepomnaa
open Go.RowKit

set_option maxRecDepth 100000 in
set_option maxHeartbeats 16000000 in
theorem awake_any (w : World) : Calls Try.prog 6 #[] w fun e w' => e = .returned (.bool true) ∧ Below w.heap.size w w' := by
  go_enter Try.func6, Try.ntmps6
  go_upto_region 2 with fail
  obtain ⟨h1, h2, h3, h4, h5⟩ := three_al w (.cells #[.int .u64 0, .int .u64 1, .int .u64 2, .int .u64 3] 31) (.cells #[.int .i64 0, .slice none 0 0, .int .i64 1, .slice none 0 0, .int .i64 2, .slice none 0 0, .int .i64 3, .slice none 0 0] 59) (.cells #[.slice (some ⟨w.heap.size, 0, none⟩) 4 4, .slice none 0 0, .int .i64 0, .int .i64 0, .int .i64 0, .int .i64 0, .slice (some ⟨w.heap.size + 1, 0, none⟩) 4 4] 26)
  obtain ⟨W0, hW0⟩ : ∃ W, Hid (((w.alloc (.cells #[.int .u64 0, .int .u64 1, .int .u64 2, .int .u64 3] 31)).alloc (.cells #[.int .i64 0, .slice none 0 0, .int .i64 1, .slice none 0 0, .int .i64 2, .slice none 0 0, .int .i64 3, .slice none 0 0] 59)).alloc (.cells #[.slice (some ⟨w.heap.size, 0, none⟩) 4 4, .slice none 0 0, .int .i64 0, .int .i64 0, .int .i64 0, .int .i64 0, .slice (some ⟨w.heap.size + 1, 0, none⟩) 4 4] 26) = W) := ⟨_, rfl⟩
  rw [hW0.out] at h1 h2 h3 h4 h5 ⊢
  obtain ⟨B, hB⟩ : ∃ n, Hid (w.heap.size = n) := ⟨_, rfl⟩
  rw [hB.out] at h1 h2 h3 h4 ⊢
  obtain ⟨C, hC⟩ : ∃ n, Hid (B + 2 = n) := ⟨_, rfl⟩
  (try rw [show B + 1 + 1 = B + 2 from rfl])
  rw [hC.out] at h3 ⊢
  obtain ⟨B1, hB1⟩ : ∃ n, Hid (B + 1 = n) := ⟨_, rfl⟩
  rw [hB1.out] at h2 h3 ⊢
  have HFE := hd (exC_at (v1 := .slice none 0 0) (v2 := .int .i64 0) (v3 := .int .i64 0) (v4 := .int .i64 0) (v5 := .int .i64 0) h1 h2)
  have HCB := hd h3
  have S0 := hd h4
  have BW0 := hd h5
  have hmP : ∀ W, (Instr.makeSlice 27 (.int .i64 4) (.int .i64 4)).run Try.prog W = _ := fun W => make_eq 27 43 _ 6 96 Try.underlying27 info_part 4 (by omega) (by unfold maxLen; omega) W
  have hmQ : ∀ W, (Instr.makeSlice 28 (.int .i64 4) (.int .i64 4)).run Try.prog W = _ := fun W => make_eq 28 49 _ 15 136 Try.underlying28 info_process 4 (by omega) (by unfold maxLen; omega) W
  have HM := hd (OS.mk6 (W0 := W0) (tk := 7) (np := 4) (nq := 4) (by unfold maxLen; omega) (by unfold maxLen; omega))
  obtain ⟨oP, hoP⟩ : ∃ o, Hid (Obj.cells (madeCells (Value.agg #[.int .i64 0, .slice none 0 0, .int .i64 0, .int .i64 0, .slice none 0 0, .slice none 0 0]).cells (4 * 6)) 43 = o) := ⟨_, rfl⟩
  obtain ⟨oQ, hoQ⟩ : ∃ o, Hid (Obj.cells (madeCells (Value.agg #[.int .i64 0, .int .i64 0, .int .i64 0, .int .i64 0, .int .i64 0, .int .i64 0, .int .i64 0, .int .i64 0, .int .i64 0, .int .i64 0, .int .i64 0, .int .i64 0, .bool false, .int .i64 0, .slice none 0 0]).cells (4 * 15)) 49 = o) := ⟨_, rfl⟩
  rw [hoP.out] at hmP HM
  rw [hoQ.out] at hmQ HM
  clear h1 h2 h3 h4 h5 hW0 hoP hoQ
  go_cut [2] (fun v2 wy => ∃ gs P Q : Nat, v2 = .pointer (some ⟨gs, 0, none⟩) ∧ Hid (OS W0 wy 7 4 4 gs P Q))
  case first =>
    go_region_held3 (fun _ => True) (trivial) (fail)
    all_goals (
      go_wp2_with fail
      go_meet)
    · refine ⟨W0.heap.size + 1 + 1, W0.heap.size, W0.heap.size + 1, rfl, hd ?_⟩
      exact HM.out _ _ _ _ (three_al W0 _ _ _).2.2.1 (three_al W0 _ _ _).1 (three_al W0 _ _ _).2.1 (by omega) (by omega) (three_al W0 _ _ _).2.2.2.2.drew
    · refine ⟨W0.heap.size + 1, W0.heap.size, W0.heap.size + 1 + 1, rfl, hd ?_⟩
      exact HM.out _ _ _ _ (three_al W0 _ _ _).2.1 (three_al W0 _ _ _).1 (three_al W0 _ _ _).2.2.1 (by omega) (by omega) (three_al W0 _ _ _).2.2.2.2.drew
    · refine ⟨W0.heap.size + 1 + 1, W0.heap.size + 1, W0.heap.size, rfl, hd ?_⟩
      exact HM.out _ _ _ _ (three_al W0 _ _ _).2.2.1 (three_al W0 _ _ _).2.1 (three_al W0 _ _ _).1 (by omega) (by omega) (three_al W0 _ _ _).2.2.2.2.drew
    · refine ⟨W0.heap.size + 1, W0.heap.size + 1 + 1, W0.heap.size, rfl, hd ?_⟩
      exact HM.out _ _ _ _ (three_al W0 _ _ _).2.1 (three_al W0 _ _ _).2.2.1 (three_al W0 _ _ _).1 (by omega) (by omega) (three_al W0 _ _ _).2.2.2.2.drew
    · refine ⟨W0.heap.size, W0.heap.size + 1, W0.heap.size + 1 + 1, rfl, hd ?_⟩
      exact HM.out _ _ _ _ (three_al W0 _ _ _).1 (three_al W0 _ _ _).2.1 (three_al W0 _ _ _).2.2.1 (by omega) (by omega) (three_al W0 _ _ _).2.2.2.2.drew
    · refine ⟨W0.heap.size, W0.heap.size + 1 + 1, W0.heap.size + 1, rfl, hd ?_⟩
      exact HM.out _ _ _ _ (three_al W0 _ _ _).1 (three_al W0 _ _ _).2.2.1 (three_al W0 _ _ _).2.1 (by omega) (by omega) (three_al W0 _ _ _).2.2.2.2.drew
  case rest =>
    obtain ⟨gs, P, Q, rfl, HOS⟩ := hcut
    have HNE := hd HOS.out.ne
    have HI0 : Hid (XI wc P Q 0 wc) := hd (by
      obtain ⟨L, r1, r2⟩ := HOS.out.rp
      obtain ⟨M, t1, t2⟩ := HOS.out.rq
      exact ⟨⟨L, r1, fun j hj => absurd hj (Nat.not_lt_zero j), fun j _ hj => r2 j hj⟩, ⟨M, t1, fun j hj => absurd hj (Nat.not_lt_zero j), fun j _ hj => t2 j hj⟩, Mod.refl _ _, HOS.out.ne.1⟩)
    have HX0 : Hid (∀ wr, Mod (fun k => k = P ∨ k = Q) wc wr → wr.heap[gs]? = some (.cells #[.int .i64 7, .slice (some ⟨P, 0, none⟩) 4 4, .slice (some ⟨Q, 0, none⟩) 4 4] 30 (0, 0)) ∧ wr.heap[C]? = some (.cells #[.slice (some ⟨B, 0, none⟩) 4 4, .slice none 0 0, .int .i64 0, .int .i64 0, .int .i64 0, .int .i64 0, .slice (some ⟨B1, 0, none⟩) 4 4] 26 (0, 0)) ∧ Below W0.heap.size W0 wr) := hd (fun wr h => by
      have s0 := S0.out
      have hc := hC.out
      obtain ⟨g1, g2, g3⟩ := HOS.out.ge
      obtain ⟨n1, n2, n3⟩ := HOS.out.ne
      have hbl := HOS.out.bel
      have hsz := hbl.size
      have hgl : gs < wc.heap.size := (Array.getElem?_eq_some_iff.1 HOS.out.box).1
      refine ⟨?_, ?_, hbl.trans (h.below hsz (fun k _ e => by rcases e with e | e <;> omega))⟩
      · rw [h.block gs hgl (by omega)]; exact HOS.out.box
      · rw [h.block C (by omega) (by omega), hbl.block C (by omega)]; exact HCB.out)
    clear hmP hmQ HM
    go_wp2_with fail
    go_loopg [3] 4 (fun k v3 wr => ∃ (i : Nat), v3 = .int .i64 (i : Int) ∧ i + k = 4 ∧ Hid (XI wc P Q i wr))
    case atStart => exact ⟨0, rfl, by omega, HI0⟩
    case round =>
      obtain ⟨i, rfl, hik, HI⟩ := hrel
      clear HI0
      obtain ⟨bg, bc, bw⟩ := HX0.out wr HI.out.md
      obtain ⟨n1, n2, n3⟩ := HNE.out
      by_cases hlt : i < 4
      · have hlt' : (i : Int) < 4 := by omega
        obtain ⟨hst, ⟨z1, e1⟩, ⟨z2, e2⟩, f1, f2⟩ := HI.out.step hlt
        have HST := hd hst
        have x1 := box_at1 bg (j := 1) rfl
        have x2 := box_at1 bg (j := 2) rfl
        simp at x1 x2
        have n1' : Q ≠ P := fun e => n1 e.symm
        have n2' : gs ≠ P := fun e => n2 e.symm
        have n3' : gs ≠ Q := fun e => n3 e.symm
        clear hst bg bc bw
        go_wp2_with fail
        go_roundg (gk - 1)
        case rel => exact ⟨i + 1, by go_num, by omega, HST⟩
        case measure => omega
      · obtain rfl : i = 4 := by omega
        have hge : decide ((4 : Int) < 4) = false := by decide
        have HSE := hd HI.out.done
        have BWR := hd bw
        have HFC : Hid (∀ V, Below wr.heap.size wr V → fE V [.slice (some ⟨B, 0, none⟩) 4 4, .slice none 0 0, .int .i64 0, .int .i64 0, .int .i64 0, .int .i64 0, .slice (some ⟨B1, 0, none⟩) 4 4] exC) := hd (fun V hb => HFE.out.below (BWR.out.trans (hb.mono BWR.out.size)))
        have hof : Calls Try.prog 9 #[.agg #[.slice (some ⟨B, 0, none⟩) 4 4, .slice none 0 0, .int .i64 0, .int .i64 0, .int .i64 0, .int .i64 0, .slice (some ⟨B1, 0, none⟩) 4 4], .agg #[.int .i64 7, .slice (some ⟨P, 0, none⟩) 4 4, .slice (some ⟨Q, 0, none⟩) 4 4], .int .u64 2] wr _ := of_any (HFC.out wr (below_same _)) HSE.out ⟨by decide, by decide, fun j => by
            by_cases hj : j < 4
            · rw [exP_at j hj]; exact ⟨Nat.zero_le _, Nat.zero_le _, Nat.zero_le _, fun q => by rw [show (exP j).qs = [] from rfl, getD_big (Nat.zero_le _)]; exact Nat.zero_le _⟩
            · rw [getD_big (by show 4 ≤ j; omega)]; exact PtFew.zero, fun j => by
            by_cases hj : j < 4
            · rw [exQ_at j hj]; exact ⟨Nat.zero_le _, fun q => by rw [show (exQ j).ls = [] from rfl, getD_big (Nat.zero_le _)]; exact ⟨Nat.zero_le _, Nat.zero_le _⟩⟩
            · rw [getD_big (by show 4 ≤ j; omega)]; exact PrFew.zero⟩ 2 (by decide)
        rw [exT_eq] at hof
        have HBG := hd bg
        have HBC := hd bc
        have y0_ := box_at1 bc (j := 0) rfl
        have y1_ := box_at1 bc (j := 1) rfl
        have y2_ := box_at1 bc (j := 2) rfl
        have y3_ := box_at1 bc (j := 3) rfl
        have y4_ := box_at1 bc (j := 4) rfl
        have y5_ := box_at1 bc (j := 5) rfl
        have y6_ := box_at1 bc (j := 6) rfl
        have s0_ := box_at1 bg (j := 0) rfl
        have s1_ := box_at1 bg (j := 1) rfl
        have s2_ := box_at1 bg (j := 2) rfl
        simp at y0_ y1_ y2_ y3_ y4_ y5_ y6_ s0_ s1_ s2_
        clear bg bc bw n1 n2 n3 HI hlt hik HNE HX0 HOS
        go_upto_region 9 with (go_at_call 9; (with_reducible refine hof.mono ?_); rintro e w1 ⟨cs1, rfl, hso, b1⟩; obtain ⟨a1, c1, L1, bb1, a2, c2, L2, bb2, ecs, r1, r2, -, -, -, -, -, -, -, -, -, hp, hq⟩ := hso; have HR1 := hd (And.intro r1 hp); have HR2 := hd (And.intro r2 hq); have HB1x := hd b1; subst ecs; clear r1 r2 hp hq b1)
        have HSO : Hid (sE w1 [.int .i64 7, .slice a1 4 c1, .slice a2 4 c2] (ofX exC 2 exS)) := hd (by
          rw [exT_eq]
          refine ⟨_, _, rfl, DeR.of_row (xs := [exP 0, pt0, exP 2, pt0]) HR1.out.1 (by decide) fun i hi => (HR1.out.2 i hi).rd, DeR.of_row (xs := [exQ 0, pr0, exQ 2, pr0]) HR2.out.1 (by decide) fun i hi => (HR2.out.2 i hi).rd⟩)
        obtain ⟨rr1, pp1⟩ := HR1.out
        obtain ⟨rr2, pp2⟩ := HR2.out
        obtain ⟨g1, rfl, q14⟩ := rr1.cell 14 (by decide)
        obtain ⟨g1', e1', q8⟩ := rr1.cell 8 (by decide)
        cases e1'
        obtain ⟨g2, rfl, p1x⟩ := rr2.cell 1 (by decide)
        obtain ⟨g2', e2', p46⟩ := rr2.cell 46 (by decide)
        cases e2'
        obtain ⟨z1, z2, z3, z4, z5, ez2, -⟩ := pp1 2 (by decide)
        obtain ⟨z1', z2', z3', z4', z5', ez1, -⟩ := pp1 1 (by decide)
        obtain ⟨z6, ez0, -⟩ := pp2 0 (by decide)
        obtain ⟨z7, ez3, -⟩ := pp2 3 (by decide)
        have t14 : L1[14]? = some (.int .i64 12) := by rw [show 14 = 2 * 6 + 2 from rfl, ← el_at 6 L1 2 2 (by decide), ez2]; rfl
        have t8 : L1[8]? = some (.int .i64 0) := by rw [show 8 = 1 * 6 + 2 from rfl, ← el_at 6 L1 1 2 (by decide), ez1]; rfl
        have t1 : L2[1]? = some (.int .i64 20) := by rw [show 1 = 0 * 15 + 1 from rfl, ← el_at 15 L2 0 1 (by decide), ez0]; rfl
        have t46 : L2[46]? = some (.int .i64 0) := by rw [show 46 = 3 * 15 + 1 from rfl, ← el_at 15 L2 3 1 (by decide), ez3]; rfl
        rw [t14] at q14
        rw [t8] at q8
        rw [t1] at p1x
        rw [t46] at p46
        clear rr1 rr2 pp1 pp2 ez0 ez1 ez2 ez3 t14 t8 t1 t46
        clear y0_ y1_ y2_ y3_ y4_ y5_ y6_ s0_ s1_ s2_
        have hal := heap_alloc_new w1 (.cells #[.int .i64 7, .slice (some ⟨g1, 0, none⟩) 4 c1, .slice (some ⟨g2, 0, none⟩) 4 c2] 30)
        have hbl := below_al w1 (.cells #[.int .i64 7, .slice (some ⟨g1, 0, none⟩) 4 c1, .slice (some ⟨g2, 0, none⟩) 4 c2] 30)
        obtain ⟨w2, hw2⟩ : ∃ W, Hid (w1.alloc (.cells #[.int .i64 7, .slice (some ⟨g1, 0, none⟩) 4 c1, .slice (some ⟨g2, 0, none⟩) 4 c2] 30) = W) := ⟨_, rfl⟩
        (try simp only [List.length_cons, List.length_nil, Nat.zero_add, Nat.reduceAdd])
        rw [hw2.out] at hal hbl
        rw [hw2.out]
        obtain ⟨TB, hTB⟩ : ∃ n, Hid (w1.heap.size = n) := ⟨_, rfl⟩
        rw [hTB.out] at hal
        rw [hTB.out]
        replace q14 := (hbl.cell (World.block_lt_of_cell? w1 _ q14)).trans q14
        replace q8 := (hbl.cell (World.block_lt_of_cell? w1 _ q8)).trans q8
        replace p1x := (hbl.cell (World.block_lt_of_cell? w1 _ p1x)).trans p1x
        replace p46 := (hbl.cell (World.block_lt_of_cell? w1 _ p46)).trans p46
        have HB2x : Hid (Below wr.heap.size wr w2) := hd (HB1x.out.trans (hbl.mono HB1x.out.size))
        have HX : Hid (∀ V, Below w2.heap.size w2 V → V.cell? ⟨C, 0, none⟩ = some (.slice (some ⟨B, 0, none⟩) 4 4) ∧ V.cell? ⟨C, 1, none⟩ = some (.slice none 0 0) ∧ V.cell? ⟨C, 2, none⟩ = some (.int .i64 0) ∧ V.cell? ⟨C, 3, none⟩ = some (.int .i64 0) ∧ V.cell? ⟨C, 4, none⟩ = some (.int .i64 0) ∧ V.cell? ⟨C, 5, none⟩ = some (.int .i64 0) ∧ V.cell? ⟨C, 6, none⟩ = some (.slice (some ⟨B1, 0, none⟩) 4 4) ∧ V.cell? ⟨gs, 0, none⟩ = some (.int .i64 7) ∧ V.cell? ⟨gs, 1, none⟩ = some (.slice (some ⟨P, 0, none⟩) 4 4) ∧ V.cell? ⟨gs, 2, none⟩ = some (.slice (some ⟨Q, 0, none⟩) 4 4) ∧ V.cell? ⟨TB, 0, none⟩ = some (.int .i64 7) ∧ V.cell? ⟨TB, 1, none⟩ = some (.slice (some ⟨g1, 0, none⟩) 4 c1) ∧ V.cell? ⟨TB, 2, none⟩ = some (.slice (some ⟨g2, 0, none⟩) 4 c2)) := hd (fun V hb => by
          have hbv := HB2x.out.trans (hb.mono HB2x.out.size)
          have v1 := (hbv.block C (Array.getElem?_eq_some_iff.1 HBC.out).1).trans HBC.out
          have v2 := (hbv.block gs (Array.getElem?_eq_some_iff.1 HBG.out).1).trans HBG.out
          have v3 := (hb.block TB (Array.getElem?_eq_some_iff.1 hal).1).trans hal
          exact ⟨box_at1 v1 rfl, box_at1 v1 rfl, box_at1 v1 rfl, box_at1 v1 rfl, box_at1 v1 rfl, box_at1 v1 rfl, box_at1 v1 rfl, box_at1 v2 rfl, box_at1 v2 rfl, box_at1 v2 rfl, box_at1 v3 rfl, box_at1 v3 rfl, box_at1 v3 rfl⟩)
        have HS1 : Hid (∀ V, Below w2.heap.size w2 V → Calls Try.prog 11 #[.agg #[.slice (some ⟨B, 0, none⟩) 4 4, .slice none 0 0, .int .i64 0, .int .i64 0, .int .i64 0, .int .i64 0, .slice (some ⟨B1, 0, none⟩) 4 4], .int .i64 1, .int .u64 3] V fun e w' => e = .returned (.bool true) ∧ Below V.heap.size V w') := hd (fun V hb => by
          have := sees_any (HFC.out V (HB2x.out.trans (hb.mono HB2x.out.size))) 1 3 (by decide)
          rw [ex_see.2.2.2.2.2.2.2.2] at this
          exact this)
        have HS2 : Hid (∀ V, Below w2.heap.size w2 V → Calls Try.prog 11 #[.agg #[.slice (some ⟨B, 0, none⟩) 4 4, .slice none 0 0, .int .i64 0, .int .i64 0, .int .i64 0, .int .i64 0, .slice (some ⟨B1, 0, none⟩) 4 4], .int .i64 1, .int .u64 2] V fun e w' => e = .returned (.bool false) ∧ Below V.heap.size V w') := hd (fun V hb => by
          have := sees_any (HFC.out V (HB2x.out.trans (hb.mono HB2x.out.size))) 1 2 (by decide)
          rw [ex_see.2.2.2.2.2.1] at this
          exact this)
        have HM1 : Hid (∀ V, Below w2.heap.size w2 V → Calls Try.prog 13 #[.agg #[.int .i64 7, .slice (some ⟨P, 0, none⟩) 4 4, .slice (some ⟨Q, 0, none⟩) 4 4], .agg #[.int .i64 7, .slice (some ⟨P, 0, none⟩) 4 4, .slice (some ⟨Q, 0, none⟩) 4 4]] V fun e w' => e = .returned (.bool true) ∧ Below V.heap.size V w') := hd (fun V hb => by
          have h := HSE.out.below (HB2x.out.trans (hb.mono HB2x.out.size))
          have := same_any h h
          rw [dec_yes rfl] at this
          exact this)
        have HM2 : Hid (∀ V, Below w2.heap.size w2 V → Calls Try.prog 13 #[.agg #[.int .i64 7, .slice (some ⟨P, 0, none⟩) 4 4, .slice (some ⟨Q, 0, none⟩) 4 4], .agg #[.int .i64 7, .slice (some ⟨g1, 0, none⟩) 4 c1, .slice (some ⟨g2, 0, none⟩) 4 c2]] V fun e w' => e = .returned (.bool false) ∧ Below V.heap.size V w') := hd (fun V hb => by
          have h := HSE.out.below (HB2x.out.trans (hb.mono HB2x.out.size))
          have h2 := HSO.out.below (hbl.trans (hb.mono hbl.size))
          have := same_any h h2
          rw [dec_no exT_ne] at this
          exact this)
        have HFIN : Hid (∀ V, Below w2.heap.size w2 V → Below w.heap.size w V) := hd (fun V hb => by
          have h1 := BW0.out.trans (BWR.out.mono BW0.out.size)
          have h2 := h1.trans (HB2x.out.mono h1.size)
          exact h2.trans (hb.mono h2.size))
        have HBS : Hid (Below w2.heap.size w2 w2) := hd (below_same _)
        obtain ⟨k_0, k_1, k_2, k_3, k_4, k_5, k_6, k_7, k_8, k_9, k_10, k_11, k_12⟩ := HX.out w2 HBS.out
        clear hal hbl hw2 HR1 HR2 HSO HSE HFC HFE HBC HBG HCB
        go_wp2_with (first
          | (go_at_call 11; (with_reducible refine (HS1.out w2 HBS.out).mono ?_); rintro e u1 ⟨rfl, bu1⟩; have bv1 := hd (HBS.out.trans (bu1.mono HBS.out.size)); obtain ⟨k1_0, k1_1, k1_2, k1_3, k1_4, k1_5, k1_6, k1_7, k1_8, k1_9, k1_10, k1_11, k1_12⟩ := HX.out u1 bv1.out)
          | (go_at_call 11; (with_reducible refine (HS2.out u1 bv1.out).mono ?_); rintro e u2 ⟨rfl, bu2⟩; have bv2 := hd (bv1.out.trans (bu2.mono bv1.out.size)); obtain ⟨k2_0, k2_1, k2_2, k2_3, k2_4, k2_5, k2_6, k2_7, k2_8, k2_9, k2_10, k2_11, k2_12⟩ := HX.out u2 bv2.out)
          | (go_at_call 13; (with_reducible refine (HM1.out u2 bv2.out).mono ?_); rintro e u3 ⟨rfl, bu3⟩; have bv3 := hd (bv2.out.trans (bu3.mono bv2.out.size)); obtain ⟨k3_0, k3_1, k3_2, k3_3, k3_4, k3_5, k3_6, k3_7, k3_8, k3_9, k3_10, k3_11, k3_12⟩ := HX.out u3 bv3.out)
          | (go_at_call 13; (with_reducible refine (HM2.out u3 bv3.out).mono ?_); rintro e u4 ⟨rfl, bu4⟩; have bv4 := hd (bv3.out.trans (bu4.mono bv3.out.size)); obtain ⟨k4_0, k4_1, k4_2, k4_3, k4_4, k4_5, k4_6, k4_7, k4_8, k4_9, k4_10, k4_11, k4_12⟩ := HX.out u4 bv4.out))
        go_ret
        exact ⟨rfl, HFIN.out _ bv4.out⟩
end Go.Proofs.Ytjbmljheepomnaa
