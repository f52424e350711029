/- May: the walk. -/
import Derived.Test.YtmjokinagbpihaaDoorGQd
namespace Go.Proofs.YtmjokinagbpihaaDoor
open Go.RowKit

/-- What May tells from its numbers on; from its processes on. -/
def mN4 (c : Cfg) : Int × Int := if cntE 32 c.procs.length ≠ 0 then (cntE 32 c.procs.length, 6) else prF c.labels.length c.locks c.procs 0
def mN3 (c : Cfg) : Int × Int := if rngE 0 4096 c.log ≠ 0 then (2, 5) else mN4 c
def mN2 (c : Cfg) : Int × Int := if rngE 0 8 c.locks ≠ 0 then (2, 4) else mN3 c
def mN1 (c : Cfg) : Int × Int := if rngE 1 64 c.lane ≠ 0 then (2, 3) else mN2 c
def mN0 (c : Cfg) : Int × Int := if rngE 1 256 c.fuel ≠ 0 then (2, 2) else mN1 c
def mayN (c : Cfg) : Nat → Int × Int
  | 0 => mN0 c
  | 1 => mN1 c
  | 2 => mN2 c
  | 3 => mN3 c
  | _ => mN4 c
theorem mayC_eq (c : Cfg) : mayC c = if (lbL c.labels).1 ≠ 0 then (((lbL c.labels).1 : Int), 0) else if tabE c.table c.labels.length ≠ 0 then (tabE c.table c.labels.length, 1) else mayN c 0 := rfl
theorem rngE_two {lo hi v : Int} (h : rngE lo hi v ≠ 0) : rngE lo hi v = 2 := by
  unfold rngE at h ⊢
  split at h
  · exact absurd rfl h
  · next hh => rw [if_neg hh]

theorem prF_at (P K : Int) : ∀ (l : List Pr) (s : Int) (i : Nat), i < l.length → (∀ j, j < i → prE P K (l.getD j default) = 0) → prE P K (l.getD i default) ≠ 0 → prF P K l s = (prE P K (l.getD i default), 7 + (s + i))
  | [], _, i, h, _, _ => absurd h (Nat.not_lt_zero i)
  | x :: r, s, 0, _, _, h => by
    have h' : prE P K x ≠ 0 := by simpa using h
    simp only [prF, if_pos h', List.getD_cons_zero]
    simp
  | x :: r, s, i + 1, hi, hb, h => by
    have h0 : ¬ prE P K x ≠ 0 := by
      have := hb 0 (by omega)
      simpa using this
    have ih := prF_at P K r (s + 1) i (by simpa using hi) (fun j hj => by simpa using hb (j + 1) (by omega)) (by simpa using h)
    simp only [prF, if_neg h0, ih, List.getD_cons_succ, Prod.mk.injEq, true_and]
    omega

set_option maxRecDepth 100000 in
set_option maxHeartbeats 4000000 in
theorem cmay_any (c : Cfg) (g : Loc) (w : World) (hR : CfR w c g) (hF : Fld w) (hL : Lim w) :
    Calls Tryd.prog 10 #[cfV c g] w fun e w' => e = .returned (.tuple #[.int .i64 (mayC c).1, .int .i64 (mayC c).2]) ∧ Below w.heap.size w w' := by
  have HM := hd (mayC_eq c)
  obtain ⟨M, hM⟩ : ∃ M, Hid (mayC c = M) := ⟨_, rfl⟩
  rw [hM.out] at HM ⊢
  have HR := hd hR
  have HF := hd hF
  have HL := hd hL
  have HL2 := hd hR.len
  clear hR hF hL hM
  unfold cfV cfA
  go_enter Tryd.func10, Tryd.ntmps10
  go_upto_region 1 with fail
  obtain ⟨w1, hw1⟩ : ∃ W, Hid (w.alloc (.cells #[.slice g.la c.labels.length g.lc, .slice g.ta c.table.length g.tc, .int .i64 c.fuel, .int .i64 c.lane, .int .i64 c.locks, .int .i64 c.log, .slice g.pa c.procs.length g.pc] 27) = W) := ⟨_, rfl⟩
  rw [hw1.out]
  have B1 : Hid (Below w.heap.size w w1) := hd (by rw [← hw1.out]; exact below_al w _)
  obtain ⟨G, hG⟩ : ∃ G, Hid (w.heap.size = G) := ⟨_, rfl⟩
  have HG : Hid (w1.heap[G]? = some (.cells #[.slice g.la c.labels.length g.lc, .slice g.ta c.table.length g.tc, .int .i64 c.fuel, .int .i64 c.lane, .int .i64 c.locks, .int .i64 c.log, .slice g.pa c.procs.length g.pc] 27 (0, 0))) := hd (by rw [← hw1.out, ← hG.out]; exact heap_alloc_new w _)
  rw [hG.out]
  clear hw1
  have HK : Hid (∀ W, Below w1.heap.size w1 W → W.heap[G]? = some (.cells #[.slice g.la c.labels.length g.lc, .slice g.ta c.table.length g.tc, .int .i64 c.fuel, .int .i64 c.lane, .int .i64 c.locks, .int .i64 c.log, .slice g.pa c.procs.length g.pc] 27 (0, 0))) := hd (fun W hW => (hW.block G (Array.getElem?_eq_some_iff.1 HG.out).1).trans HG.out)
  have HC : Hid (∀ W, Below w1.heap.size w1 W → W.cell? ⟨G, 0, none⟩ = some (.slice g.la c.labels.length g.lc) ∧ W.cell? ⟨G, 1, none⟩ = some (.slice g.ta c.table.length g.tc) ∧ W.cell? ⟨G, 2, none⟩ = some (.int .i64 c.fuel) ∧ W.cell? ⟨G, 3, none⟩ = some (.int .i64 c.lane) ∧ W.cell? ⟨G, 4, none⟩ = some (.int .i64 c.locks) ∧ W.cell? ⟨G, 5, none⟩ = some (.int .i64 c.log) ∧ W.cell? ⟨G, 6, none⟩ = some (.slice g.pa c.procs.length g.pc)) := hd (fun W hW => by
    have h := HK.out W hW
    exact ⟨cell_of_row W G 0 _ _ _ h, cell_of_row W G 1 _ _ _ h, cell_of_row W G 2 _ _ _ h, cell_of_row W G 3 _ _ _ h, cell_of_row W G 4 _ _ _ h, cell_of_row W G 5 _ _ _ h, cell_of_row W G 6 _ _ _ h⟩)
  have HB : Hid (Below w1.heap.size w1 w1) := hd (below_same w1)
  obtain ⟨c0, -⟩ := HC.out w1 HB.out
  have ht := tmay_any g.la g.lc c.labels w1 (HR.out.lab.below B1.out)
  have HE1 : Hid (((lbL c.labels).1 : Int) = 0 → 1 ≤ c.labels.length ∧ c.labels.length ≤ 8) := hd (fun h => lab_len (by omega))
  generalize (lbL c.labels).1 = E1 at *
  generalize (lbL c.labels).2 = D1 at *
  go_upto_region 2 with (go_at_call 26; refine ht.mono ?_; rintro e w2 ⟨rfl, hw2⟩; replace hw2 := hd hw2)
  clear ht c0
  have B2 : Hid (Below w1.heap.size w1 w2) := hd (by obtain ⟨n, e⟩ := hw2.out; rw [e]; exact below_draw w1 n)
  clear hw2
  by_cases hE1 : E1 = 0
  · subst hE1
    replace HM : Hid (M = if tabE c.table c.labels.length ≠ 0 then (tabE c.table c.labels.length, 1) else mayN c 0) := hd (by rw [HM.out, if_neg (by simp)])
    have hlen := HE1.out rfl
    obtain ⟨c0, c1, -⟩ := HC.out w2 B2.out
    have hn := snew_any g.ta g.tc c.table c.labels.length w2 ((HR.out.tab.below B1.out).below B2.out)
    rw [newE_tab _ _ (by omega) (by omega)] at hn
    generalize tabE c.table c.labels.length = E2 at *
    replace hn := hd hn
    go_upto_region 4 with fail
    have hn2 := hn.out
    clear hn
    go_upto_region 5 with (go_at_call 27; refine hn2.mono ?_; rintro e w3 ⟨⟨v, x, rfl⟩, b3⟩; replace b3 := hd b3)
    replace B2 : Hid (Below w1.heap.size w1 w3) := hd (B2.out.trans (b3.out.mono B2.out.size))
    clear b3 hn2 c0 c1 HE1
    by_cases hE2 : E2 = 0
    · subst hE2
      replace HM : Hid (M = mayN c 0) := hd (by rw [HM.out, if_neg (by simp)])
      obtain ⟨c0, c1, c2, c3, c4, c5, c6⟩ := HC.out w3 B2.out
      have hnm := cnum_any c g w3
      unfold cfV cfA nmV at hnm
      go_upto_block 0 with (go_at_call 28; refine hnm.mono ?_; rintro e w4 ⟨rfl, b4⟩; replace b4 := hd b4)
      replace B2 : Hid (Below w1.heap.size w1 w4) := hd (B2.out.trans (b4.out.mono B2.out.size))
      clear b4 hnm c0 c1 c2 c3 c4 c5 c6
      go_wp2_with fail
      go_loopg [9, 10, 11, 40, 41, 42, 43, 44, 45, 46, 47, 48, 49, 50, 51, 52, 53, 54, 55, 56, 57, 58, 59] 4 (fun gg v9 v10 v11 v40 v41 v42 v43 v44 v45 v46 v47 v48 v49 v50 v51 v52 v53 v54 v55 v56 v57 v58 v59 wr => ∃ i : Nat, i + gg = 4 ∧ v40 = .int .i64 (i : Int) ∧ Hid (M = mayN c i) ∧ Hid (Below w1.heap.size w1 wr))
      case atStart => exact ⟨0, by omega, by go_num, HM, B2⟩
      case round =>
        clear HM B2
        obtain ⟨i, hi, rfl, HM, B2⟩ := hrel
        have hc : i = 0 ∨ i = 1 ∨ i = 2 ∨ i = 3 ∨ i = 4 := by omega
        rcases hc with rfl | rfl | rfl | rfl | rfl
        · obtain rfl : gk = 4 := by omega
          have ix : ∀ W, (Instr.index 53 (.agg #[.int .i64 c.fuel, .int .i64 c.lane, .int .i64 c.locks, .int .i64 c.log]) (.int .i64 0)).run Tryd.prog W = .ok (.int .i64 c.fuel) W := fun W => by kernel_rfl
          have y0 := ((HL.out.kept B1.out).kept B2.out) 0 (by omega)
          have y1 := ((HL.out.kept B1.out).kept B2.out) 1 (by omega)
          simp only [limT, List.getD_cons_zero, List.getD_cons_succ] at y0 y1
          have hwi := within_any c.fuel 1 256
          have HM2 : Hid (M = if rngE 1 256 c.fuel ≠ 0 then (2, 2) else mayN c 1) := hd HM.out
          have HT : Hid (rngE 1 256 c.fuel ≠ 0 → rngE 1 256 c.fuel = 2) := hd rngE_two
          clear HM
          generalize rngE 1 256 c.fuel = E at *
          go_upto_region 10 with fail
          go_quiet (first | with_reducible exact Calls.quiet_of_same (hwi _))
          by_cases hE : E = 0
          · subst hE
            clear y0 y1 hwi ix
            go_wp2_with fail
            go_roundg 3
            case rel => exact ⟨1, by omega, rfl, hd (by rw [HM2.out, if_neg (by simp)]), hd (B2.out.trans ((below_draw wr nq).mono B2.out.size))⟩
            case measure => omega
          · obtain rfl : E = 2 := HT.out hE
            obtain rfl : M = (2, 2) := by rw [HM2.out, if_pos hE]
            clear y0 y1 hwi ix hE
            go_wp2_with fail
            go_ret2
            exact ⟨rfl, B1.out.trans ((B2.out.trans ((below_draw wr nq).mono B2.out.size)).mono B1.out.size)⟩
        · obtain rfl : gk = 3 := by omega
          have ix : ∀ W, (Instr.index 53 (.agg #[.int .i64 c.fuel, .int .i64 c.lane, .int .i64 c.locks, .int .i64 c.log]) (.int .i64 1)).run Tryd.prog W = .ok (.int .i64 c.lane) W := fun W => by kernel_rfl
          have y0 := ((HL.out.kept B1.out).kept B2.out) 3 (by omega)
          have y1 := ((HL.out.kept B1.out).kept B2.out) 4 (by omega)
          simp only [limT, List.getD_cons_zero, List.getD_cons_succ] at y0 y1
          have hwi := within_any c.lane 1 64
          have HM2 : Hid (M = if rngE 1 64 c.lane ≠ 0 then (2, 3) else mayN c 2) := hd HM.out
          have HT : Hid (rngE 1 64 c.lane ≠ 0 → rngE 1 64 c.lane = 2) := hd rngE_two
          clear HM
          generalize rngE 1 64 c.lane = E at *
          go_upto_region 10 with fail
          go_quiet (first | with_reducible exact Calls.quiet_of_same (hwi _))
          by_cases hE : E = 0
          · subst hE
            clear y0 y1 hwi ix
            go_wp2_with fail
            go_roundg 2
            case rel => exact ⟨2, by omega, rfl, hd (by rw [HM2.out, if_neg (by simp)]), hd (B2.out.trans ((below_draw wr nq).mono B2.out.size))⟩
            case measure => omega
          · obtain rfl : E = 2 := HT.out hE
            obtain rfl : M = (2, 3) := by rw [HM2.out, if_pos hE]
            clear y0 y1 hwi ix hE
            go_wp2_with fail
            go_ret2
            exact ⟨rfl, B1.out.trans ((B2.out.trans ((below_draw wr nq).mono B2.out.size)).mono B1.out.size)⟩
        · obtain rfl : gk = 2 := by omega
          have ix : ∀ W, (Instr.index 53 (.agg #[.int .i64 c.fuel, .int .i64 c.lane, .int .i64 c.locks, .int .i64 c.log]) (.int .i64 2)).run Tryd.prog W = .ok (.int .i64 c.locks) W := fun W => by kernel_rfl
          have y0 := ((HL.out.kept B1.out).kept B2.out) 6 (by omega)
          have y1 := ((HL.out.kept B1.out).kept B2.out) 7 (by omega)
          simp only [limT, List.getD_cons_zero, List.getD_cons_succ] at y0 y1
          have hwi := within_any c.locks 0 8
          have HM2 : Hid (M = if rngE 0 8 c.locks ≠ 0 then (2, 4) else mayN c 3) := hd HM.out
          have HT : Hid (rngE 0 8 c.locks ≠ 0 → rngE 0 8 c.locks = 2) := hd rngE_two
          clear HM
          generalize rngE 0 8 c.locks = E at *
          go_upto_region 10 with fail
          go_quiet (first | with_reducible exact Calls.quiet_of_same (hwi _))
          by_cases hE : E = 0
          · subst hE
            clear y0 y1 hwi ix
            go_wp2_with fail
            go_roundg 1
            case rel => exact ⟨3, by omega, rfl, hd (by rw [HM2.out, if_neg (by simp)]), hd (B2.out.trans ((below_draw wr nq).mono B2.out.size))⟩
            case measure => omega
          · obtain rfl : E = 2 := HT.out hE
            obtain rfl : M = (2, 4) := by rw [HM2.out, if_pos hE]
            clear y0 y1 hwi ix hE
            go_wp2_with fail
            go_ret2
            exact ⟨rfl, B1.out.trans ((B2.out.trans ((below_draw wr nq).mono B2.out.size)).mono B1.out.size)⟩
        · obtain rfl : gk = 1 := by omega
          have ix : ∀ W, (Instr.index 53 (.agg #[.int .i64 c.fuel, .int .i64 c.lane, .int .i64 c.locks, .int .i64 c.log]) (.int .i64 3)).run Tryd.prog W = .ok (.int .i64 c.log) W := fun W => by kernel_rfl
          have y0 := ((HL.out.kept B1.out).kept B2.out) 9 (by omega)
          have y1 := ((HL.out.kept B1.out).kept B2.out) 10 (by omega)
          simp only [limT, List.getD_cons_zero, List.getD_cons_succ] at y0 y1
          have hwi := within_any c.log 0 4096
          have HM2 : Hid (M = if rngE 0 4096 c.log ≠ 0 then (2, 5) else mayN c 4) := hd HM.out
          have HT : Hid (rngE 0 4096 c.log ≠ 0 → rngE 0 4096 c.log = 2) := hd rngE_two
          clear HM
          generalize rngE 0 4096 c.log = E at *
          go_upto_region 10 with fail
          go_quiet (first | with_reducible exact Calls.quiet_of_same (hwi _))
          by_cases hE : E = 0
          · subst hE
            clear y0 y1 hwi ix
            go_wp2_with fail
            go_roundg 0
            case rel => exact ⟨4, by omega, rfl, hd (by rw [HM2.out, if_neg (by simp)]), hd (B2.out.trans ((below_draw wr nq).mono B2.out.size))⟩
            case measure => omega
          · obtain rfl : E = 2 := HT.out hE
            obtain rfl : M = (2, 5) := by rw [HM2.out, if_pos hE]
            clear y0 y1 hwi ix hE
            go_wp2_with fail
            go_ret2
            exact ⟨rfl, B1.out.trans ((B2.out.trans ((below_draw wr nq).mono B2.out.size)).mono B1.out.size)⟩
        · obtain rfl : gk = 0 := by omega
          replace HM : Hid (M = if cntE 32 c.procs.length ≠ 0 then (cntE 32 c.procs.length, 6) else prF c.labels.length c.locks c.procs 0) := hd HM.out
          obtain ⟨c0, c1, c2, c3, c4, c5, c6⟩ := HC.out wr B2.out
          have hso := some_any c.procs.length 32
          have HT : Hid (cntE 32 c.procs.length = 0 → c.procs.length ≤ 32) := hd (fun h => by have := cnt_len h; omega)
          have HP : Hid (cntE 32 c.procs.length = 0 → c.procs.length ≠ 0) := hd (fun h => by have := cnt_len h; omega)
          generalize cntE 32 (c.procs.length : Int) = E at *
          go_upto_region 15 with (go_at_call 30; refine (hso _).mono ?_; rintro e wq ⟨rfl, hwq⟩; obtain rfl : wr = wq := hwq.symm)
          clear hso
          by_cases hE : E = 0
          · subst hE
            replace HM : Hid (M = prF c.labels.length c.locks c.procs 0) := hd (by rw [HM.out, if_neg (by simp)])
            have hp32 := HT.out rfl
            have hne : 0 < g.ms.length := by rw [HL2.out]; have := HP.out rfl; omega
            obtain ⟨b, o, epa, -⟩ := HR.out.prs _ _ (psC_at g.ms 0 hne).1
            obtain ⟨la, lc, ta, tc, pa, pc, ms⟩ := g
            simp only at epa hne c0 c1 c6 HC ⊢
            subst epa
            replace HL2 : Hid (ms.length = c.procs.length) := HL2
            go_upto_block 2 with fail
            clear c0 c1 c2 c3 c4 c5 c6 HT
            go_wp2_with fail
            go_loopg [13, 14, 15, 70, 71, 72, 73, 74, 75, 76, 77, 78, 79, 80, 81, 82, 83, 84, 85, 86, 87] c.procs.length (fun gg v13 v14 v15 v70 v71 v72 v73 v74 v75 v76 v77 v78 v79 v80 v81 v82 v83 v84 v85 v86 v87 wr => ∃ i : Nat, i + gg = c.procs.length ∧ v70 = .int .i64 (i : Int) ∧ Hid (∀ j, j < i → prE c.labels.length c.locks (c.procs.getD j default) = 0) ∧ Hid (Below w1.heap.size w1 wr))
            case atStart => exact ⟨0, by omega, by go_num, hd (fun j hj => by omega), B2⟩
            case round =>
              clear B2
              obtain ⟨i, hi, rfl, HA, B2⟩ := hrel
              by_cases h0 : gk = 0
              · subst h0
                have hge : decide ((i : Int) < (c.procs.length : Int)) = false := by simp; omega
                have hge' : (c.procs.length : Int) ≤ (i : Int) := by omega
                obtain rfl : M = (0, 0) := by
                  rw [HM.out]
                  refine prF_zero _ _ _ _ ((prF_iff _ _ _ _).2 fun p hp => ?_)
                  obtain ⟨j, hj, rfl⟩ := List.getElem_of_mem hp
                  have := HA.out j (by omega)
                  rwa [List.getD_eq_getElem?_getD, List.getElem?_eq_getElem hj] at this
                go_wp2_with fail
                go_ret2
                exact ⟨rfl, B1.out.trans (B2.out.mono B1.out.size)⟩
              · have hlt : (i : Int) < (c.procs.length : Int) := by omega
                have HRr := hd ((HR.out.below B1.out).below B2.out)
                have hims : i < ms.length := by rw [HL2.out]; omega
                obtain ⟨b', o', epa', x0⟩ := HRr.out.prs _ _ (psC_at ms i hims).1
                cases epa'
                obtain ⟨b', o', epa', x1⟩ := HRr.out.prs _ _ (psC_at ms i hims).2
                cases epa'
                have hx1 : o + (i * 2 + 1) = o + i * 2 + 1 := by omega
                rw [hx1] at x1
                have hRc := HRr.out.cod (ms.getD i default) (by rw [List.getD_eq_getElem?_getD, List.getElem?_eq_getElem hims]; exact List.getElem_mem _)
                have HAt := hd (HRr.out.at i)
                obtain ⟨d0, -, -, -, d4, -, d6⟩ := HC.out wr B2.out
                have HFr := hd ((HF.out.kept B1.out).kept B2.out)
                have hmr : Hid (∀ W, Below wr.heap.size wr W → Calls Tryd.prog 31 #[.agg #[.int .i64 (ms.getD i default).p.part, .slice (ms.getD i default).a (ms.getD i default).p.code.length (ms.getD i default).c], .int .i64 c.labels.length, .int .i64 c.locks] W fun e w' => e = .returned (.int .i64 (prE c.labels.length c.locks (c.procs.getD i default))) ∧ Below W.heap.size W w') := hd (by
                  intro W hW
                  have := mayRun_any (ms.getD i default) c.labels.length c.locks W ⟨by omega, by omega⟩ (hRc.below hW) (HFr.out.kept hW)
                  rw [HAt.out] at this ⊢
                  exact this)
                have HI : Hid (prE c.labels.length c.locks (c.procs.getD i default) ≠ 0 → M = (prE c.labels.length c.locks (c.procs.getD i default), 7 + (i : Int))) := hd (fun hne => by
                  rw [HM.out, prF_at _ _ _ 0 i (by omega) HA.out hne]
                  simp)
                have HN : Hid (prE c.labels.length c.locks (c.procs.getD i default) = 0 → ∀ j, j < i + 1 → prE c.labels.length c.locks (c.procs.getD j default) = 0) := hd (fun hz j hj => by
                  by_cases e : j = i
                  · rw [e]; exact hz
                  · exact HA.out j (by omega))
                clear HM HA hRc HFr HRr HAt
                generalize prE c.labels.length c.locks (c.procs.getD i default) = E at *
                generalize ms.getD i default = m at *
                obtain ⟨⟨part, code⟩, ma, mc⟩ := m
                simp only at x0 x1 hmr
                have hims2 : (i : Int) < (c.procs.length : Int) := hlt
                have hbm := below_al wr (.cells #[.int .i64 part, .slice ma code.length mc] 42)
                have hmc := hmr.out _ hbm
                have e0 := (hbm.cell (p := ⟨G, 0, none⟩) (World.block_lt_of_cell? wr _ d0)).trans d0
                have e4 := (hbm.cell (p := ⟨G, 4, none⟩) (World.block_lt_of_cell? wr _ d4)).trans d4
                replace hbm := hd hbm
                go_upto_region 21 with (go_at_call 31; refine hmc.mono ?_; rintro e w5 ⟨rfl, b5⟩; replace b5 := hd b5)
                replace B2 : Hid (Below w1.heap.size w1 w5) := hd (B2.out.trans ((hbm.out.trans (b5.out.mono hbm.out.size)).mono B2.out.size))
                clear hmc e0 e4 d0 d4 d6 x0 x1 b5 hbm
                by_cases hE : E = 0
                · subst hE
                  go_wp2_with fail
                  go_roundg (gk - 1)
                  case rel => exact ⟨i + 1, by omega, by go_num, hd (HN.out (by trivial)), B2⟩
                  case measure => omega
                · have hE' : (E == 0) = false := by simpa using hE
                  obtain rfl : M = (E, 7 + (i : Int)) := HI.out hE
                  have hi7 : (i : Int) ≤ 32 := by omega
                  go_wp2_with fail
                  go_ret2
                  exact ⟨rfl, B1.out.trans (B2.out.mono B1.out.size)⟩
          · obtain rfl : M = (E, 6) := by rw [HM.out, if_pos hE]
            have hE' : (E == 0) = false := by simpa using hE
            go_wp2_with fail
            go_ret2
            exact ⟨rfl, B1.out.trans (B2.out.mono B1.out.size)⟩
    · obtain rfl : M = (E2, 1) := by rw [HM.out, if_pos hE2]
      have hE' : (E2 == 0) = false := by simpa using hE2
      go_wp2_with fail
      go_ret2
      exact ⟨rfl, B1.out.trans (B2.out.mono B1.out.size)⟩
  · obtain rfl : M = ((E1 : Int), 0) := by rw [HM.out, if_pos hE1]
    have hE' : ((E1 : Int) == 0) = false := by simpa using hE1
    go_wp2_with fail
    go_ret2
    exact ⟨rfl, B1.out.trans (B2.out.mono B1.out.size)⟩
end Go.Proofs.YtmjokinagbpihaaDoor
