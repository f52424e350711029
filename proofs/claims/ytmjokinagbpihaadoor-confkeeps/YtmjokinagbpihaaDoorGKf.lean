/- The document's Few. -/
import Derived.Test.YtmjokinagbpihaaDoorQS6
namespace Go.Proofs.YtmjokinagbpihaaDoor
open Go.RowKit

theorem left_eq {L n : Int} (h0 : 0 ≤ L) (h1 : L ≤ 1048576) (hn : 0 ≤ n) (hm : n ≤ 9223372036854775807) :
    ∃ q M : Int, IntKind.i64.wrap (1 + n) = q ∧ IntKind.i64.wrap (L - q) = M ∧ M ≤ 1048576 ∧ (0 ≤ M → M = L - 1 - n) ∧ -9223372036854775808 ≤ M := by
  by_cases hb : n = 9223372036854775807
  · subst hb
    refine ⟨-9223372036854775808, L - 9223372036854775808, by decide, ?_, by omega, by omega, by omega⟩
    rw [IntKind.wrap_i64]
    omega
  · refine ⟨1 + n, L - (1 + n), ?_, ?_, by omega, by omega, by omega⟩
    · rw [IntKind.wrap_i64]; omega
    · rw [IntKind.wrap_i64]; omega
/-- All programs up to one, and the processes. -/
def sumP (l : List Pr) : Nat → Nat
  | 0 => 0
  | i + 1 => sumP l i + 1 + (l.getD i default).code.length
theorem sumP_le (l : List Pr) : ∀ i j, j < i → (l.getD j default).code.length + 1 ≤ sumP l i
  | 0, j, h => absurd h (Nat.not_lt_zero j)
  | i + 1, j, h => by
    unfold sumP
    by_cases e : j = i
    · subst e; omega
    · have := sumP_le l i j (by omega)
      omega
/-- Short enough to be copied. -/
def FewC (c : Cfg) : Prop := c.labels.length ≤ 1048576 ∧ c.table.length ≤ 1048576 ∧ c.procs.length ≤ 1048576 ∧ ∀ p ∈ c.procs, p.code.length ≤ 1048576

/-- What Few tells. -/
def FewOut (w : World) (c : Cfg) (e : Ending) (w' : World) : Prop := ∃ b : Bool, e = .returned (.bool b) ∧ (b = true → FewC c) ∧ Below w.heap.size w w'

set_option maxRecDepth 100000 in
set_option maxHeartbeats 4000000 in
theorem few_any (c : Cfg) (g : Loc) (w : World) (hR : CfR w c g) (hl : c.labels.length ≤ 9223372036854775807 ∧ c.table.length ≤ 9223372036854775807 ∧ c.procs.length ≤ 9223372036854775807) (hc : ∀ p ∈ c.procs, p.code.length ≤ 9223372036854775807) :
    Calls Tryd.prog 20 #[cfV c g] w (FewOut w c) := by
  unfold cfV cfA
  replace hc := hd hc
  have HR := hd hR
  obtain ⟨w1, hw1⟩ : ∃ W, Hid (w.alloc (.cells #[.slice g.la c.labels.length g.lc, .slice g.ta c.table.length g.tc, .int .i64 c.fuel, .int .i64 c.lane, .int .i64 c.locks, .int .i64 c.log, .slice g.pa c.procs.length g.pc] 27) = W) := ⟨_, rfl⟩
  have B1 : Hid (Below w.heap.size w w1) := hd (by rw [← hw1.out]; exact below_al w _)
  obtain ⟨G, hG⟩ : ∃ G, Hid (w.heap.size = G) := ⟨_, rfl⟩
  have HG : Hid (w1.heap[G]? = some (.cells #[.slice g.la c.labels.length g.lc, .slice g.ta c.table.length g.tc, .int .i64 c.fuel, .int .i64 c.lane, .int .i64 c.locks, .int .i64 c.log, .slice g.pa c.procs.length g.pc] 27 (0, 0))) := hd (by rw [← hw1.out, ← hG.out]; exact heap_alloc_new w _)
  have x0 := cell_of_row w1 G 0 _ _ _ HG.out
  have x1 := cell_of_row w1 G 1 _ _ _ HG.out
  have x6 := cell_of_row w1 G 6 _ _ _ HG.out
  simp at x0 x1 x6
  clear HG
  obtain ⟨hl0, hl1, hl2⟩ := hl
  by_cases hbig : c.labels.length ≤ 1048576 ∧ c.table.length ≤ 1048576 ∧ c.procs.length ≤ 1048576
  · obtain ⟨h0, h1, h2⟩ := hbig
    have d0 : decide ((1048576 : Int) < (c.labels.length : Int)) = false := by simp; omega
    have d1 : decide ((1048576 : Int) < (c.table.length : Int)) = false := by simp; omega
    have d2 : decide ((1048576 : Int) < (c.procs.length : Int)) = false := by simp; omega
    have e0 : (c.labels.length : Int) ≤ 1048576 := by omega
    have e1 : (c.table.length : Int) ≤ 1048576 := by omega
    have e2 : (c.procs.length : Int) ≤ 1048576 := by omega
    have HFi : Hid ((∀ j, j < c.procs.length → (c.procs.getD j default).code.length ≤ 1048576) → FewC c) := hd (fun h => ⟨h0, h1, h2, fun p hp => by
      obtain ⟨j, hj, rfl⟩ := List.getElem_of_mem hp
      have := h j hj
      rwa [List.getD_eq_getElem?_getD, List.getElem?_eq_getElem hj] at this⟩)
    go_enter Tryd.func20, Tryd.ntmps20
    go_upto_region 1 with fail
    rw [hw1.out, hG.out]
    go_upto_block 0 with fail
    clear d0 d1 d2 e0 e1 x0 x1
    go_wp2_with fail
    go_loopg [3, 4, 24, 25, 26, 27, 28, 29, 30, 31, 32, 33, 34, 35, 36, 37, 38, 39, 40, 41, 42, 43, 44] c.procs.length (fun gg v3 v4 v24 v25 v26 v27 v28 v29 v30 v31 v32 v33 v34 v35 v36 v37 v38 v39 v40 v41 v42 v43 v44 wr => ∃ (i : Nat) (L : Int), v4 = .int .i64 (i : Int) ∧ v3 = .int .i64 L ∧ i + gg = c.procs.length ∧ (L ≤ 1048576 ∧ -9223372036854775808 ≤ L) ∧ Hid (0 ≤ L → (sumP c.procs i : Int) + L = 1048576) ∧ wr = w1)
    case atStart => exact ⟨0, 1048576, by go_num, rfl, by omega, by omega, hd (fun _ => by simp [sumP]), rfl⟩
    case round =>
      obtain ⟨i, L, rfl, rfl, hi, ⟨hL1, hL2⟩, HS, hwr⟩ := hrel
      obtain rfl : w1 = wr := hwr.symm
      by_cases h0 : gk = 0
      · subst h0
        have hge : decide ((i : Int) < (c.procs.length : Int)) = false := by simp; omega
        have hge' : (c.procs.length : Int) ≤ (i : Int) := by omega
        by_cases hL : 0 ≤ L
        · have HE : Hid (FewOut w c (.returned (.bool true)) w1) := hd ⟨true, rfl, fun _ => HFi.out (fun j hj => by
            have h1 := HS.out hL
            have h2 := sumP_le c.procs i j (by omega)
            omega), B1.out⟩
          go_wp2_with fail
          go_ret
          exact HE.out
        · have dL : decide (0 ≤ L) = false := by simpa using hL
          have dL' : L < 0 := by omega
          clear hL HS
          go_wp2_with fail
          go_ret
          exact ⟨false, rfl, (fun h => by cases h), B1.out⟩
      · have hlt : (i : Int) < (c.procs.length : Int) := by omega
        by_cases hL : 0 ≤ L
        · have hims : i < g.ms.length := by rw [HR.out.len]; omega
          have HRr := hd (HR.out.below B1.out)
          obtain ⟨b', o', epa', y1⟩ := HRr.out.prs _ _ (psC_at g.ms i hims).2
          have hx1 : o' + (i * 2 + 1) = o' + i * 2 + 1 := by omega
          rw [hx1] at y1
          have HAt := hd (HRr.out.at i)
          have hcl : ((g.ms.getD i default).p.code.length : Int) ≤ 9223372036854775807 := by
            rw [HAt.out]
            have := hc.out (c.procs.getD i default) (by rw [List.getD_eq_getElem?_getD, List.getElem?_eq_getElem (show i < c.procs.length by omega)]; exact List.getElem_mem _)
            omega
          obtain ⟨q, M, hq, hM, hM1, hM2, hM3⟩ := left_eq hL hL1 (n := ((g.ms.getD i default).p.code.length : Int)) (by omega) hcl
          have HN : Hid (0 ≤ M → (sumP c.procs (i + 1) : Int) + M = 1048576) := hd (fun h => by
            have h1 := HS.out hL
            have h2 := hM2 h
            rw [HAt.out] at h2
            show ((sumP c.procs i + 1 + (c.procs.getD i default).code.length : Nat) : Int) + M = 1048576
            omega)
          replace hM2 := hd hM2
          clear HRr HAt HS hc
          generalize g.ms.getD i default = m at *
          generalize m.p.code.length = n at *
          rw [epa'] at x6
          replace epa' := hd epa'
          go_wp2_with fail
          go_roundg (gk - 1)
          case rel => exact ⟨i + 1, M, by go_num, rfl, by omega, ⟨hM1, hM3⟩, HN, rfl⟩
          case measure => omega
        · have dL : decide (0 ≤ L) = false := by simpa using hL
          have dL' : L < 0 := by omega
          clear hL HS
          go_wp2_with fail
          go_ret
          exact ⟨false, rfl, (fun h => by cases h), B1.out⟩
  · have h3 : 1048576 < c.labels.length ∨ (c.labels.length ≤ 1048576 ∧ 1048576 < c.table.length) ∨ (c.labels.length ≤ 1048576 ∧ c.table.length ≤ 1048576 ∧ 1048576 < c.procs.length) := by omega
    clear hbig
    rcases h3 with h | ⟨h, h'⟩ | ⟨h, h', h''⟩
    · have d0 : (1048576 : Int) < (c.labels.length : Int) := by omega
      go_enter Tryd.func20, Tryd.ntmps20
      go_upto_region 1 with fail
      rw [hw1.out, hG.out]
      go_wp2_with fail
      go_ret
      exact ⟨false, rfl, (fun h => by cases h), B1.out⟩
    · have d0 : decide ((1048576 : Int) < (c.labels.length : Int)) = false := by simp; omega
      have e0 : (c.labels.length : Int) ≤ 1048576 := by omega
      have d1 : (1048576 : Int) < (c.table.length : Int) := by omega
      go_enter Tryd.func20, Tryd.ntmps20
      go_upto_region 1 with fail
      rw [hw1.out, hG.out]
      go_wp2_with fail
      go_ret
      exact ⟨false, rfl, (fun h => by cases h), B1.out⟩
    · have d0 : decide ((1048576 : Int) < (c.labels.length : Int)) = false := by simp; omega
      have d1 : decide ((1048576 : Int) < (c.table.length : Int)) = false := by simp; omega
      have e0 : (c.labels.length : Int) ≤ 1048576 := by omega
      have e1 : (c.table.length : Int) ≤ 1048576 := by omega
      have d2 : (1048576 : Int) < (c.procs.length : Int) := by omega
      go_enter Tryd.func20, Tryd.ntmps20
      go_upto_region 1 with fail
      rw [hw1.out, hG.out]
      go_wp2_with fail
      go_ret
      exact ⟨false, rfl, (fun h => by cases h), B1.out⟩
end Go.Proofs.YtmjokinagbpihaaDoor

/- The law's marked. -/
namespace Go.Proofs.YtmjokinagbpihaaDoor
open Go.RowKit

/-- A config all of whose lists have a mark alone. -/
structure Marks (c : Cfg) (m : Nat) : Prop where
  lab : ∀ x ∈ c.labels, x = m
  tab : ∀ x ∈ c.table, x = (m : Int)
  cod : ∀ i, i < c.procs.length → ∀ x ∈ (c.procs.getD i default).code, x = (⟨(m : Int), (i : Int), 0, 0, 0⟩ : Ins)
theorem getD_mem {α : Type} {l : List α} {i : Nat} (h : i < l.length) (d : α) : l.getD i d ∈ l := by
  rw [List.getD_eq_getElem?_getD, List.getElem?_eq_getElem h]
  exact List.getElem_mem _

set_option maxRecDepth 100000 in
set_option maxHeartbeats 4000000 in
theorem marked_any (c : Cfg) (g : Loc) (m : Nat) (w : World) (hR : CfR w c g) (hm : m ≤ 1000) (hM : Marks c m) (hl : c.labels.length ≤ 1000000000 ∧ c.table.length ≤ 1000000000 ∧ c.procs.length ≤ 1000000000) (hc : ∀ p ∈ c.procs, p.code.length ≤ 1000000000) :
    Calls Tryd.prog 23 #[cfV c g, .int .i64 (m : Int)] w fun e w' => e = .returned (.bool true) ∧ Below w.heap.size w w' := by
  obtain ⟨la, lc, ta, tc, pa, pc, ms⟩ := g
  unfold cfV cfA
  simp only
  replace hc := hd hc
  have HM := hd hM
  obtain ⟨hl0, hl1, hl2⟩ := hl
  obtain ⟨w1, hw1⟩ : ∃ W, Hid (w.alloc (.cells #[.slice la c.labels.length lc, .slice ta c.table.length tc, .int .i64 c.fuel, .int .i64 c.lane, .int .i64 c.locks, .int .i64 c.log, .slice pa c.procs.length pc] 27) = W) := ⟨_, rfl⟩
  have B1 : Hid (Below w.heap.size w w1) := hd (by rw [← hw1.out]; exact below_al w _)
  obtain ⟨G, hG⟩ : ∃ G, Hid (w.heap.size = G) := ⟨_, rfl⟩
  have HG : Hid (w1.heap[G]? = some (.cells #[.slice la c.labels.length lc, .slice ta c.table.length tc, .int .i64 c.fuel, .int .i64 c.lane, .int .i64 c.locks, .int .i64 c.log, .slice pa c.procs.length pc] 27 (0, 0))) := hd (by rw [← hw1.out, ← hG.out]; exact heap_alloc_new w _)
  have HR := hd (hR.below B1.out)
  have x0 := cell_of_row w1 G 0 _ _ _ HG.out
  have x1 := cell_of_row w1 G 1 _ _ _ HG.out
  have x6 := cell_of_row w1 G 6 _ _ _ HG.out
  simp at x0 x1 x6
  clear hR hM HG
  go_enter Tryd.func23, Tryd.ntmps23
  go_upto_region 1 with fail
  rw [hw1.out, hG.out]
  go_upto_block 0 with fail
  go_cut [6, 16] (fun v6 v16 wy => wy = w1)
  case first =>
    go_wp2_with fail
    go_loopg [6, 16, 17, 18, 19, 20, 21, 22, 23, 24] c.labels.length (fun gg v6 v16 v17 v18 v19 v20 v21 v22 v23 v24 wr => ∃ i : Nat, v16 = .int .i64 (i : Int) ∧ i + gg = c.labels.length ∧ wr = w1)
    case atStart => exact ⟨0, by go_num, by omega, rfl⟩
    case round =>
      obtain ⟨i, rfl, hi, hwr⟩ := hrel
      obtain rfl : w1 = wr := hwr.symm
      by_cases h0 : gk = 0
      · subst h0
        have hge : decide ((i : Int) < (c.labels.length : Int)) = false := by simp; omega
        have hge' : (c.labels.length : Int) ≤ (i : Int) := by omega
        go_wp2_with fail
        go_meet
        rfl
      · have hlt : (i : Int) < (c.labels.length : Int) := by omega
        obtain ⟨bl, ol, e1, hcl⟩ := rd_lab HR.out.lab (by omega)
        simp only at e1
        subst e1
        have y := hcl i (by omega)
        rw [HM.out.lab _ (getD_mem (by omega) 0)] at y
        clear hcl
        go_wp2_with fail
        go_roundg (gk - 1)
        case rel => exact ⟨i + 1, by go_num, by omega, rfl⟩
        case measure => omega
  case rest =>
  obtain rfl : w1 = wc := hcut.symm
  go_upto_block 2 with fail
  go_cut [8, 28] (fun v8 v28 wy => wy = w1)
  case first =>
    go_wp2_with fail
    go_loopg [8, 28, 29, 30, 31, 32, 33, 34, 35] c.table.length (fun gg v8 v28 v29 v30 v31 v32 v33 v34 v35 wr => ∃ i : Nat, v28 = .int .i64 (i : Int) ∧ i + gg = c.table.length ∧ wr = w1)
    case atStart => exact ⟨0, by go_num, by omega, rfl⟩
    case round =>
      obtain ⟨i, rfl, hi, hwr⟩ := hrel
      obtain rfl : w1 = wr := hwr.symm
      by_cases h0 : gk = 0
      · subst h0
        have hge : decide ((i : Int) < (c.table.length : Int)) = false := by simp; omega
        have hge' : (c.table.length : Int) ≤ (i : Int) := by omega
        go_wp2_with fail
        go_meet
        rfl
      · have hlt : (i : Int) < (c.table.length : Int) := by omega
        obtain ⟨bt, ot, e1, hcl⟩ := rd_int HR.out.tab (by omega)
        simp only at e1
        subst e1
        have y := hcl i (by omega)
        rw [HM.out.tab _ (getD_mem (by omega) 0)] at y
        clear hcl
        go_wp2_with fail
        go_roundg (gk - 1)
        case rel => exact ⟨i + 1, by go_num, by omega, rfl⟩
        case measure => omega
  case rest =>
  obtain rfl : w1 = wc := hcut.symm
  go_upto_block 4 with fail
  clear x0 x1 x6
  go_wp2_with fail
  go_loopg [9, 10, 12, 39, 40, 41, 42, 43, 44, 45, 46, 47, 48, 49, 50, 51, 52, 53, 54, 55, 56, 57] c.procs.length (fun gg v9 v10 v12 v39 v40 v41 v42 v43 v44 v45 v46 v47 v48 v49 v50 v51 v52 v53 v54 v55 v56 v57 wr => ∃ i : Nat, v39 = .int .i64 (i : Int) ∧ i + gg = c.procs.length ∧ Hid (Below w1.heap.size w1 wr))
  case atStart => exact ⟨0, by go_num, by omega, hd (below_same w1)⟩
  case round =>
    obtain ⟨i, rfl, hi, HB⟩ := hrel
    by_cases h0 : gk = 0
    · subst h0
      have hge : decide ((i : Int) < (c.procs.length : Int)) = false := by simp; omega
      have hge' : (c.procs.length : Int) ≤ (i : Int) := by omega
      go_wp2_with fail
      go_ret
      exact ⟨rfl, B1.out.trans (HB.out.mono B1.out.size)⟩
    · have hlt : (i : Int) < (c.procs.length : Int) := by omega
      have HRr := hd (HR.out.below HB.out)
      have hims : i < ms.length := by have := HRr.out.len; simp only at this; omega
      obtain ⟨b, o, epa, y0⟩ := HRr.out.prs _ _ (psC_at ms i hims).1
      simp only at epa
      subst epa
      obtain ⟨b', o', epa', y1⟩ := HRr.out.prs _ _ (psC_at ms i hims).2
      cases epa'
      have hx1 : o + (i * 2 + 1) = o + i * 2 + 1 := by omega
      rw [hx1] at y1
      have HRc := hd (HRr.out.cod (ms.getD i default) (getD_mem hims default))
      have HAt := hd (HRr.out.at i)
      simp only at HAt
      have hcl : (ms.getD i default).p.code.length ≤ 1000000000 := by
        rw [HAt.out]
        exact hc.out _ (getD_mem (by omega) default)
      have HX : Hid (∀ x ∈ (ms.getD i default).p.code, x = (⟨(m : Int), (i : Int), 0, 0, 0⟩ : Ins)) := hd (by rw [HAt.out]; exact HM.out.cod i (by omega))
      clear HRr HAt
      generalize ms.getD i default = pm at *
      obtain ⟨⟨part, code⟩, ma, mc⟩ := pm
      simp only at y0 y1 HRc hcl HX
      obtain ⟨GK, rfl⟩ : ∃ x, x = gk := ⟨_, rfl⟩
      go_upto_region 16 with fail
      obtain ⟨wa, hwa⟩ : ∃ W, Hid (wr.alloc (.cells #[.int .i64 part, .slice ma code.length mc] 42) = W) := ⟨_, rfl⟩
      rw [hwa.out]
      have ba : Hid (Below wr.heap.size wr wa) := hd (by rw [← hwa.out]; exact below_al wr _)
      have z1 : wa.cell? ⟨wr.heap.size, 1, none⟩ = some (.slice ma code.length mc) := by rw [← hwa.out]; exact cell_of_row _ _ _ _ _ _ (heap_alloc_new wr _)
      obtain ⟨Bp, hBp⟩ : ∃ B, Hid (wr.heap.size = B) := ⟨_, rfl⟩
      rw [hBp.out] at z1 ⊢
      clear hwa hBp y0 y1
      go_upto_block 6 with fail
      clear z1
      go_wp2_with fail
      go_loopg [12, 47, 48, 49, 50, 51, 52, 53, 54, 55, 56] code.length (fun gg v12 v47 v48 v49 v50 v51 v52 v53 v54 v55 v56 wq => ∃ k : Nat, v47 = .int .i64 (k : Int) ∧ k + gg = code.length ∧ Hid (Below wr.heap.size wr wq))
      case atStart => exact ⟨0, by go_num, by omega, ba⟩
      case round =>
        obtain ⟨k, rfl, hk, HBk⟩ := hrel
        have hg0 : gk = 0 ∨ gk ≠ 0 := by omega
        rcases hg0 with hg0 | hg0
        · subst hg0
          have hge : decide ((k : Int) < (code.length : Int)) = false := by simp; omega
          have hge' : (code.length : Int) ≤ (k : Int) := by omega
          go_wp2_with fail
          go_roundg (GK - 1)
          case rel => exact ⟨i + 1, by go_num, by omega, hd (HB.out.trans (HBk.out.mono HB.out.size))⟩
          case measure => omega
        · have hltk : (k : Int) < (code.length : Int) := by omega
          obtain ⟨mb, mo, rfl, hI⟩ := (prg_of_rd (HRc.out.below HBk.out)) k (by omega)
          rw [HX.out _ (getD_mem (by omega) default)] at hI
          have y0 := hI.c0
          have y1 := hI.c1
          have y2 := hI.c2
          have y3 := hI.c3
          have y4 := hI.c4
          simp only at y0 y1 y2 y3 y4
          clear hI
          have HBz : Hid (∀ o, Below _ _ (World.alloc _ o)) := hd (fun o => HBk.out.alloc HBk.out.size o)
          go_wp2_with fail
          go_roundg (gk - 1)
          case rel => exact ⟨k + 1, by go_num, by omega, hd (HBz.out _)⟩
          case measure => omega
end Go.Proofs.YtmjokinagbpihaaDoor
