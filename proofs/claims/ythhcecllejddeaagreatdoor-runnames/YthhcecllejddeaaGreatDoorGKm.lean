/- The document's limits and tables. -/
import Derived.Test.YthhcecllejddeaaGreatDoorGQd
import Derived.Test.YthhcecllejddeaaGreatDoorGQe
namespace Go.Proofs.YthhcecllejddeaaGreatDoor
open Go.RowKit
def inR (lo hi v : Int) : Bool := rngE lo hi v == 0
theorem inR_true {lo hi v : Int} (h : inR lo hi v = true) : rngE lo hi v = 0 := by simpa [inR] using h
theorem inR_false {lo hi v : Int} (h : inR lo hi v = false) : rngE lo hi v ≠ 0 := by simpa [inR] using h
set_option maxRecDepth 100000 in
theorem dwithin_any (v lo hi : Int) (w : World) :
  Calls Tryz.prog 57 #[.int .i64 v, .int .i64 lo, .int .i64 hi] w fun e w' => e = .returned (.bool (inR lo hi v)) ∧ w' = w := by
 obtain ⟨E, hE⟩ : ∃ E, Hid (inR lo hi v = E) := ⟨_, rfl⟩
 rw [hE.out]
 by_cases h1 : lo ≤ v
 ·by_cases h2 : v ≤ hi
  ·obtain rfl : E = true := by rw [← hE.out, inR, rngE, if_pos ⟨h1, h2⟩]; rfl
   go_enter Tryz.func57, Tryz.ntmps57
   go_wp2
   go_ret
   exact ⟨rfl, rfl⟩
  ·obtain rfl : E = false := by rw [← hE.out, inR, rngE, if_neg (fun h => h2 h.2)]; rfl
   have d2 : decide (v ≤ hi) = false := by simpa using h2
   have d2' : hi < v := by omega
   clear h2
   go_enter Tryz.func57, Tryz.ntmps57
   go_wp2
   go_ret
   exact ⟨rfl, rfl⟩
 ·obtain rfl : E = false := by rw [← hE.out, inR, rngE, if_neg (fun h => h1 h.1)]; rfl
  have d1 : decide (lo ≤ v) = false := by simpa using h1
  have d1' : v < lo := by omega
  clear h1
  go_enter Tryz.func57, Tryz.ntmps57
  go_wp2
  go_ret
  exact ⟨rfl, rfl⟩
theorem isPt_in (P x : Int) : isPt P x = inR 0 (P - 1) x := by
 unfold isPt inR rngE
 by_cases h : 0 ≤ x ∧ x ≤ P - 1
 ·rw [if_pos h]
  have : x < P := by omega
  simp [h.1, this]
 ·rw [if_neg h]
  by_cases h0 : 0 ≤ x
  ·have : ¬ x < P := fun h1 => h ⟨h0, by omega⟩
   simp [this]
  ·simp [h0]
set_option maxRecDepth 100000 in
set_option maxHeartbeats 1000000 in
theorem dtables_any (a : Option Addr) (cap : Nat) (l : List Int) (P : Int) (w : World) (hR : Rd w a (iC l)) (hP : 0 ≤ P ∧ P ≤ 1000000) :
  Calls Tryz.prog 56 #[.slice a l.length cap, .int .i64 P] w fun e w' => e = .returned (.int .i64 (tabE l P)) ∧ w' = w := by
 obtain ⟨E, hE⟩ : ∃ E, Hid (tabE l P = E) := ⟨_, rfl⟩
 rw [hE.out]
 by_cases h0 : l.length = 0
 ·obtain rfl : E = 1 := by rw [← hE.out, tabE, if_pos h0]
  have h0' : ((l.length : Int) == 0) = true := by rw [beq_iff_eq]; omega
  clear hR h0 hE
  generalize l.length = len at *
  go_enter Tryz.func56, Tryz.ntmps56
  go_wp2
  go_ret
  exact ⟨rfl, rfl⟩
 ·have h0' : ((l.length : Int) == 0) = false := by rw [beq_eq_false_iff_ne]; omega
  by_cases h64 : 64 < l.length
  ·obtain rfl : E = 3 := by rw [← hE.out, tabE, if_neg h0, if_pos h64]
   have h8' : (64 : Int) < (l.length : Int) := by omega
   clear hR h0 hE h64
   generalize l.length = len at *
   go_enter Tryz.func56, Tryz.ntmps56
   go_wp2
   go_ret
   exact ⟨rfl, rfl⟩
  ·have h8' : (l.length : Int) ≤ 64 := by omega
   have h8d : decide ((64 : Int) < (l.length : Int)) = false := by simp; omega
   have HT : Hid (E = if l.all (isPt P) then 0 else 2) := hd (by rw [← hE.out, tabE, if_neg h0, if_neg h64])
   obtain ⟨b, off, rfl, hc⟩ := rd_int hR (by omega)
   have HC := hd hc
   have eP : IntKind.i64.wrap (P - 1) = P - 1 := by rw [IntKind.wrap_i64]; omega
   clear hc hR hE h0 h64
   go_enter Tryz.func56, Tryz.ntmps56
   go_upto_block 0 with fail
   go_wp2_with fail
   go_loopg [4, 5, 12, 13, 14, 15, 16, 17, 18, 19, 20, 21, 22, 23, 24, 25] l.length (fun gg v4 v5 v12 v13 v14 v15 v16 v17 v18 v19 v20 v21 v22 v23 v24 v25 wr => ∃ i : Nat, i + gg = l.length ∧ v5 = .int .i64 (i : Int) ∧ Hid (∀ j, j < i → isPt P (l.getD j 0) = true) ∧ wr = w)
   case atStart => exact ⟨0, by omega, by go_num, hd (fun j hj => absurd hj (Nat.not_lt_zero j)), rfl⟩
   case round =>
    obtain ⟨i, hi, rfl, HA, rfl⟩ := hrel
    by_cases h0 : gk = 0
    ·subst h0
     have hge : decide ((i : Int) < (l.length : Int)) = false := by simp; omega
     have hge' : (l.length : Int) ≤ (i : Int) := by omega
     obtain rfl : E = 0 := by
      rw [HT.out, if_pos]
      rw [List.all_eq_true]
      intro x hx
      obtain ⟨j, hj, rfl⟩ := List.getElem_of_mem hx
      have := HA.out j (by omega)
      rwa [List.getD_eq_getElem?_getD, List.getElem?_eq_getElem hj] at this
     go_wp2_with fail
     go_ret
     exact ⟨rfl, rfl⟩
    ·have hlt : (i : Int) < (l.length : Int) := by omega
     have hx := HC.out i (by omega)
     have hwi := dwithin_any (l.getD i 0) 0 (P - 1) wr
     rw [← isPt_in] at hwi
     have HI : Hid (isPt P (l.getD i 0) = false → E = 2) := hd (fun h => by
      rw [HT.out, if_neg]
      intro h2
      have := all_at h2 i (by omega)
      rw [h] at this
      cases this)
     have HN : Hid (isPt P (l.getD i 0) = true → ∀ j, j < i + 1 → isPt P (l.getD j 0) = true) := hd (fun h j hj => by
      by_cases e : j = i
      ·rw [e]; exact h
      ·exact HA.out j (by omega))
     clear HA HC HT
     generalize isPt P (l.getD i 0) = B at *
     generalize l.getD i 0 = x at *
     cases B with
     | true =>
      go_wp2_with (go_at_call 57; refine hwi.mono ?_; rintro e wq ⟨rfl, hwq⟩; obtain rfl : wr = wq := hwq.symm)
      go_roundg (gk - 1)
      case rel => exact ⟨i + 1, by omega, by go_num, hd (HN.out (by trivial)), rfl⟩
      case measure => omega
     | false =>
      obtain rfl : E = 2 := HI.out (by trivial)
      go_wp2_with (go_at_call 57; refine hwi.mono ?_; rintro e wq ⟨rfl, hwq⟩; obtain rfl : wr = wq := hwq.symm)
      go_ret
      exact ⟨rfl, rfl⟩
end Go.Proofs.YthhcecllejddeaaGreatDoor

namespace Go.Proofs.YthhcecllejddeaaGreatDoor
open Go.RowKit
set_option maxRecDepth 100000 in
set_option maxHeartbeats 4000000 in
theorem dmay_any (c : Cfg) (g : Loc) (w : World) (hR : CfR w c g) :
  Calls Tryz.prog 29 #[cfV c g] w fun e w' => e = .returned (.tuple #[.int .i64 (mayC c).1, .int .i64 (mayC c).2]) ∧ Below w.heap.size w w' := by
 have HM := hd (mayC_eq c)
 obtain ⟨M, hM⟩ : ∃ M, Hid (mayC c = M) := ⟨_, rfl⟩
 rw [hM.out] at HM ⊢
 have HR := hd hR
 have HL2 := hd hR.len
 clear hR hM
 unfold cfV cfA
 go_enter Tryz.func29, Tryz.ntmps29
 go_upto_region 1 with fail
 obtain ⟨w1, hw1⟩ : ∃ W, Hid (w.alloc (.cells #[.slice g.la c.labels.length g.lc, .slice g.ta c.table.length g.tc, .int .i64 c.fuel, .int .i64 c.lane, .int .i64 c.locks, .int .i64 c.log, .slice g.pa c.procs.length g.pc] 27) = W) := ⟨_, rfl⟩
 rw [hw1.out]
 have B1 : Hid (Below w.heap.size w w1) := hd (by rw [← hw1.out]; exact below_al w _)
 obtain ⟨G, hG⟩ : ∃ G, Hid (w.heap.size = G) := ⟨_, rfl⟩
 have HG : Hid (w1.heap[G]? = some (.cells #[.slice g.la c.labels.length g.lc, .slice g.ta c.table.length g.tc, .int .i64 c.fuel, .int .i64 c.lane, .int .i64 c.locks, .int .i64 c.log, .slice g.pa c.procs.length g.pc] 27 (0, 0))) := hd (by rw [← hw1.out, ← hG.out]; exact heap_alloc_new w _)
 rw [hG.out]
 clear hw1
 have HK : Hid (∀ W, Below w1.heap.size w1 W → W.heap[G]? = some (.cells #[.slice g.la c.labels.length g.lc, .slice g.ta c.table.length g.tc, .int .i64 c.fuel, .int .i64 c.lane, .int .i64 c.locks, .int .i64 c.log, .slice g.pa c.procs.length g.pc] 27 (0, 0))) := hd (fun W hW => (hW.block G (Array.getElem?_eq_some_iff.1 HG.out).1).trans HG.out)
 have HC : Hid (∀ W, Below w1.heap.size w1 W → W.cell? ⟨G, 0, none⟩ = some (.slice g.la c.labels.length g.lc) ∧ W.cell? ⟨G, 1, none⟩ = some (.slice g.ta c.table.length g.tc) ∧ W.cell? ⟨G, 2, none⟩ = some (.int .i64 c.fuel) ∧ W.cell? ⟨G, 3, none⟩ = some (.int .i64 c.lane) ∧ W.cell? ⟨G, 4, none⟩ = some (.int .i64 c.locks) ∧ W.cell? ⟨G, 5, none⟩ = some (.int .i64 c.log) ∧ W.cell? ⟨G, 6, none⟩ = some (.slice g.pa c.procs.length g.pc)) := hd (fun W hW => by
  have h := HK.out W hW
  exact ⟨cell_of_row W G 0 _ _ _ h, cell_of_row W G 1 _ _ _ h, cell_of_row W G 2 _ _ _ h, cell_of_row W G 3 _ _ _ h, cell_of_row W G 4 _ _ _ h, cell_of_row W G 5 _ _ _ h, cell_of_row W G 6 _ _ _ h⟩)
 have HB : Hid (Below w1.heap.size w1 w1) := hd (below_same w1)
 obtain ⟨c0, -⟩ := HC.out w1 HB.out
 have ht := rtmay_any g.la g.lc c.labels w1 (HR.out.lab.below B1.out)
 have HE1 : Hid (((lbL c.labels).1 : Int) = 0 → 1 ≤ c.labels.length ∧ c.labels.length ≤ 8) := hd (fun h => lab_len (by omega))
 generalize (lbL c.labels).1 = E1 at *
 generalize (lbL c.labels).2 = D1 at *
 go_upto_region 2 with (go_at_call 55; refine ht.mono ?_; rintro e w2 ⟨rfl, hw2⟩; replace hw2 := hd hw2)
 clear ht c0
 have B2 : Hid (Below w1.heap.size w1 w2) := hd (by obtain ⟨n, e⟩ := hw2.out; rw [e]; exact below_draw w1 n)
 clear hw2
 by_cases hE1 : E1 = 0
 ·subst hE1
  replace HM : Hid (M = if tabE c.table c.labels.length ≠ 0 then (tabE c.table c.labels.length, 1) else mayN c 0) := hd (by rw [HM.out, if_neg (by simp)])
  have hlen := HE1.out rfl
  obtain ⟨c0, c1, -⟩ := HC.out w2 B2.out
  have hn := dtables_any g.ta g.tc c.table c.labels.length w2 ((HR.out.tab.below B1.out).below B2.out) (by omega)
  generalize tabE c.table c.labels.length = E2 at *
  go_upto_region 5 with (go_at_call 56; refine hn.mono ?_; rintro e wq ⟨rfl, hwq⟩; obtain rfl : w2 = wq := hwq.symm)
  clear hn c0 c1 HE1
  by_cases hE2 : E2 = 0
  ·subst hE2
   replace HM : Hid (M = mayN c 0) := hd (by rw [HM.out, if_neg (by simp)])
   obtain ⟨-, -, c2, c3, c4, c5, -⟩ := HC.out w2 B2.out
   have q0 := dwithin_any c.fuel 1 256
   have q1 := dwithin_any c.lane 1 64
   have q2 := dwithin_any c.locks 0 8
   have q3 := dwithin_any c.log 0 4096
   obtain ⟨f0, hf0⟩ : ∃ f, Hid (inR 1 256 c.fuel = f) := ⟨_, rfl⟩
   obtain ⟨f1, hf1⟩ : ∃ f, Hid (inR 1 64 c.lane = f) := ⟨_, rfl⟩
   obtain ⟨f2, hf2⟩ : ∃ f, Hid (inR 0 8 c.locks = f) := ⟨_, rfl⟩
   obtain ⟨f3, hf3⟩ : ∃ f, Hid (inR 0 4096 c.log = f) := ⟨_, rfl⟩
   rw [hf0.out] at q0
   rw [hf1.out] at q1
   rw [hf2.out] at q2
   rw [hf3.out] at q3
   go_upto_region 7 with fail
   go_cut [7] (fun v7 wy => ∃ Gb, v7 = .pointer (some ⟨Gb, 0, none⟩) ∧ Hid (Below w1.heap.size w1 wy ∧ wy.heap[Gb]? = some (.cells #[.bool f0, .bool f1, .bool f2, .bool f3] 124 (0, 0))))
   case first =>
    go_region_held3 (fun w' => w'.cell? ⟨G, 2, none⟩ = some (.int .i64 c.fuel) ∧ w'.cell? ⟨G, 3, none⟩ = some (.int .i64 c.lane) ∧ w'.cell? ⟨G, 4, none⟩ = some (.int .i64 c.locks) ∧ w'.cell? ⟨G, 5, none⟩ = some (.int .i64 c.log)) (go_keep)
     (first
      | (go_at_call 57; with_reducible refine (q0 _).mono ?_; rintro e wq ⟨rfl, rfl⟩)
      | (go_at_call 57; with_reducible refine (q1 _).mono ?_; rintro e wq ⟨rfl, rfl⟩)
      | (go_at_call 57; with_reducible refine (q2 _).mono ?_; rintro e wq ⟨rfl, rfl⟩)
      | (go_at_call 57; with_reducible refine (q3 _).mono ?_; rintro e wq ⟨rfl, rfl⟩))
    all_goals go_wp2_with fail
    all_goals go_meet
    all_goals exact ⟨w2.heap.size, rfl, hd ⟨B2.out.trans (((below_al w2 _).trans ((below_draw _ 1).mono (below_al w2 _).size)).mono B2.out.size), heap_alloc_new w2 _⟩⟩
   case rest =>
   obtain ⟨Gb, rfl, HCb⟩ := hcut
   replace B2 := hd HCb.out.1
   have HGb := hd HCb.out.2
   clear HCb q0 q1 q2 q3 c2 c3 c4 c5
   go_upto_block 0 with fail
   go_wp2_with fail
   go_loopg [2, 3, 8, 43, 44, 45, 46, 47, 48, 49, 50, 51, 52] 4 (fun gg v2 v3 v8 v43 v44 v45 v46 v47 v48 v49 v50 v51 v52 wr => ∃ i : Nat, i + gg = 4 ∧ v8 = .int .i64 (i : Int) ∧ Hid (M = mayN c i) ∧ wr = wc)
   case atStart => exact ⟨0, by omega, by go_num, HM, rfl⟩
   case round =>
    clear HM
    obtain ⟨i, hi, rfl, HM, hwr⟩ := hrel
    obtain rfl : wc = wr := hwr.symm
    have hc : i = 0 ∨ i = 1 ∨ i = 2 ∨ i = 3 ∨ i = 4 := by omega
    rcases hc with rfl | rfl | rfl | rfl | rfl
    ·obtain rfl : gk = 4 := by omega
     have y := cell_of_row wc Gb 0 _ _ _ HGb.out
     have HM2 : Hid (M = if rngE 1 256 c.fuel ≠ 0 then (2, 2) else mayN c 1) := hd HM.out
     clear HM
     simp at y
     have HT : Hid (f0 = true → rngE 1 256 c.fuel = 0) := hd (fun h => inR_true (by rw [hf0.out]; exact h))
     have HN : Hid (f0 = false → rngE 1 256 c.fuel ≠ 0) := hd (fun h => inR_false (by rw [hf0.out]; exact h))
     cases hb : f0 with
     | true =>
      rw [hb] at y
      replace hb := hd hb
      go_wp2_with fail
      go_roundg 3
      all_goals first | omega | exact ⟨1, by omega, by go_num, hd (by rw [HM2.out, if_neg (by rw [HT.out hb.out]; simp)]), rfl⟩
     | false =>
      rw [hb] at y
      obtain rfl : M = (2, 2) := by rw [HM2.out, if_pos (HN.out hb)]
      replace hb := hd hb
      go_wp2_with fail
      go_ret2
      exact ⟨rfl, B1.out.trans (B2.out.mono B1.out.size)⟩
    ·obtain rfl : gk = 3 := by omega
     have y := cell_of_row wc Gb 1 _ _ _ HGb.out
     have HM2 : Hid (M = if rngE 1 64 c.lane ≠ 0 then (2, 3) else mayN c 2) := hd HM.out
     clear HM
     simp at y
     have HT : Hid (f1 = true → rngE 1 64 c.lane = 0) := hd (fun h => inR_true (by rw [hf1.out]; exact h))
     have HN : Hid (f1 = false → rngE 1 64 c.lane ≠ 0) := hd (fun h => inR_false (by rw [hf1.out]; exact h))
     cases hb : f1 with
     | true =>
      rw [hb] at y
      replace hb := hd hb
      go_wp2_with fail
      go_roundg 2
      all_goals first | omega | exact ⟨2, by omega, by go_num, hd (by rw [HM2.out, if_neg (by rw [HT.out hb.out]; simp)]), rfl⟩
     | false =>
      rw [hb] at y
      obtain rfl : M = (2, 3) := by rw [HM2.out, if_pos (HN.out hb)]
      replace hb := hd hb
      go_wp2_with fail
      go_ret2
      exact ⟨rfl, B1.out.trans (B2.out.mono B1.out.size)⟩
    ·obtain rfl : gk = 2 := by omega
     have y := cell_of_row wc Gb 2 _ _ _ HGb.out
     have HM2 : Hid (M = if rngE 0 8 c.locks ≠ 0 then (2, 4) else mayN c 3) := hd HM.out
     clear HM
     simp at y
     have HT : Hid (f2 = true → rngE 0 8 c.locks = 0) := hd (fun h => inR_true (by rw [hf2.out]; exact h))
     have HN : Hid (f2 = false → rngE 0 8 c.locks ≠ 0) := hd (fun h => inR_false (by rw [hf2.out]; exact h))
     cases hb : f2 with
     | true =>
      rw [hb] at y
      replace hb := hd hb
      go_wp2_with fail
      go_roundg 1
      all_goals first | omega | exact ⟨3, by omega, by go_num, hd (by rw [HM2.out, if_neg (by rw [HT.out hb.out]; simp)]), rfl⟩
     | false =>
      rw [hb] at y
      obtain rfl : M = (2, 4) := by rw [HM2.out, if_pos (HN.out hb)]
      replace hb := hd hb
      go_wp2_with fail
      go_ret2
      exact ⟨rfl, B1.out.trans (B2.out.mono B1.out.size)⟩
    ·obtain rfl : gk = 1 := by omega
     have y := cell_of_row wc Gb 3 _ _ _ HGb.out
     have HM2 : Hid (M = if rngE 0 4096 c.log ≠ 0 then (2, 5) else mayN c 4) := hd HM.out
     clear HM
     simp at y
     have HT : Hid (f3 = true → rngE 0 4096 c.log = 0) := hd (fun h => inR_true (by rw [hf3.out]; exact h))
     have HN : Hid (f3 = false → rngE 0 4096 c.log ≠ 0) := hd (fun h => inR_false (by rw [hf3.out]; exact h))
     cases hb : f3 with
     | true =>
      rw [hb] at y
      replace hb := hd hb
      go_wp2_with fail
      go_roundg 0
      all_goals first | omega | exact ⟨4, by omega, by go_num, hd (by rw [HM2.out, if_neg (by rw [HT.out hb.out]; simp)]), rfl⟩
     | false =>
      rw [hb] at y
      obtain rfl : M = (2, 5) := by rw [HM2.out, if_pos (HN.out hb)]
      replace hb := hd hb
      go_wp2_with fail
      go_ret2
      exact ⟨rfl, B1.out.trans (B2.out.mono B1.out.size)⟩
    ·obtain rfl : gk = 0 := by omega
     replace HM : Hid (M = if cntE 32 c.procs.length ≠ 0 then (cntE 32 c.procs.length, 6) else prF c.labels.length c.locks c.procs 0) := hd HM.out
     obtain ⟨-, -, -, -, -, -, c6⟩ := HC.out wc B2.out
     by_cases hp0 : c.procs.length = 0
     ·obtain rfl : M = (1, 6) := by rw [HM.out, show cntE 32 (c.procs.length : Int) = 1 by unfold cntE; rw [if_pos (by omega)]]; rfl
      have h0' : ((c.procs.length : Int) == 0) = true := by rw [beq_iff_eq]; omega
      clear hp0
      generalize c.procs.length = np at *
      go_wp2_with fail
      go_ret2
      exact ⟨rfl, B1.out.trans (B2.out.mono B1.out.size)⟩
     ·have h0' : ((c.procs.length : Int) == 0) = false := by rw [beq_eq_false_iff_ne]; omega
      by_cases hp32 : 32 < c.procs.length
      ·obtain rfl : M = (3, 6) := by rw [HM.out, show cntE 32 (c.procs.length : Int) = 3 by unfold cntE; rw [if_neg (by omega), if_pos (by omega)]]; rfl
       have h3' : (32 : Int) < (c.procs.length : Int) := by omega
       clear hp32 hp0
       generalize c.procs.length = np at *
       go_wp2_with fail
       go_ret2
       exact ⟨rfl, B1.out.trans (B2.out.mono B1.out.size)⟩
      ·replace HM : Hid (M = prF c.labels.length c.locks c.procs 0) := hd (by rw [HM.out, show cntE 32 (c.procs.length : Int) = 0 by unfold cntE; rw [if_neg (by omega), if_neg (by omega)]]; simp)
       have h3' : (c.procs.length : Int) ≤ 32 := by omega
       have h3d : decide ((32 : Int) < (c.procs.length : Int)) = false := by simp; omega
       have hne : 0 < g.ms.length := by rw [HL2.out]; omega
       obtain ⟨b, o, epa, -⟩ := HR.out.prs _ _ (psC_at g.ms 0 hne).1
       obtain ⟨la, lc, ta, tc, pa, pc, ms⟩ := g
       simp only at epa hne c6 HC ⊢
       subst epa
       replace HL2 : Hid (ms.length = c.procs.length) := HL2
       go_upto_block 2 with fail
       clear c6
       go_wp2_with fail
       go_loopg [2, 3, 9, 10, 11, 61, 62, 63, 64, 65, 66, 67, 68, 69, 70, 71, 72, 73, 74, 75, 76, 77, 78, 79, 80, 81, 82, 83, 84, 85, 86, 87, 88, 89, 90, 91, 92, 93, 94, 95, 96, 97, 98] c.procs.length (fun gg v2 v3 v9 v10 v11 v61 v62 v63 v64 v65 v66 v67 v68 v69 v70 v71 v72 v73 v74 v75 v76 v77 v78 v79 v80 v81 v82 v83 v84 v85 v86 v87 v88 v89 v90 v91 v92 v93 v94 v95 v96 v97 v98 wr => ∃ i : Nat, i + gg = c.procs.length ∧ v9 = .int .i64 (i : Int) ∧ Hid (∀ j, j < i → prE c.labels.length c.locks (c.procs.getD j default) = 0) ∧ Hid (Below w1.heap.size w1 wr))
       case atStart => exact ⟨0, by omega, by go_num, hd (fun j hj => by omega), B2⟩
       case round =>
        clear B2
        obtain ⟨i, hi, rfl, HA, B2⟩ := hrel
        obtain ⟨d0, -, -, -, d4, -, d6⟩ := HC.out wr B2.out
        by_cases h0 : gk = 0
        ·subst h0
         have hge : decide ((i : Int) < (c.procs.length : Int)) = false := by simp; omega
         have hge' : (c.procs.length : Int) ≤ (i : Int) := by omega
         obtain rfl : M = (0, 0) := by
          rw [HM.out]
          refine prF_zero _ _ _ _ ((prF_iff _ _ _ _).2 fun p hp => ?_)
          obtain ⟨j, hj, rfl⟩ := List.getElem_of_mem hp
          have := HA.out j (by omega)
          rwa [List.getD_eq_getElem?_getD, List.getElem?_eq_getElem hj] at this
         go_wp2_with fail
         go_ret2
         exact ⟨rfl, B1.out.trans (B2.out.mono B1.out.size)⟩
        ·have hlt : (i : Int) < (c.procs.length : Int) := by omega
         have HRr := hd ((HR.out.below B1.out).below B2.out)
         have hims : i < ms.length := by rw [HL2.out]; omega
         obtain ⟨b', o', epa', x0⟩ := HRr.out.prs _ _ (psC_at ms i hims).1
         cases epa'
         obtain ⟨b', o', epa', x1⟩ := HRr.out.prs _ _ (psC_at ms i hims).2
         cases epa'
         have hx1 : o + (i * 2 + 1) = o + i * 2 + 1 := by omega
         rw [hx1] at x1
         have hRc := HRr.out.cod (ms.getD i default) (by rw [List.getD_eq_getElem?_getD, List.getElem?_eq_getElem hims]; exact List.getElem_mem _)
         have HAt := hd (HRr.out.at i)
         have HI : Hid (prE c.labels.length c.locks (ms.getD i default).p ≠ 0 → M = (prE c.labels.length c.locks (ms.getD i default).p, 7 + (i : Int))) := hd (fun hne => by
          rw [HAt.out] at hne ⊢
          rw [HM.out, prF_at _ _ _ 0 i (by omega) HA.out hne]
          simp)
         have HN : Hid (prE c.labels.length c.locks (ms.getD i default).p = 0 → ∀ j, j < i + 1 → prE c.labels.length c.locks (c.procs.getD j default) = 0) := hd (fun hz j hj => by
          by_cases e : j = i
          ·rw [e, ← HAt.out]; exact hz
          ·exact HA.out j (by omega))
         clear HM HA HAt
         generalize ms.getD i default = m at *
         obtain ⟨⟨part, code⟩, ma, mc⟩ := m
         simp only at x0 x1 hRc HI HN
         have eP : IntKind.i64.wrap ((c.labels.length : Int) - 1) = (c.labels.length : Int) - 1 := by rw [IntKind.wrap_i64]; omega
         have hwi := dwithin_any part 0 ((c.labels.length : Int) - 1)
         obtain ⟨F, hF⟩ : ∃ F, Hid (inR 0 ((c.labels.length : Int) - 1) part = F) := ⟨_, rfl⟩
         rw [hF.out] at hwi
         have hpE : Hid (prE c.labels.length c.locks ⟨part, code⟩ = if rngE 0 ((c.labels.length : Int) - 1) part ≠ 0 then 2 else (mayL code c.locks).1) := hd rfl
         have hmr : Hid (∀ W, Below wr.heap.size wr W → Calls Tryz.prog 58 #[.slice ma code.length mc, .int .i64 c.locks] W fun e w' => e = .returned (.tuple #[.int .i64 (mayL code c.locks).1, .int .i64 (mayL code c.locks).2]) ∧ Below W.heap.size W w') := hd (fun W hW => rmay_any ma mc code c.locks W (prg_of_rd (hRc.below hW)))
         clear hRc HRr
         go_upto_region 20 with fail
         go_quiet (first | with_reducible exact Calls.quiet_of_same (hwi _))
         cases hb : F with
         | false =>
          have hpe : prE c.labels.length c.locks ⟨part, code⟩ = 2 := by rw [hpE.out, if_pos (inR_false (by rw [hF.out]; exact hb))]
          obtain rfl : M = (2, 7 + (i : Int)) := by rw [← hpe]; exact HI.out (by rw [hpe]; decide)
          clear hpe hwi hmr HI HN x0 x1 hpE hF
          subst hb
          have hi7 : (i : Int) ≤ 32 := by omega
          go_wp2_with fail
          go_ret2
          exact ⟨rfl, B1.out.trans ((B2.out.trans ((below_draw wr nq).mono B2.out.size)).mono B1.out.size)⟩
         | true =>
          have hpe : prE c.labels.length c.locks ⟨part, code⟩ = (mayL code c.locks).1 := by rw [hpE.out, if_neg (by rw [inR_true (by rw [hF.out]; exact hb)]; simp)]
          rw [hpe] at HI HN
          clear hpe hwi hpE hF
          subst hb
          go_upto_region 22 with fail
          obtain ⟨wa, hwa⟩ : ∃ W, Hid (wr.drewN nq = W) := ⟨_, rfl⟩
          rw [hwa.out]
          have b3 : Hid (Below wr.heap.size wr wa) := hd (by rw [← hwa.out]; exact below_draw wr nq)
          have y0 : wa.drew.cell? ⟨b, o + i * 2 + 1, none⟩ = some (.slice ma code.length mc) := by rw [← hwa.out]; exact x1
          have y4 : wa.drew.cell? ⟨G, 4, none⟩ = some (.int .i64 c.locks) := by rw [← hwa.out]; exact d4
          have y6 : wa.drew.cell? ⟨G, 6, none⟩ = some (.slice (some ⟨b, o, none⟩) c.procs.length pc) := by rw [← hwa.out]; exact d6
          have b4 : Hid (Below wr.heap.size wr wa.drew) := hd (b3.out.trans ((below_draw wa 1).mono b3.out.size))
          have hmc := hmr.out wa.drew b4.out
          clear x0 x1 d0 d4 d6 hwa hmr
          generalize (mayL code c.locks).1 = E at *
          generalize (mayL code c.locks).2 = E' at *
          go_region_law
           (first
            | (go_simp; with_reducible refine hmc.mono ?_; rintro e w5 ⟨rfl, b5⟩; replace b5 := hd b5))
          all_goals replace B2 : Hid (Below w1.heap.size w1 w5) := hd (B2.out.trans ((b4.out.trans (b5.out.mono b4.out.size)).mono B2.out.size))
          all_goals clear y0 y4 y6 hmc b5 b4 b3
          all_goals
           by_cases hE : E = 0
           ·subst hE
            go_wp2_with fail
            go_roundg (gk - 1)
            case rel => exact ⟨i + 1, by omega, by go_num, hd (HN.out (by trivial)), B2⟩
            case measure => omega
           ·have hE' : (E != 0) = true := by simpa using hE
            obtain rfl : M = (E, 7 + (i : Int)) := HI.out hE
            have hi7 : (i : Int) ≤ 32 := by omega
            go_wp2_with fail
            go_ret2
            exact ⟨rfl, B1.out.trans (B2.out.mono B1.out.size)⟩
  ·obtain rfl : M = (E2, 1) := by rw [HM.out, if_pos hE2]
   have hE' : (E2 == 0) = false := by simpa using hE2
   go_wp2_with fail
   go_ret2
   exact ⟨rfl, B1.out.trans (B2.out.mono B1.out.size)⟩
 ·obtain rfl : M = ((E1 : Int), 0) := by rw [HM.out, if_pos hE1]
  have hE' : ((E1 : Int) == 0) = false := by simpa using hE1
  go_wp2_with fail
  go_ret2
  exact ⟨rfl, B1.out.trans (B2.out.mono B1.out.size)⟩
end Go.Proofs.YthhcecllejddeaaGreatDoor

namespace Go.Proofs.YthhcecllejddeaaGreatDoor
open Go.RowKit
theorem Gr.pushN {w W : World} {a : Option Addr} {n c : Nat} {bs : List Nat} (h : Gr w W a n c bs) (hn : n ≤ 1000000000) (ys : List Nat) {m : Nat} (hm : ys.length = m) (hml : m ≤ 1000000) {cs : Array Value} (hcs : cs = (bCells ys).toArray) :
  ∃ a' c' W', (∀ ty, (Builtin.append_ #[34, 34] ty #[.slice a n c, .slice (some ⟨W.heap.size, 0, none⟩) m m]).run Tryz.prog (W.alloc (.cells cs 5)) = .ok (.slice a' (n + m) c') W') ∧ Gr w W' a' (n + m) c' (bs ++ ys) ∧ GrTo W a W' a' := by
 subst hcs
 have hb := below_al W (.cells (bCells ys).toArray 5)
 have hR : Rd (W.alloc (.cells (bCells ys).toArray 5)) (some ⟨W.heap.size, 0, none⟩) (bCells ys) := fun j u hj => ⟨_, 0, rfl, by
  rw [Nat.zero_add, cell_of_row _ _ _ _ _ _ (heap_alloc_new W _)]
  simpa using hj⟩
 obtain ⟨a', c', W', k1, k2, k3⟩ := (h.below hb).app hn hR (c2 := m) hm (by omega)
 exact ⟨a', c', W', k1, k2, k3.ahead hb⟩
set_option maxRecDepth 100000 in
set_option maxHeartbeats 2000000 in
theorem dput_any {w W : World} {a : Option Addr} {n c : Nat} {bs : List Nat} (h : Gr w W a n c bs) (hn : n ≤ 900000000) (x : Ins) :
  Calls Tryz.prog 31 #[.slice a n c, insV x] W fun e W' => ∃ a' c', e = .returned (.slice a' (n + 12) c') ∧ Gr w W' a' (n + 12) c' (bs ++ insB x) ∧ GrTo W a W' a' := by
 have hins : Hid (insB x = [b8 x.op, b8 x.a, b8 x.b, b8 x.c] ++ (List.range 8).map (byteAt x.imm)) := hd rfl
 have e0 := mod_b8 x.op
 have e1 := mod_b8 x.a
 have e2 := mod_b8 x.b
 have e3 := mod_b8 x.c
 have e4 := mod_u64 x.imm
 have hY : Hid (∀ j, byteAt x.imm j = Go.Proofs.YthhcecllejddeaaGreatDoor.u64 x.imm / 2 ^ (8 * j) % 256) := hd fun j => rfl
 generalize b8 x.op = p0 at *
 generalize b8 x.a = p1 at *
 generalize b8 x.b = p2 at *
 generalize b8 x.c = p3 at *
 generalize Go.Proofs.YthhcecllejddeaaGreatDoor.u64 x.imm = U at *
 generalize byteAt x.imm = Y at *
 generalize insB x = X at *
 obtain ⟨xo, xa, xb, xc, i⟩ := x
 unfold insV
 simp only at *
 obtain ⟨W1, hW1⟩ : ∃ V, Hid (W.alloc (.cells #[.int .i64 xo, .int .i64 xa, .int .i64 xb, .int .i64 xc, .int .i64 i] 54) = V) := ⟨_, rfl⟩
 have b1 : Hid (Below W.heap.size W W1) := hd (by rw [← hW1.out]; exact below_al W _)
 have HG : Hid (W1.heap[W.heap.size]? = some (.cells #[.int .i64 xo, .int .i64 xa, .int .i64 xb, .int .i64 xc, .int .i64 i] 54 (0, 0))) := hd (by rw [← hW1.out]; exact heap_alloc_new W _)
 have HNe : Hid (∀ k, blk a = some k → k < W.heap.size) := hd h.row.lt
 have H1 := hd (h.below b1.out)
 obtain ⟨G, hG⟩ : ∃ G, Hid (W.heap.size = G) := ⟨_, rfl⟩
 rw [hG.out] at HG HNe
 have HK : Hid (∀ V a', GrTo W1 a V a' → V.heap[G]? = some (.cells #[.int .i64 xo, .int .i64 xa, .int .i64 xb, .int .i64 xc, .int .i64 i] 54 (0, 0))) := hd (fun V a' hV => (hV.mod.block G (Array.getElem?_eq_some_iff.1 HG.out).1 (fun e => by have := HNe.out G e; omega)).trans HG.out)
 obtain ⟨a1, c1, W2, hap, hg2, ht2⟩ := H1.out.pushN (by omega) [p0, p1, p2, p3] (m := 4) rfl (by omega) (cs := #[.int .u8 (p0 : Int), .int .u8 (p1 : Int), .int .u8 (p2 : Int), .int .u8 (p3 : Int)]) rfl
 replace hap := hd hap
 replace hg2 := hd hg2
 replace ht2 := hd ht2
 have x0 := cell_of_row W1 G 0 _ _ _ HG.out
 have x1 := cell_of_row W1 G 1 _ _ _ HG.out
 have x2 := cell_of_row W1 G 2 _ _ _ HG.out
 have x3 := cell_of_row W1 G 3 _ _ _ HG.out
 simp at x0 x1 x2 x3
 clear h H1
 go_enter Tryz.func31, Tryz.ntmps31
 go_upto_region 1 with fail
 rw [hW1.out, hG.out]
 go_upto_block 0 with (at_builtin; refine wpList_append_run rfl _ _ _ rfl _ _ _ _ rfl rfl hap.out ?_; clear hap)
 clear x0 x1 x2 x3 e0 e1 e2 e3 hW1
 go_wp2_with fail
 go_loopg [0, 5, 21, 22, 23, 24, 25, 26, 27, 28, 29, 30, 31, 32, 33, 34] 8 (fun g v0 v5 v21 v22 v23 v24 v25 v26 v27 v28 v29 v30 v31 v32 v33 v34 wr => ∃ (j : Nat) (a' : Option Addr) (c' : Nat), j + g = 8 ∧ v5 = .int .i64 (j : Int) ∧ v0 = .slice a' (n + 4 + j) c' ∧ Hid (Gr w wr a' (n + 4 + j) c' (bs ++ [p0, p1, p2, p3] ++ (List.range j).map Y) ∧ GrTo W1 a wr a'))
 case atStart => exact ⟨0, a1, c1, by omega, by go_num, rfl, hd ⟨by simpa using hg2.out, ht2.out⟩⟩
 case round =>
  clear hg2 ht2
  obtain ⟨j, a', c', hj, rfl, rfl, HW⟩ := hrel
  by_cases h0 : gk = 0
  ·subst h0
   obtain rfl : j = 8 := by omega
   have HE : Hid (Gr w wr a' (n + 12) c' (bs ++ X) ∧ GrTo W a wr a') := hd (by
    have h1 := HW.out.1
    rw [List.append_assoc, ← hins.out] at h1
    exact ⟨h1, HW.out.2.ahead b1.out⟩)
   go_wp2_with fail
   go_ret
   exact ⟨a', c', rfl, HE.out⟩
  ·have ev := byte_val e4 (hY.out j)
   have hR : Hid ((List.range (j + 1)).map Y = (List.range j).map Y ++ [Y j]) := hd (by rw [List.range_succ]; simp)
   have hlt : j < 8 := by omega
   obtain ⟨a2, c2, w2, hap, hg, ht⟩ := HW.out.1.push (by omega) (Y j)
   rw [List.append_assoc (bs ++ [p0, p1, p2, p3]), ← hR.out] at hg
   have HN := hd (And.intro hg (HW.out.2.trans ht))
   replace hap := hd hap
   have x4 := cell_of_row wr G 4 _ _ _ (HK.out wr a' HW.out.2)
   simp at x4
   clear hg ht HW hR
   generalize Y j = y at *
   go_wp2_with (at_builtin; refine wpList_append_run rfl _ _ _ rfl _ _ _ _ rfl rfl hap.out ?_; clear hap)
   go_roundg (gk - 1)
   case rel => exact ⟨j + 1, a2, c2, by omega, by go_num, rfl, HN⟩
   case measure => omega
end Go.Proofs.YthhcecllejddeaaGreatDoor

namespace Go.Proofs.YthhcecllejddeaaGreatDoor
open Go.RowKit
set_option maxRecDepth 100000 in
set_option maxHeartbeats 8000000 in
theorem denc_go (c : Cfg) (bl ol lc bt ot tc bp op pc : Nat) (ms : List PrM) (w : World) (hR : CfR w c (⟨some ⟨bl, ol, none⟩, lc, some ⟨bt, ot, none⟩, tc, some ⟨bp, op, none⟩, pc, ms⟩ : Loc)) (hm : (mayC c).1 = 0) :
  Calls Tryz.prog 17 #[.agg #[.slice (some ⟨bl, ol, none⟩) c.labels.length lc, .slice (some ⟨bt, ot, none⟩) c.table.length tc, .int .i64 c.fuel, .int .i64 c.lane, .int .i64 c.locks, .int .i64 c.log, .slice (some ⟨bp, op, none⟩) c.procs.length pc]] w (EncOut w c) := by
 obtain ⟨w1, hw1⟩ : ∃ W, Hid (w.alloc (.cells #[.slice (some ⟨bl, ol, none⟩) c.labels.length lc, .slice (some ⟨bt, ot, none⟩) c.table.length tc, .int .i64 c.fuel, .int .i64 c.lane, .int .i64 c.locks, .int .i64 c.log, .slice (some ⟨bp, op, none⟩) c.procs.length pc] 27) = W) := ⟨_, rfl⟩
 have B1 : Hid (Below w.heap.size w w1) := hd (by rw [← hw1.out]; exact below_al w _)
 have HR := hd (hR.below B1.out)
 have hmay := dmay_any c _ w1 HR.out
 rw [mayC_zero c hm] at hmay
 have HM := hd hm
 have HK := hd ((mayC_iff c).1 hm)
 obtain ⟨G, hG⟩ : ∃ G, Hid (w.heap.size = G) := ⟨_, rfl⟩
 have HG : Hid (w1.heap[G]? = some (.cells #[.slice (some ⟨bl, ol, none⟩) c.labels.length lc, .slice (some ⟨bt, ot, none⟩) c.table.length tc, .int .i64 c.fuel, .int .i64 c.lane, .int .i64 c.locks, .int .i64 c.log, .slice (some ⟨bp, op, none⟩) c.procs.length pc] 27 (0, 0))) := hd (by rw [← hw1.out, ← hG.out]; exact heap_alloc_new w _)
 have HC : Hid (∀ W, Below w1.heap.size w1 W → W.cell? ⟨G, 0, none⟩ = some (.slice (some ⟨bl, ol, none⟩) c.labels.length lc) ∧ W.cell? ⟨G, 1, none⟩ = some (.slice (some ⟨bt, ot, none⟩) c.table.length tc) ∧ W.cell? ⟨G, 2, none⟩ = some (.int .i64 c.fuel) ∧ W.cell? ⟨G, 3, none⟩ = some (.int .i64 c.lane) ∧ W.cell? ⟨G, 4, none⟩ = some (.int .i64 c.locks) ∧ W.cell? ⟨G, 5, none⟩ = some (.int .i64 c.log) ∧ W.cell? ⟨G, 6, none⟩ = some (.slice (some ⟨bp, op, none⟩) c.procs.length pc)) := hd (fun W hW => by
  have h : W.heap[G]? = _ := (hW.block G (Array.getElem?_eq_some_iff.1 HG.out).1).trans HG.out
  exact ⟨cell_of_row W G 0 _ _ _ h, cell_of_row W G 1 _ _ _ h, cell_of_row W G 2 _ _ _ h, cell_of_row W G 3 _ _ _ h, cell_of_row W G 4 _ _ _ h, cell_of_row W G 5 _ _ _ h, cell_of_row W G 6 _ _ _ h⟩)
 have HCL : Hid (∀ W, Below w1.heap.size w1 W → ∀ i, i < c.labels.length → W.cell? ⟨bl, ol + i, none⟩ = some (.int .u64 ((c.labels.getD i 0 : Nat) : Int))) := hd (fun W hW i hi => by
  obtain ⟨b, o, e, hc⟩ := (HR.out.lab.below hW) i _ (labC_at c.labels i hi)
  cases e
  exact hc)
 have HCT : Hid (∀ W, Below w1.heap.size w1 W → ∀ i, i < c.table.length → W.cell? ⟨bt, ot + i, none⟩ = some (.int .i64 (c.table.getD i 0))) := hd (fun W hW i hi => by
  obtain ⟨b, o, e, hc⟩ := (HR.out.tab.below hW) i _ (iC_at c.table i hi)
  cases e
  exact hc)
 have HML := hd HR.out.len
 clear hR hm
 unfold cfV cfA at hmay
 simp only at hmay
 go_enter Tryz.func17, Tryz.ntmps17
 go_upto_region 1 with fail
 rw [hw1.out, hG.out]
 obtain ⟨c0, c1, c2, c3, c4, c5, c6⟩ := HC.out w1 (below_same w1)
 go_upto_region 4 with (go_at_call 29; refine hmay.mono ?_; rintro e w2 ⟨rfl, b2⟩; replace b2 := hd b2)
 clear hmay c0 c1 c2 c3 c4 c5 c6
 have HLL : Hid (1 ≤ c.labels.length ∧ c.labels.length ≤ 8) := hd (lab_len HK.out.1)
 have HTL : Hid (1 ≤ c.table.length ∧ c.table.length ≤ 64) := hd (tab_len HK.out.2.1)
 have HPL : Hid (1 ≤ c.procs.length ∧ c.procs.length ≤ 32) := hd (by have := cnt_len HK.out.2.2.2.2.2.2.1; omega)
 obtain ⟨w3, hw3⟩ : ∃ W, Hid (w2.alloc (.cells #[.int .u8 70, .int .u8 66, .int .u8 67, .int .u8 70, .int .u8 1, .int .u8 (c.labels.length : Int)] 5) = W) := ⟨_, rfl⟩
 have b3 : Hid (Below w1.heap.size w1 w3) := hd (b2.out.trans (by rw [← hw3.out]; exact (below_al w2 _).mono b2.out.size))
 have HGr : Hid (Gr w1 w3 (some ⟨w2.heap.size, 0, none⟩) 6 6 (eL c 0)) := hd ⟨by
  have h1 : w3.heap[w2.heap.size]? = some (.cells #[.int .u8 70, .int .u8 66, .int .u8 67, .int .u8 70, .int .u8 1, .int .u8 (c.labels.length : Int)] 5 (0, 0)) := by rw [← hw3.out]; exact heap_alloc_new w2 _
  have h2 := row_new (size := 1) (n := 6) h1 rfl (by unfold maxLen; omega)
  have h3 : bCells (eL c 0) = [.int .u8 70, .int .u8 66, .int .u8 67, .int .u8 70, .int .u8 1, .int .u8 (c.labels.length : Int)] := by simp [eL, hdB, bCells]
  rw [h3]
  exact h2, fun k hk => Nat.le_trans b2.out.size (Nat.le_of_eq (Option.some.inj hk)), b3.out⟩
 have ey : (c.labels.length : Int) % 256 = (c.labels.length : Int) := by have := HLL.out; omega
 obtain ⟨c0, -⟩ := HC.out w2 b2.out
 go_upto_block 0 with fail
 rw [hw3.out]
 generalize (some (⟨w2.heap.size, 0, none⟩ : Addr)) = a1 at HGr ⊢
 clear c0 ey b3 hw3 b2
 go_cut [6, 7] (fun v6 v7 wy => ∃ (n : Nat) (a' : Option Addr) (k' : Nat), v6 = .slice a' n k' ∧ Hid (Gr w1 wy a' n k' (eL c c.labels.length)))
 case first =>
  go_wp2_with fail
  go_loopg [6, 7, 25, 26, 27, 28, 29, 30, 31, 32, 33, 34, 35, 36, 37, 38] c.labels.length (fun gg v6 v7 v25 v26 v27 v28 v29 v30 v31 v32 v33 v34 v35 v36 v37 v38 wr => ∃ (i n : Nat) (a' : Option Addr) (k' : Nat), i + gg = c.labels.length ∧ v7 = .int .i64 (i : Int) ∧ v6 = .slice a' n k' ∧ Hid (Gr w1 wr a' n k' (eL c i)))
  case atStart => exact ⟨0, 6, a1, 6, by omega, by go_num, rfl, HGr⟩
  case round =>
   clear HGr
   obtain ⟨i, n, a1, k1, hi, rfl, rfl, HGr⟩ := hrel
   have hn : n ≤ 98542 := by have h1 := HGr.out.len; have h2 := eL_len c HM.out i; omega
   obtain ⟨c0, -⟩ := HC.out wr HGr.out.bel
   by_cases h0 : gk = 0
   ·subst h0
    obtain rfl : i = c.labels.length := by omega
    have hge : decide ((c.labels.length : Int) < (c.labels.length : Int)) = false := by simp
    go_wp2_with fail
    go_meet
    exact ⟨n, a1, k1, rfl, HGr⟩
   ·have hlt : (i : Int) < (c.labels.length : Int) := by omega
    have hi8 : (i : Int) < 8 := by have := HLL.out; omega
    have x0 := HCL.out wr HGr.out.bel i (by omega)
    have hwr := dnumber_any HGr.out (by omega) (c.labels.getD i 0) 8 (by omega)
    have HN : Hid (∀ W a2 k2, Gr w1 W a2 (n + 8) k2 (eL c i ++ numB 8 (c.labels.getD i 0)) → Gr w1 W a2 (n + 8) k2 (eL c (i + 1))) := hd (fun W a2 k2 h => by
     unfold eL at h ⊢
     rw [take_flat (numB 8) c.labels i (by omega), ← List.append_assoc]
     exact h)
    generalize c.labels.getD i 0 = x at *
    clear HGr
    go_wp2_with (go_at_call 30; refine hwr.mono ?_; rintro e w7 ⟨a2, k2, rfl, hg7, -⟩; replace hg7 := hd (HN.out _ _ _ hg7))
    go_roundg (gk - 1)
    case rel => exact ⟨i + 1, n + 8, a2, k2, by omega, by go_num, rfl, hg7⟩
    case measure => omega
 case rest =>
 clear HGr
 obtain ⟨n, a1', k1, rfl, HGr⟩ := hcut
 have hn : n ≤ 98542 := by have h1 := HGr.out.len; have h2 := eL_len c HM.out c.labels.length; omega
 obtain ⟨c0, c1, -⟩ := HC.out wc HGr.out.bel
 obtain ⟨a2, k2, w5, hap, hg5, -⟩ := HGr.out.push (by omega) c.table.length
 replace hap := hd hap
 have HG5 : Hid (Gr w1 w5 a2 (n + 1) k2 (eT c 0)) := hd (by simpa [eT] using hg5)
 have ey : (c.table.length : Int) % 256 = (c.table.length : Int) := by have := HTL.out; omega
 clear hg5 HGr
 go_upto_block 2 with (at_builtin; refine wpList_append_run rfl _ _ _ rfl _ _ _ _ rfl rfl hap.out ?_; clear hap)
 clear ey c0 c1
 go_cut [6, 8] (fun v6 v8 wy => ∃ (n : Nat) (a' : Option Addr) (k' : Nat), v6 = .slice a' n k' ∧ Hid (Gr w1 wy a' n k' (eT c c.table.length)))
 case first =>
  go_wp2_with fail
  go_loopg [6, 8, 46, 47, 48, 49, 50, 51, 52, 53, 54, 55, 56, 57, 58, 59, 60, 61] c.table.length (fun gg v6 v8 v46 v47 v48 v49 v50 v51 v52 v53 v54 v55 v56 v57 v58 v59 v60 v61 wr => ∃ (i n : Nat) (a' : Option Addr) (k' : Nat), i + gg = c.table.length ∧ v8 = .int .i64 (i : Int) ∧ v6 = .slice a' n k' ∧ Hid (Gr w1 wr a' n k' (eT c i)))
  case atStart => exact ⟨0, n + 1, a2, k2, by omega, by go_num, rfl, HG5⟩
  case round =>
   clear HG5
   obtain ⟨i, n, a1, k1, hi, rfl, rfl, HGr⟩ := hrel
   have hn : n ≤ 98542 := by have h1 := HGr.out.len; have h2 := eT_len c HM.out i; omega
   obtain ⟨-, c1, -⟩ := HC.out wr HGr.out.bel
   by_cases h0 : gk = 0
   ·subst h0
    obtain rfl : i = c.table.length := by omega
    have hge : decide ((c.table.length : Int) < (c.table.length : Int)) = false := by simp
    go_wp2_with fail
    go_meet
    exact ⟨n, a1, k1, rfl, HGr⟩
   ·have hlt : (i : Int) < (c.table.length : Int) := by omega
    have hi8 : (i : Int) < 64 := by have := HTL.out; omega
    have x0 := HCT.out wr HGr.out.bel i (by omega)
    have HX : Hid (0 ≤ c.table.getD i 0 ∧ c.table.getD i 0 < 8) := hd (by
     have h1 := HK.out.2.1
     have h2 := HLL.out
     unfold tabE at h1
     split at h1
     ·simp at h1
     ·split at h1
      ·simp at h1
      ·split at h1
       ·next h3 =>
        have h4 := all_at h3 i (by omega)
        rw [isPt, Bool.and_eq_true, decide_eq_true_eq, decide_eq_true_eq] at h4
        omega
       ·simp at h1)
    obtain ⟨a2, k2, w5, hap, hg5, -⟩ := HGr.out.push (by omega) (Go.Proofs.YthhcecllejddeaaGreatDoor.u64 (c.table.getD i 0) % 256)
    have HG5 : Hid (Gr w1 w5 a2 (n + 1) k2 (eT c (i + 1))) := hd (by
     unfold eT at hg5 ⊢
     rw [take_flat (fun x => numB 1 (Go.Proofs.YthhcecllejddeaaGreatDoor.u64 x)) c.table i (by omega), numB_one, ← List.append_assoc]
     exact hg5)
    have ey : c.table.getD i 0 % 256 = ((Go.Proofs.YthhcecllejddeaaGreatDoor.u64 (c.table.getD i 0) % 256 : Nat) : Int) := by unfold Go.Proofs.YthhcecllejddeaaGreatDoor.u64; have := HX.out; omega
    replace hap := hd hap
    generalize Go.Proofs.YthhcecllejddeaaGreatDoor.u64 (c.table.getD i 0) % 256 = y at *
    generalize c.table.getD i 0 = x at *
    clear hg5 HGr HX
    go_wp2_with (at_builtin; refine wpList_append_run rfl _ _ _ rfl _ _ _ _ rfl rfl hap.out ?_; clear hap)
    go_roundg (gk - 1)
    case rel => exact ⟨i + 1, n + 1, a2, k2, by omega, by go_num, rfl, HG5⟩
    case measure => omega
 case rest =>
 clear HG5
 obtain ⟨n, a3, k3, rfl, HGr⟩ := hcut
 have hn : n ≤ 98542 := by have h1 := HGr.out.len; have h2 := eT_len c HM.out c.table.length; omega
 obtain ⟨-, -, c2, -⟩ := HC.out wc HGr.out.bel
 have hv := rng_ok HK.out.2.2.1
 have eu : ((Go.Proofs.YthhcecllejddeaaGreatDoor.u64 c.fuel : Nat) : Int) = c.fuel := by unfold Go.Proofs.YthhcecllejddeaaGreatDoor.u64; omega
 have hwr := dnumber_any HGr.out (by omega) (Go.Proofs.YthhcecllejddeaaGreatDoor.u64 c.fuel) 2 (by omega)
 rw [eu] at hwr
 have HN : Hid (∀ W a2 k2, Gr w1 W a2 (n + 2) k2 (eT c c.table.length ++ numB 2 (Go.Proofs.YthhcecllejddeaaGreatDoor.u64 c.fuel)) → Gr w1 W a2 (n + 2) k2 (eN c 1)) := hd (fun W a2 k2 h => by simpa [eN, nmB] using h)
 clear eu HGr
 go_upto_region 15 with (go_at_call 30; refine hwr.mono ?_; rintro e w6 ⟨a4, k4, rfl, hg7, -⟩; replace hg7 := hd (HN.out _ _ _ hg7))
 clear hwr HN c2 hv
 have hn1 : n + 2 ≤ 98544 := by omega
 generalize n + 2 = n1 at *
 clear hn
 obtain ⟨-, -, -, c3, c4, -⟩ := HC.out w6 hg7.out.bel
 have hv3 := rng_ok HK.out.2.2.2.1
 have hv4 := rng_ok HK.out.2.2.2.2.1
 have ey3 : c.lane = ((Go.Proofs.YthhcecllejddeaaGreatDoor.u64 c.lane % 256 : Nat) : Int) := by unfold Go.Proofs.YthhcecllejddeaaGreatDoor.u64; omega
 have ey4 : c.locks = ((Go.Proofs.YthhcecllejddeaaGreatDoor.u64 c.locks % 256 : Nat) : Int) := by unfold Go.Proofs.YthhcecllejddeaaGreatDoor.u64; omega
 obtain ⟨a5, k5, w7, hap, hg8, -⟩ := hg7.out.pushN (by omega) [Go.Proofs.YthhcecllejddeaaGreatDoor.u64 c.lane % 256, Go.Proofs.YthhcecllejddeaaGreatDoor.u64 c.locks % 256] (m := 2) rfl (by omega) (cs := #[.int .u8 c.lane, .int .u8 c.locks]) (by rw [show bCells [Go.Proofs.YthhcecllejddeaaGreatDoor.u64 c.lane % 256, Go.Proofs.YthhcecllejddeaaGreatDoor.u64 c.locks % 256] = [.int .u8 ((Go.Proofs.YthhcecllejddeaaGreatDoor.u64 c.lane % 256 : Nat) : Int), .int .u8 ((Go.Proofs.YthhcecllejddeaaGreatDoor.u64 c.locks % 256 : Nat) : Int)] from rfl, ← ey3, ← ey4])
 have HG8 : Hid (Gr w1 w7 a5 (n1 + 2) k5 (eN c 3)) := hd (by simpa [eN, nmB, numB_one, List.append_assoc] using hg8)
 replace hap := hd hap
 clear ey3 ey4
 clear hg8 hg7
 go_upto_region 16 with (at_builtin; refine wpList_append_run rfl _ _ _ rfl _ _ _ _ rfl rfl hap.out ?_; clear hap)
 clear c3 c4 hv3 hv4
 have hn2 : n1 + 2 ≤ 98546 := by omega
 generalize n1 + 2 = n2 at *
 clear hn1
 obtain ⟨-, -, -, -, -, c5, -⟩ := HC.out w7 HG8.out.bel
 have hv := rng_ok HK.out.2.2.2.2.2.1
 have eu : ((Go.Proofs.YthhcecllejddeaaGreatDoor.u64 c.log : Nat) : Int) = c.log := by unfold Go.Proofs.YthhcecllejddeaaGreatDoor.u64; omega
 have hwr := dnumber_any HG8.out (by omega) (Go.Proofs.YthhcecllejddeaaGreatDoor.u64 c.log) 2 (by omega)
 rw [eu] at hwr
 have HN : Hid (∀ W a2 k2, Gr w1 W a2 (n2 + 2) k2 (eN c 3 ++ numB 2 (Go.Proofs.YthhcecllejddeaaGreatDoor.u64 c.log)) → Gr w1 W a2 (n2 + 2) k2 (eN c 4)) := hd (fun W a2 k2 h => by simpa [eN, nmB] using h)
 clear eu HG8
 go_upto_region 17 with (go_at_call 30; refine hwr.mono ?_; rintro e w8 ⟨a6, k6, rfl, hg7, -⟩; replace hg7 := hd (HN.out _ _ _ hg7))
 clear hwr HN c5 hv
 have hn3 : n2 + 2 ≤ 98548 := by omega
 generalize n2 + 2 = n3 at *
 clear hn2
 obtain ⟨-, -, -, -, -, -, c6⟩ := HC.out w8 hg7.out.bel
 obtain ⟨a7, k7, w9, hap, hg8, -⟩ := hg7.out.push (by omega) c.procs.length
 replace hap := hd hap
 have HG7 : Hid (Gr w1 w9 a7 (n3 + 1) k7 (eP c 0)) := hd (by simpa [eP] using hg8)
 have ey : (c.procs.length : Int) % 256 = (c.procs.length : Int) := by have := HPL.out; omega
 clear hg8 hg7
 go_upto_block 4 with (at_builtin; refine wpList_append_run rfl _ _ _ rfl _ _ _ _ rfl rfl hap.out ?_; clear hap)
 clear ey c6
 go_cut [6, 9, 10, 11] (fun v6 v9 v10 v11 wy => ∃ (n : Nat) (a' : Option Addr) (k' : Nat), v6 = .slice a' n k' ∧ Hid (Gr w1 wy a' n k' (eP c c.procs.length)))
 case first =>
  go_wp2_with fail
  go_loopg [6, 9, 10, 11, 88, 89, 90, 91, 92, 93, 94, 95, 96, 97, 98, 99, 100, 101, 102, 103, 104, 105, 106, 107, 108, 109, 110, 111, 112, 113, 114, 115, 116, 117, 118, 119, 120, 121, 122, 123, 124, 125] c.procs.length (fun gg v6 v9 v10 v11 v88 v89 v90 v91 v92 v93 v94 v95 v96 v97 v98 v99 v100 v101 v102 v103 v104 v105 v106 v107 v108 v109 v110 v111 v112 v113 v114 v115 v116 v117 v118 v119 v120 v121 v122 v123 v124 v125 wr => ∃ (i n : Nat) (a' : Option Addr) (k' : Nat), i + gg = c.procs.length ∧ v9 = .int .i64 (i : Int) ∧ v6 = .slice a' n k' ∧ Hid (Gr w1 wr a' n k' (eP c i)))
  case atStart => exact ⟨0, n3 + 1, a7, k7, by omega, by go_num, rfl, HG7⟩
  case round =>
   clear HG7
   obtain ⟨i, n, a1, k1, hi, rfl, rfl, HGr⟩ := hrel
   have hn : n ≤ 98542 := by have h1 := HGr.out.len; have h2 := eP_len c HM.out i; omega
   obtain ⟨-, -, -, -, -, -, c6⟩ := HC.out wr HGr.out.bel
   by_cases h0 : gk = 0
   ·subst h0
    obtain rfl : i = c.procs.length := by omega
    have hge : decide ((c.procs.length : Int) < (c.procs.length : Int)) = false := by simp
    go_wp2_with fail
    go_meet
    exact ⟨n, a1, k1, rfl, HGr⟩
   ·have hlt : (i : Int) < (c.procs.length : Int) := by omega
    have hi8 : (i : Int) < 32 := by have := HPL.out; omega
    have hims : i < ms.length := by rw [HML.out]; omega
    have HRr := hd (HR.out.below HGr.out.bel)
    obtain ⟨b', o', epa', x0⟩ := HRr.out.prs _ _ (psC_at ms i hims).1
    cases epa'
    obtain ⟨b', o', epa', x1⟩ := HRr.out.prs _ _ (psC_at ms i hims).2
    cases epa'
    have hx1 : op + (i * 2 + 1) = op + i * 2 + 1 := by omega
    rw [hx1] at x1
    have HRc := hd (HR.out.cod (ms.getD i default) (by rw [List.getD_eq_getElem?_getD, List.getElem?_eq_getElem hims]; exact List.getElem_mem _))
    have HAt := hd (HRr.out.at i)
    simp only at HAt
    have HPE := hd (HK.out.2.2.2.2.2.2.2 (c.procs.getD i default) (by rw [List.getD_eq_getElem?_getD, List.getElem?_eq_getElem (show i < c.procs.length by omega)]; exact List.getElem_mem _))
    rw [← HAt.out] at HPE
    have HN : Hid (∀ W a2 k2 m, Gr w1 W a2 m k2 (eP c i ++ prB (ms.getD i default).p) → Gr w1 W a2 m k2 (eP c (i + 1))) := hd (fun W a2 k2 m h => by
     rw [HAt.out] at h
     unfold eP at h ⊢
     rw [take_flat prB c.procs i (by omega), ← List.append_assoc]
     exact h)
    clear HAt HRr hx1
    generalize ms.getD i default = m at *
    obtain ⟨⟨part, code⟩, ma, mc⟩ := m
    simp only at x0 x1 HRc HPE HN
    have hP0 : Hid ((mayL code 8).1 = 0 ∧ 0 ≤ part ∧ part < 8) := hd (by
     have h1 := HPE.out
     have h2 := HLL.out
     have h3 := rng_ok HK.out.2.2.2.2.1
     unfold prE at h1
     split at h1
     ·simp at h1
     ·next h4 =>
      have h5 := rng_ok (by simpa using h4)
      exact ⟨may_eight h3.2 h1, h5.1, by omega⟩)
    have hcl : code.length ≤ 256 := may_len hP0.out.1
    go_upto_region 22 with fail
    obtain ⟨wa, hwa⟩ : ∃ W, Hid (wr.alloc (.cells #[.int .i64 part, .slice ma code.length mc] 57) = W) := ⟨_, rfl⟩
    rw [hwa.out]
    have ba : Hid (Below wr.heap.size wr wa) := hd (by rw [← hwa.out]; exact below_al wr _)
    have HBx : Hid (wa.heap[wr.heap.size]? = some (.cells #[.int .i64 part, .slice ma code.length mc] 57 (0, 0))) := hd (by rw [← hwa.out]; exact heap_alloc_new wr _)
    have HNe : Hid (∀ k, blk a1 = some k → k < wr.heap.size) := hd HGr.out.row.lt
    replace HGr := hd (HGr.out.below ba.out)
    obtain ⟨Bp, hBp⟩ : ∃ B, Hid (wr.heap.size = B) := ⟨_, rfl⟩
    rw [hBp.out] at HBx HNe ⊢
    clear hwa ba hBp x0 x1 c6
    have HKb : Hid (∀ V a', GrTo wa a1 V a' → V.cell? ⟨Bp, 0, none⟩ = some (.int .i64 part) ∧ V.cell? ⟨Bp, 1, none⟩ = some (.slice ma code.length mc)) := hd (fun V a' hV => by
     have h1 := (hV.mod.block Bp (Array.getElem?_eq_some_iff.1 HBx.out).1 (fun e => by have := HNe.out Bp e; omega)).trans HBx.out
     exact ⟨cell_of_row V Bp 0 _ _ _ h1, cell_of_row V Bp 1 _ _ _ h1⟩)
    obtain ⟨a2, k2, wb, hap, hgb, htb⟩ := HGr.out.push (by omega) (Go.Proofs.YthhcecllejddeaaGreatDoor.u64 part % 256)
    have ey : part % 256 = ((Go.Proofs.YthhcecllejddeaaGreatDoor.u64 part % 256 : Nat) : Int) := by unfold Go.Proofs.YthhcecllejddeaaGreatDoor.u64; have := hP0.out; omega
    have HY : Hid (numB 1 (Go.Proofs.YthhcecllejddeaaGreatDoor.u64 part) = [Go.Proofs.YthhcecllejddeaaGreatDoor.u64 part % 256]) := hd (numB_one _)
    obtain ⟨y0, -⟩ := HKb.out wa a1 (GrTo.refl wa a1)
    replace hap := hd hap
    have hwr := dnumber_any hgb (by omega) code.length 2 (by omega)
    replace htb := hd htb
    generalize Go.Proofs.YthhcecllejddeaaGreatDoor.u64 part % 256 = y at *
    clear hgb HGr
    go_upto_region 23 with (at_builtin; refine wpList_append_run rfl _ _ _ rfl _ _ _ _ rfl rfl hap.out ?_; clear hap)
    obtain ⟨-, z1⟩ := HKb.out wb a2 htb.out
    clear y0 ey
    go_upto_block 6 with (go_at_call 30; refine hwr.mono ?_; rintro e wd ⟨a3, k3, rfl, hgc, htc⟩; replace hgc := hd hgc; replace htc := hd (htb.out.trans htc))
    clear hwr z1 htb
    generalize hEE : (eP c i ++ [y]) ++ numB 2 code.length = E0 at hgc
    have HE0 : Hid (∀ W a2 k2 m, Gr w1 W a2 m k2 (E0 ++ encB code) → Gr w1 W a2 m k2 (eP c (i + 1))) := hd (fun W a2 k2 m h => HN.out W a2 k2 m (by
     rw [← hEE] at h
     rw [prB, HY.out]
     simpa [List.append_assoc] using h))
    clear HN HY hEE
    obtain ⟨GK, rfl⟩ : ∃ x, x = gk := ⟨_, rfl⟩
    go_wp2_with fail
    go_loopg [6, 11, 112, 113, 114, 115, 116, 117, 118, 119, 120, 121, 122, 123, 124, 125] code.length (fun gg v6 v11 v112 v113 v114 v115 v116 v117 v118 v119 v120 v121 v122 v123 v124 v125 wq => ∃ (j nn : Nat) (a' : Option Addr) (k' : Nat), j + gg = code.length ∧ v11 = .int .i64 (j : Int) ∧ v6 = .slice a' nn k' ∧ nn ≤ 98542 + 3 + 12 * j ∧ Hid (Gr w1 wq a' nn k' (E0 ++ encB (code.take j)) ∧ GrTo wa a1 wq a'))
    case atStart => exact ⟨0, n + 1 + 2, a3, k3, by omega, by go_num, rfl, by omega, hd ⟨by simpa [encB] using hgc.out, htc.out⟩⟩
    case round =>
     clear hgc htc
     obtain ⟨j, nn, a4, k4, hj, rfl, rfl, hnn, HW⟩ := hrel
     obtain ⟨-, z1⟩ := HKb.out _ a4 HW.out.2
     have hg0 : gk = 0 ∨ gk ≠ 0 := by omega
     rcases hg0 with hg0 | hg0
     ·subst hg0
      obtain rfl : j = code.length := by omega
      have hge : decide ((code.length : Int) < (code.length : Int)) = false := by simp
      have HX : Hid (Gr w1 wr a4 nn k4 (eP c (i + 1))) := hd (HE0.out _ _ _ _ (by
       have h1 := HW.out.1
       rw [List.take_length] at h1
       exact h1))
      go_wp2_with fail
      go_roundg (GK - 1)
      case rel => exact ⟨i + 1, nn, a4, k4, by omega, by go_num, rfl, HX⟩
      case measure => omega
     ·have hltj : (j : Int) < (code.length : Int) := by omega
      obtain ⟨mb, mo, rfl, hI⟩ := (prg_of_rd (HRc.out.below HW.out.1.bel)) j (by omega)
      have hpu := dput_any HW.out.1 (by omega) (code.getD j default)
      have HZ : Hid (∀ W a' k', Gr w1 W a' (nn + 12) k' ((E0 ++ encB (code.take j)) ++ insB (code.getD j default)) → Gr w1 W a' (nn + 12) k' (E0 ++ encB (code.take (j + 1)))) := hd (fun W a' k' h => by
       unfold encB at h ⊢
       rw [take_flat insB code j (by omega), ← List.append_assoc]
       exact h)
      have HT4 := hd HW.out.2
      have x0 := hI.c0
      have x1 := hI.c1
      have x2 := hI.c2
      have x3 := hI.c3
      have x4 := hI.c4
      unfold insV at hpu
      generalize code.getD j default = x at *
      clear hI HW
      go_wp2_with (go_at_call 31; refine hpu.mono ?_; rintro e we ⟨a5, k5, rfl, hg5, ht5⟩; replace hg5 := hd (HZ.out _ _ _ hg5); replace ht5 := hd (HT4.out.trans ht5))
      go_roundg (gk - 1)
      case rel => exact ⟨j + 1, nn + 12, a5, k5, by omega, by go_num, rfl, by omega, hd ⟨hg5.out, ht5.out⟩⟩
      case measure => omega
 case rest =>
 clear HG7
 obtain ⟨n, a8, k8, rfl, HGr⟩ := hcut
 have HE : Hid (EncOut w c (.returned (.tuple #[.slice a8 n k8, .int .i64 0])) wc) := hd (by
  have h1 := HGr.out.len
  have h2 := HGr.out.row
  rw [eP_all c HM.out] at h1 h2
  refine ⟨a8, k8, by rw [h1], by rw [h1]; exact h2, fun k hk => Nat.le_trans B1.out.size (HGr.out.new k hk), B1.out.trans (HGr.out.bel.mono B1.out.size)⟩)
 go_wp2_with fail
 go_ret2
 exact HE.out
theorem denc_ok (c : Cfg) (g : Loc) (w : World) (hR : CfR w c g) (hm : (mayC c).1 = 0) :
  Calls Tryz.prog 17 #[cfV c g] w (EncOut w c) := by
 obtain ⟨h0, h1, -, -, -, -, h6, -⟩ := (mayC_iff c).1 hm
 have l1 := lab_len h0
 have l2 := tab_len h1
 have l3 := cnt_len h6
 obtain ⟨bl, ol, e1, -⟩ := rd_lab hR.lab (by omega)
 obtain ⟨bt, ot, e2, -⟩ := rd_int hR.tab (by omega)
 obtain ⟨bp, op, e3, -⟩ := hR.prs _ _ (psC_at g.ms 0 (by rw [hR.len]; omega)).1
 obtain ⟨la, lc, ta, tc, pa, pc, ms⟩ := g
 simp only at e1 e2 e3
 subst e1 e2 e3
 exact denc_go c bl ol lc bt ot tc bp op pc ms w hR hm
end Go.Proofs.YthhcecllejddeaaGreatDoor
