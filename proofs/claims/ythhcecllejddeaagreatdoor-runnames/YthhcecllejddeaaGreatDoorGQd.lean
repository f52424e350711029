/- What is wrong with a table: slots.New. -/
import Derived.Test.YthhcecllejddeaaGreatDoorGCb
import Derived.Test.YthhcecllejddeaaGreatDoorGQc
import Derived.Lib.AppendStr
namespace Go.Proofs.YthhcecllejddeaaGreatDoor
open Go.RowKit
theorem rd_int {w : World} {a : Option Addr} {l : List Int} (h : Rd w a (iC l)) (hl : 0 < l.length) : ∃ b off, a = some ⟨b, off, none⟩ ∧ ∀ i, i < l.length → w.cell? ⟨b, off + i, none⟩ = some (.int .i64 (l.getD i 0)) := by
 obtain ⟨b, o, rfl, _⟩ := h 0 _ (iC_at l 0 hl)
 refine ⟨b, o, rfl, fun i hi => ?_⟩
 obtain ⟨b', o', e, hc⟩ := h i _ (iC_at l i hi)
 cases e
 exact hc
set_option maxRecDepth 100000 in
theorem clone_any (b o cap : Nat) (l : List Int) (w : World) (hR : Rd w (some ⟨b, o, none⟩) (iC l)) (hl : l.length ≤ 1000000) :
  Calls Tryz.prog 77 #[.slice (some ⟨b, o, none⟩) l.length cap] w fun e w' => (∃ a' c', e = .returned (.slice a' l.length c') ∧ Row w' 3 1 a' l.length c' (iC l) ∧ ∀ k, blk a' = some k → w.heap.size ≤ k) ∧ Below w.heap.size w w' := by
 obtain ⟨i, h1, h2, h3, h4⟩ := info_parts info_int
 have hb := below_al w (.cells #[] 3)
 have hrow : Row (w.alloc (.cells #[] 3)) 3 1 (some ⟨w.heap.size, 0, none⟩) 0 0 [] := by
  have := row_new (size := 1) (n := 0) (heap_alloc_new w (.cells #[] 3)) rfl (by decide)
  exact this
 have hs : Src Tryz.prog 1 24 (.slice (some ⟨b, o, none⟩) l.length cap) l.length (iC l) (w.alloc (.cells #[] 3)) := Rd.src (hR.below hb) Tryz.underlying24 (iC_len l) (by omega) (iC_one l)
 obtain ⟨a', c', w', k1, k2, k3, k4, _⟩ := run_append_row (P := Tryz.prog) _ 24 3 i _ 1 8 Tryz.underlying24 h1 h2 h3 h4 rfl hrow _ l.length _ hs (by unfold maxLen; omega) (by omega)
 have HE : Hid (Row w' 3 1 a' l.length c' (iC l) ∧ (∀ k, blk a' = some k → w.heap.size ≤ k) ∧ Below w.heap.size w w') := hd ⟨by simpa using k2, fun k hk => by
  rcases k4 k hk with h | h
  ·cases h; exact Nat.le_refl _
  ·have := hb.size; omega, hb.trans (k3.below (by have := hb.size; omega) (fun k _ hk => by cases hk; exact Nat.le_refl _))⟩
 replace k1 : Hid (∀ ty, (Builtin.append_ #[24, 24] ty #[.slice (some ⟨w.heap.size, 0, none⟩) 0 0, .slice (some ⟨b, o, none⟩) l.length cap]).run Tryz.prog (w.alloc (.cells #[] 3)) = .ok (.slice a' l.length c') w') := hd (by simpa using k1)
 clear hR hrow hs k2 k3 k4
 have q24 : ∀ (w : World) (a : Option Addr) (n c n' c' : Nat), (binOp .eql 24 (.slice a n c) (.slice none n' c')).run Tryz.prog w = .ok (.bool a.isNone) w := fun w a n c n' c' => Lib.run_eql_slice_nil w _ _ a n c n' c' Tryz.underlying24
 go_enter Tryz.func77, Tryz.ntmps77
 go_wp2_with (first | (at_builtin; refine wpList_append_run rfl _ _ _ rfl _ _ _ _ rfl rfl k1.out ?_; clear k1))
 go_ret
 exact ⟨⟨a', c', rfl, HE.out.1, HE.out.2.1⟩, HE.out.2.2⟩
def newE (l : List Int) (P : Int) : Int := if P < 1 ∨ 8 < P ∨ l.length = 0 then 1 else if 64 < l.length then 3 else if l.all (isPt P) then 0 else 2
theorem newE_tab (l : List Int) (P : Int) (h1 : 1 ≤ P) (h8 : P ≤ 8) : newE l P = tabE l P := by
 unfold newE tabE
 by_cases h : l.length = 0
 ·rw [if_pos (by omega), if_pos h]
 ·rw [if_neg (by omega), if_neg h]
theorem all_at {l : List Int} {f : Int → Bool} (h : l.all f = true) (i : Nat) (hi : i < l.length) : f (l.getD i 0) = true := by
 rw [List.getD_eq_getElem?_getD, List.getElem?_eq_getElem hi]
 exact List.all_eq_true.1 h _ (List.getElem_mem hi)
set_option maxRecDepth 100000 in
set_option maxHeartbeats 1000000 in
theorem snew_any (a : Option Addr) (cap : Nat) (l : List Int) (P : Int) (w : World) (hR : Rd w a (iC l)) :
  Calls Tryz.prog 69 #[.slice a l.length cap, .int .i64 P] w fun e w' => (∃ v x, e = .returned (.tuple #[v, .int .i64 (newE l P), .int .i64 x])) ∧ Below w.heap.size w w' := by
 obtain ⟨E, hE⟩ : ∃ E, Hid (newE l P = E) := ⟨_, rfl⟩
 rw [hE.out]
 have HB0 := hd (below_same w)
 by_cases h1 : P < 1
 ·obtain rfl : E = 1 := by rw [← hE.out, newE, if_pos (by omega)]
  clear hR hE
  generalize l.length = len at *
  go_enter Tryz.func69, Tryz.ntmps69
  go_wp2
  go_ret3
  exact ⟨⟨_, _, rfl⟩, HB0.out⟩
 ·have h1d : decide (P < 1) = false := by simp; omega
  have h1' : 1 ≤ P := by omega
  by_cases h2 : 8 < P
  ·obtain rfl : E = 1 := by rw [← hE.out, newE, if_pos (by omega)]
   clear hR hE h1
   generalize l.length = len at *
   go_enter Tryz.func69, Tryz.ntmps69
   go_wp2
   go_ret3
   exact ⟨⟨_, _, rfl⟩, HB0.out⟩
  ·have h2d : decide (8 < P) = false := by simp; omega
   have h2' : P ≤ 8 := by omega
   by_cases h3 : l.length = 0
   ·obtain rfl : E = 1 := by rw [← hE.out, newE, if_pos (by omega)]
    have h3' : ((l.length : Int) == 0) = true := by rw [beq_iff_eq]; omega
    clear hR hE h1 h2 h3
    generalize l.length = len at *
    go_enter Tryz.func69, Tryz.ntmps69
    go_wp2
    go_ret3
    exact ⟨⟨_, _, rfl⟩, HB0.out⟩
   ·have h3d : ((l.length : Int) == 0) = false := by rw [beq_eq_false_iff_ne]; omega
    by_cases h4 : 64 < l.length
    ·obtain rfl : E = 3 := by rw [← hE.out, newE, if_neg (by omega), if_pos h4]
     have h4' : (64 : Int) < (l.length : Int) := by omega
     clear hR hE h1 h2 h3 h4
     generalize l.length = len at *
     go_enter Tryz.func69, Tryz.ntmps69
     go_wp2
     go_ret3
     exact ⟨⟨_, _, rfl⟩, HB0.out⟩
    ·have h4' : (l.length : Int) ≤ 64 := by omega
     have h4d : decide ((64 : Int) < (l.length : Int)) = false := by simp; omega
     have hE2 : Hid (E = if l.all (isPt P) then 0 else 2) := hd (by rw [← hE.out, newE, if_neg (by omega), if_neg h4])
     obtain ⟨b, o, rfl, hc⟩ := rd_int hR (by omega)
     have HC := hd hc
     have hcl := hd (clone_any b o cap l w hR (by omega))
     clear hc hR hE
     go_enter Tryz.func69, Tryz.ntmps69
     go_wp2_with fail
     go_loopg [7, 8, 25, 26, 27, 28, 29, 30, 31, 32, 33, 34, 35, 36, 37, 38] l.length (fun g v7 v8 v25 v26 v27 v28 v29 v30 v31 v32 v33 v34 v35 v36 v37 v38 wr => ∃ i : Nat, i + g = l.length ∧ v25 = .int .i64 (i : Int) ∧ wr = w ∧ Hid (∀ j, j < i → isPt P (l.getD j 0) = true))
     case atStart => exact ⟨0, by omega, by go_num, rfl, hd (fun j hj => by omega)⟩
     case round =>
      obtain ⟨i, hi, rfl, rfl, HA⟩ := hrel
      by_cases h0 : gk = 0
      ·subst h0
       have hge : decide ((i : Int) < (l.length : Int)) = false := by simp; omega
       have hge' : (l.length : Int) ≤ (i : Int) := by omega
       obtain rfl : E = 0 := by
        rw [hE2.out, if_pos]
        rw [List.all_eq_true]
        intro x hx
        obtain ⟨j, hj, rfl⟩ := List.getElem_of_mem hx
        have := HA.out j (by omega)
        rwa [List.getD_eq_getElem?_getD, List.getElem?_eq_getElem hj] at this
       have hcc := hcl.out
       clear hE2 HA HC
       go_wp2_with (go_at_call 77; refine hcc.mono ?_; rintro e w1 ⟨⟨a', c', rfl, hrow, hnew⟩, hb⟩; replace hrow := hd hrow; replace hb := hd hb)
       go_ret3
       exact ⟨⟨_, _, rfl⟩, hb.out.trans ((below_al w1 _).mono hb.out.size)⟩
      ·have hlt : (i : Int) < (l.length : Int) := by omega
       have hx := HC.out i (by omega)
       have HI : Hid (isPt P (l.getD i 0) = false → E = 2) := hd (by
        intro hf
        rw [hE2.out, if_neg]
        intro hall
        rw [all_at hall i (by omega)] at hf
        cases hf)
       have HN : Hid (isPt P (l.getD i 0) = true → ∀ j, j < i + 1 → isPt P (l.getD j 0) = true) := hd (by
        intro ht j hj
        by_cases e : j = i
        ·rw [e]; exact ht
        ·exact HA.out j (by omega))
       clear hE2 HA HC
       generalize l.getD i 0 = x at *
       by_cases hx0 : x < 0
       ·obtain rfl : E = 2 := HI.out (by simp [isPt]; omega)
        go_wp2_with fail
        go_ret3
        exact ⟨⟨_, _, rfl⟩, HB0.out⟩
       ·have hx0d : decide (x < 0) = false := by simp; omega
        have hx0' : 0 ≤ x := by omega
        by_cases hxP : P ≤ x
        ·obtain rfl : E = 2 := HI.out (by simp [isPt]; omega)
         go_wp2_with fail
         go_ret3
         exact ⟨⟨_, _, rfl⟩, HB0.out⟩
        ·have hxPd : decide (P ≤ x) = false := by simp; omega
         have hxP' : x < P := by omega
         go_wp2_with fail
         go_roundg (gk - 1)
         case rel => exact ⟨i + 1, by omega, by go_num, rfl, hd (HN.out (by simp [isPt]; omega))⟩
         case measure => omega
end Go.Proofs.YthhcecllejddeaaGreatDoor

namespace Go.Proofs.YthhcecllejddeaaGreatDoor
open Go.RowKit
theorem prg_of_rd {w : World} {a : Option Addr} {l : List Ins} (h : Rd w a (pCells l)) : Prg w a l := fun i hi => by
 have h0 := pCells_at l i 0 hi (by omega)
 rw [Nat.add_zero] at h0
 obtain ⟨b, o, rfl, c0⟩ := h (i * 5) (.int .i64 (l.getD i default).op) h0
 refine ⟨b, o, rfl, ?_⟩
 have hk : ∀ r u, r < 5 → (insCells (l.getD i default))[r]? = some u → w.cell? ⟨b, o + i * 5 + r, none⟩ = some u := fun r u hr hu => by
  obtain ⟨b', o', e, hc⟩ := h (i * 5 + r) u ((pCells_at l i r hi hr).trans hu)
  cases e
  rw [Nat.add_assoc]
  exact hc
 exact ⟨hk 0 _ (by omega) rfl, hk 1 _ (by omega) rfl, hk 2 _ (by omega) rfl, hk 3 _ (by omega) rfl, hk 4 _ (by omega) rfl⟩
def nmV (c : Cfg) : Value := .agg #[.int .i64 c.fuel, .int .i64 c.lane, .int .i64 c.locks, .int .i64 c.log]
set_option maxRecDepth 100000 in
theorem cnum_any (c : Cfg) (g : Loc) (w : World) :
  Calls Tryz.prog 49 #[cfV c g] w fun e w' => e = .returned (nmV c) ∧ Below w.heap.size w w' := by
 unfold cfV cfA nmV
 obtain ⟨w1, hw1⟩ : ∃ W, Hid (((w.alloc (.cells #[.slice g.la c.labels.length g.lc, .slice g.ta c.table.length g.tc, .int .i64 c.fuel, .int .i64 c.lane, .int .i64 c.locks, .int .i64 c.log, .slice g.pa c.procs.length g.pc] 27)).alloc (.cells #[.int .i64 c.fuel, .int .i64 c.lane, .int .i64 c.locks, .int .i64 c.log] 116)) = W) := ⟨_, rfl⟩
 have hb : Below w.heap.size w w1 := by rw [← hw1.out]; exact ((Below.refl _ w).alloc (Nat.le_refl _) _).alloc (by simp) _
 have HB := hd hb
 have hh : w1.heap[w.heap.size + 1]? = some (.cells #[.int .i64 c.fuel, .int .i64 c.lane, .int .i64 c.locks, .int .i64 c.log] 116 (0, 0)) := by
  rw [← hw1.out, show w.heap.size + 1 = (w.alloc (.cells #[.slice g.la c.labels.length g.lc, .slice g.ta c.table.length g.tc, .int .i64 c.fuel, .int .i64 c.lane, .int .i64 c.locks, .int .i64 c.log, .slice g.pa c.procs.length g.pc] 27)).heap.size by simp]
  exact heap_alloc_new _ _
 have d0 := cell_of_row w1 _ 0 _ _ _ hh
 have d1 := cell_of_row w1 _ 1 _ _ _ hh
 have d2 := cell_of_row w1 _ 2 _ _ _ hh
 have d3 := cell_of_row w1 _ 3 _ _ _ hh
 simp at d0 d1 d2 d3
 clear hb hh
 go_enter Tryz.func49, Tryz.ntmps49
 go_wp2_with fail
 rw [hw1.out]
 refine bodyPost_ret (v := .agg #[.int .i64 c.fuel, .int .i64 c.lane, .int .i64 c.locks, .int .i64 c.log]) ?_ rfl ⟨rfl, HB.out⟩
 simp [results, Tryz.results49, go_sem, d0, d1, d2, d3]
set_option maxRecDepth 100000 in
theorem mayRun_any (m : PrM) (P K : Int) (w : World) (hP : 0 ≤ P ∧ P ≤ 8) (hR : Rd w m.a (pCells m.p.code)) (hF : Fld w) :
  Calls Tryz.prog 72 #[.agg #[.int .i64 m.p.part, .slice m.a m.p.code.length m.c], .int .i64 P, .int .i64 K] w fun e w' => e = .returned (.int .i64 (prE P K m.p)) ∧ Below w.heap.size w w' := by
 have hwi := within_any m.p.part 0 (P - 1)
 have eP : IntKind.i64.wrap (P - 1) = P - 1 := by rw [IntKind.wrap_i64]; omega
 have hb := below_al w (.cells #[.int .i64 m.p.part, .slice m.a m.p.code.length m.c] 57)
 have hm := may_any m.a m.c m.p.code K _ (prg_of_rd (hR.below hb)) (hF.kept hb)
 have HB := hd hb
 obtain ⟨E, hE⟩ : ∃ E, Hid (prE P K m.p = E) := ⟨_, rfl⟩
 rw [hE.out]
 by_cases h0 : rngE 0 (P - 1) m.p.part = 0
 ·obtain rfl : E = (mayL m.p.code K).1 := by rw [← hE.out, prE, if_neg (by simp [h0])]
  rw [h0] at hwi
  clear hb hE h0
  generalize (mayL m.p.code K).1 = E at *
  generalize (mayL m.p.code K).2 = D at *
  obtain ⟨⟨part, code⟩, ma, mc⟩ := m
  simp only at *
  go_enter Tryz.func72, Tryz.ntmps72
  go_wp2_with (first | (go_at_call 70; refine (hwi _).mono ?_; rintro e w1 ⟨rfl, rfl⟩) | (go_at_call 101; refine hm.mono ?_; rintro e w2 ⟨rfl, hb2⟩))
  go_ret
  exact ⟨rfl, HB.out.trans (hb2.mono HB.out.size)⟩
 ·obtain rfl : E = 2 := by rw [← hE.out, prE, if_pos h0]
  have h2 : rngE 0 (P - 1) m.p.part = 2 := by
   unfold rngE at h0 ⊢
   split at h0
   ·exact absurd rfl h0
   ·next hh => rw [if_neg hh]
  rw [h2] at hwi
  clear hb hE h0 h2 hm
  obtain ⟨⟨part, code⟩, ma, mc⟩ := m
  simp only at *
  go_enter Tryz.func72, Tryz.ntmps72
  go_wp2_with (first | (go_at_call 70; refine (hwi _).mono ?_; rintro e w1 ⟨rfl, rfl⟩))
  go_ret
  exact ⟨rfl, HB.out⟩
end Go.Proofs.YthhcecllejddeaaGreatDoor

namespace Go.Proofs.YthhcecllejddeaaGreatDoor
open Go.RowKit
def mN4 (c : Cfg) : Int × Int := if cntE 32 c.procs.length ≠ 0 then (cntE 32 c.procs.length, 6) else prF c.labels.length c.locks c.procs 0
def mN3 (c : Cfg) : Int × Int := if rngE 0 4096 c.log ≠ 0 then (2, 5) else mN4 c
def mN2 (c : Cfg) : Int × Int := if rngE 0 8 c.locks ≠ 0 then (2, 4) else mN3 c
def mN1 (c : Cfg) : Int × Int := if rngE 1 64 c.lane ≠ 0 then (2, 3) else mN2 c
def mN0 (c : Cfg) : Int × Int := if rngE 1 256 c.fuel ≠ 0 then (2, 2) else mN1 c
def mayN (c : Cfg) : Nat → Int × Int
 | 0 => mN0 c
 | 1 => mN1 c
 | 2 => mN2 c
 | 3 => mN3 c
 | _ => mN4 c
theorem mayC_eq (c : Cfg) : mayC c = if (lbL c.labels).1 ≠ 0 then (((lbL c.labels).1 : Int), 0) else if tabE c.table c.labels.length ≠ 0 then (tabE c.table c.labels.length, 1) else mayN c 0 := rfl
theorem rngE_two {lo hi v : Int} (h : rngE lo hi v ≠ 0) : rngE lo hi v = 2 := by
 unfold rngE at h ⊢
 split at h
 ·exact absurd rfl h
 ·next hh => rw [if_neg hh]
theorem prF_at (P K : Int) : ∀ (l : List Pr) (s : Int) (i : Nat), i < l.length → (∀ j, j < i → prE P K (l.getD j default) = 0) → prE P K (l.getD i default) ≠ 0 → prF P K l s = (prE P K (l.getD i default), 7 + (s + i))
 | [], _, i, h, _, _ => absurd h (Nat.not_lt_zero i)
 | x :: r, s, 0, _, _, h => by
  have h' : prE P K x ≠ 0 := by simpa using h
  simp only [prF, if_pos h', List.getD_cons_zero]
  simp
 | x :: r, s, i + 1, hi, hb, h => by
  have h0 : ¬ prE P K x ≠ 0 := by
   have := hb 0 (by omega)
   simpa using this
  have ih := prF_at P K r (s + 1) i (by simpa using hi) (fun j hj => by simpa using hb (j + 1) (by omega)) (by simpa using h)
  simp only [prF, if_neg h0, ih, List.getD_cons_succ, Prod.mk.injEq, true_and]
  omega
set_option maxRecDepth 100000 in
set_option maxHeartbeats 4000000 in
theorem cmay_any (c : Cfg) (g : Loc) (w : World) (hR : CfR w c g) (hF : Fld w) (hL : Lim w) :
  Calls Tryz.prog 33 #[cfV c g] w fun e w' => e = .returned (.tuple #[.int .i64 (mayC c).1, .int .i64 (mayC c).2]) ∧ Below w.heap.size w w' := by
 have HM := hd (mayC_eq c)
 obtain ⟨M, hM⟩ : ∃ M, Hid (mayC c = M) := ⟨_, rfl⟩
 rw [hM.out] at HM ⊢
 have HR := hd hR
 have HF := hd hF
 have HL := hd hL
 have HL2 := hd hR.len
 clear hR hF hL hM
 unfold cfV cfA
 go_enter Tryz.func33, Tryz.ntmps33
 go_upto_region 1 with fail
 obtain ⟨w1, hw1⟩ : ∃ W, Hid (w.alloc (.cells #[.slice g.la c.labels.length g.lc, .slice g.ta c.table.length g.tc, .int .i64 c.fuel, .int .i64 c.lane, .int .i64 c.locks, .int .i64 c.log, .slice g.pa c.procs.length g.pc] 27) = W) := ⟨_, rfl⟩
 rw [hw1.out]
 have B1 : Hid (Below w.heap.size w w1) := hd (by rw [← hw1.out]; exact below_al w _)
 obtain ⟨G, hG⟩ : ∃ G, Hid (w.heap.size = G) := ⟨_, rfl⟩
 have HG : Hid (w1.heap[G]? = some (.cells #[.slice g.la c.labels.length g.lc, .slice g.ta c.table.length g.tc, .int .i64 c.fuel, .int .i64 c.lane, .int .i64 c.locks, .int .i64 c.log, .slice g.pa c.procs.length g.pc] 27 (0, 0))) := hd (by rw [← hw1.out, ← hG.out]; exact heap_alloc_new w _)
 rw [hG.out]
 clear hw1
 have HK : Hid (∀ W, Below w1.heap.size w1 W → W.heap[G]? = some (.cells #[.slice g.la c.labels.length g.lc, .slice g.ta c.table.length g.tc, .int .i64 c.fuel, .int .i64 c.lane, .int .i64 c.locks, .int .i64 c.log, .slice g.pa c.procs.length g.pc] 27 (0, 0))) := hd (fun W hW => (hW.block G (Array.getElem?_eq_some_iff.1 HG.out).1).trans HG.out)
 have HC : Hid (∀ W, Below w1.heap.size w1 W → W.cell? ⟨G, 0, none⟩ = some (.slice g.la c.labels.length g.lc) ∧ W.cell? ⟨G, 1, none⟩ = some (.slice g.ta c.table.length g.tc) ∧ W.cell? ⟨G, 2, none⟩ = some (.int .i64 c.fuel) ∧ W.cell? ⟨G, 3, none⟩ = some (.int .i64 c.lane) ∧ W.cell? ⟨G, 4, none⟩ = some (.int .i64 c.locks) ∧ W.cell? ⟨G, 5, none⟩ = some (.int .i64 c.log) ∧ W.cell? ⟨G, 6, none⟩ = some (.slice g.pa c.procs.length g.pc)) := hd (fun W hW => by
  have h := HK.out W hW
  exact ⟨cell_of_row W G 0 _ _ _ h, cell_of_row W G 1 _ _ _ h, cell_of_row W G 2 _ _ _ h, cell_of_row W G 3 _ _ _ h, cell_of_row W G 4 _ _ _ h, cell_of_row W G 5 _ _ _ h, cell_of_row W G 6 _ _ _ h⟩)
 have HB : Hid (Below w1.heap.size w1 w1) := hd (below_same w1)
 obtain ⟨c0, -⟩ := HC.out w1 HB.out
 have ht := tmay_any g.la g.lc c.labels w1 (HR.out.lab.below B1.out)
 have HE1 : Hid (((lbL c.labels).1 : Int) = 0 → 1 ≤ c.labels.length ∧ c.labels.length ≤ 8) := hd (fun h => lab_len (by omega))
 generalize (lbL c.labels).1 = E1 at *
 generalize (lbL c.labels).2 = D1 at *
 go_upto_region 2 with (go_at_call 68; refine ht.mono ?_; rintro e w2 ⟨rfl, hw2⟩; replace hw2 := hd hw2)
 clear ht c0
 have B2 : Hid (Below w1.heap.size w1 w2) := hd (by obtain ⟨n, e⟩ := hw2.out; rw [e]; exact below_draw w1 n)
 clear hw2
 by_cases hE1 : E1 = 0
 ·subst hE1
  replace HM : Hid (M = if tabE c.table c.labels.length ≠ 0 then (tabE c.table c.labels.length, 1) else mayN c 0) := hd (by rw [HM.out, if_neg (by simp)])
  have hlen := HE1.out rfl
  obtain ⟨c0, c1, -⟩ := HC.out w2 B2.out
  have hn := snew_any g.ta g.tc c.table c.labels.length w2 ((HR.out.tab.below B1.out).below B2.out)
  rw [newE_tab _ _ (by omega) (by omega)] at hn
  generalize tabE c.table c.labels.length = E2 at *
  replace hn := hd hn
  go_upto_region 4 with fail
  have hn2 := hn.out
  clear hn
  go_upto_region 5 with (go_at_call 69; refine hn2.mono ?_; rintro e w3 ⟨⟨v, x, rfl⟩, b3⟩; replace b3 := hd b3)
  replace B2 : Hid (Below w1.heap.size w1 w3) := hd (B2.out.trans (b3.out.mono B2.out.size))
  clear b3 hn2 c0 c1 HE1
  by_cases hE2 : E2 = 0
  ·subst hE2
   replace HM : Hid (M = mayN c 0) := hd (by rw [HM.out, if_neg (by simp)])
   obtain ⟨c0, c1, c2, c3, c4, c5, c6⟩ := HC.out w3 B2.out
   have hnm := cnum_any c g w3
   unfold cfV cfA nmV at hnm
   go_upto_block 0 with (go_at_call 49; refine hnm.mono ?_; rintro e w4 ⟨rfl, b4⟩; replace b4 := hd b4)
   replace B2 : Hid (Below w1.heap.size w1 w4) := hd (B2.out.trans (b4.out.mono B2.out.size))
   clear b4 hnm c0 c1 c2 c3 c4 c5 c6
   go_wp2_with fail
   go_loopg [9, 10, 11, 40, 41, 42, 43, 44, 45, 46, 47, 48, 49, 50, 51, 52, 53, 54, 55, 56, 57, 58, 59] 4 (fun gg v9 v10 v11 v40 v41 v42 v43 v44 v45 v46 v47 v48 v49 v50 v51 v52 v53 v54 v55 v56 v57 v58 v59 wr => ∃ i : Nat, i + gg = 4 ∧ v40 = .int .i64 (i : Int) ∧ Hid (M = mayN c i) ∧ Hid (Below w1.heap.size w1 wr))
   case atStart => exact ⟨0, by omega, by go_num, HM, B2⟩
   case round =>
    clear HM B2
    obtain ⟨i, hi, rfl, HM, B2⟩ := hrel
    have hc : i = 0 ∨ i = 1 ∨ i = 2 ∨ i = 3 ∨ i = 4 := by omega
    rcases hc with rfl | rfl | rfl | rfl | rfl
    ·obtain rfl : gk = 4 := by omega
     have ix : ∀ W, (Instr.index 116 (.agg #[.int .i64 c.fuel, .int .i64 c.lane, .int .i64 c.locks, .int .i64 c.log]) (.int .i64 0)).run Tryz.prog W = .ok (.int .i64 c.fuel) W := fun W => by kernel_rfl
     have y0 := ((HL.out.kept B1.out).kept B2.out) 0 (by omega)
     have y1 := ((HL.out.kept B1.out).kept B2.out) 1 (by omega)
     simp only [limT, List.getD_cons_zero, List.getD_cons_succ] at y0 y1
     have hwi := within_any c.fuel 1 256
     have HM2 : Hid (M = if rngE 1 256 c.fuel ≠ 0 then (2, 2) else mayN c 1) := hd HM.out
     have HT : Hid (rngE 1 256 c.fuel ≠ 0 → rngE 1 256 c.fuel = 2) := hd rngE_two
     clear HM
     generalize rngE 1 256 c.fuel = E at *
     go_upto_region 10 with fail
     go_quiet (first | with_reducible exact Calls.quiet_of_same (hwi _))
     by_cases hE : E = 0
     ·subst hE
      clear y0 y1 hwi ix
      go_wp2_with fail
      go_roundg 3
      case rel => exact ⟨1, by omega, rfl, hd (by rw [HM2.out, if_neg (by simp)]), hd (B2.out.trans ((below_draw wr nq).mono B2.out.size))⟩
      case measure => omega
     ·obtain rfl : E = 2 := HT.out hE
      obtain rfl : M = (2, 2) := by rw [HM2.out, if_pos hE]
      clear y0 y1 hwi ix hE
      go_wp2_with fail
      go_ret2
      exact ⟨rfl, B1.out.trans ((B2.out.trans ((below_draw wr nq).mono B2.out.size)).mono B1.out.size)⟩
    ·obtain rfl : gk = 3 := by omega
     have ix : ∀ W, (Instr.index 116 (.agg #[.int .i64 c.fuel, .int .i64 c.lane, .int .i64 c.locks, .int .i64 c.log]) (.int .i64 1)).run Tryz.prog W = .ok (.int .i64 c.lane) W := fun W => by kernel_rfl
     have y0 := ((HL.out.kept B1.out).kept B2.out) 3 (by omega)
     have y1 := ((HL.out.kept B1.out).kept B2.out) 4 (by omega)
     simp only [limT, List.getD_cons_zero, List.getD_cons_succ] at y0 y1
     have hwi := within_any c.lane 1 64
     have HM2 : Hid (M = if rngE 1 64 c.lane ≠ 0 then (2, 3) else mayN c 2) := hd HM.out
     have HT : Hid (rngE 1 64 c.lane ≠ 0 → rngE 1 64 c.lane = 2) := hd rngE_two
     clear HM
     generalize rngE 1 64 c.lane = E at *
     go_upto_region 10 with fail
     go_quiet (first | with_reducible exact Calls.quiet_of_same (hwi _))
     by_cases hE : E = 0
     ·subst hE
      clear y0 y1 hwi ix
      go_wp2_with fail
      go_roundg 2
      case rel => exact ⟨2, by omega, rfl, hd (by rw [HM2.out, if_neg (by simp)]), hd (B2.out.trans ((below_draw wr nq).mono B2.out.size))⟩
      case measure => omega
     ·obtain rfl : E = 2 := HT.out hE
      obtain rfl : M = (2, 3) := by rw [HM2.out, if_pos hE]
      clear y0 y1 hwi ix hE
      go_wp2_with fail
      go_ret2
      exact ⟨rfl, B1.out.trans ((B2.out.trans ((below_draw wr nq).mono B2.out.size)).mono B1.out.size)⟩
    ·obtain rfl : gk = 2 := by omega
     have ix : ∀ W, (Instr.index 116 (.agg #[.int .i64 c.fuel, .int .i64 c.lane, .int .i64 c.locks, .int .i64 c.log]) (.int .i64 2)).run Tryz.prog W = .ok (.int .i64 c.locks) W := fun W => by kernel_rfl
     have y0 := ((HL.out.kept B1.out).kept B2.out) 6 (by omega)
     have y1 := ((HL.out.kept B1.out).kept B2.out) 7 (by omega)
     simp only [limT, List.getD_cons_zero, List.getD_cons_succ] at y0 y1
     have hwi := within_any c.locks 0 8
     have HM2 : Hid (M = if rngE 0 8 c.locks ≠ 0 then (2, 4) else mayN c 3) := hd HM.out
     have HT : Hid (rngE 0 8 c.locks ≠ 0 → rngE 0 8 c.locks = 2) := hd rngE_two
     clear HM
     generalize rngE 0 8 c.locks = E at *
     go_upto_region 10 with fail
     go_quiet (first | with_reducible exact Calls.quiet_of_same (hwi _))
     by_cases hE : E = 0
     ·subst hE
      clear y0 y1 hwi ix
      go_wp2_with fail
      go_roundg 1
      case rel => exact ⟨3, by omega, rfl, hd (by rw [HM2.out, if_neg (by simp)]), hd (B2.out.trans ((below_draw wr nq).mono B2.out.size))⟩
      case measure => omega
     ·obtain rfl : E = 2 := HT.out hE
      obtain rfl : M = (2, 4) := by rw [HM2.out, if_pos hE]
      clear y0 y1 hwi ix hE
      go_wp2_with fail
      go_ret2
      exact ⟨rfl, B1.out.trans ((B2.out.trans ((below_draw wr nq).mono B2.out.size)).mono B1.out.size)⟩
    ·obtain rfl : gk = 1 := by omega
     have ix : ∀ W, (Instr.index 116 (.agg #[.int .i64 c.fuel, .int .i64 c.lane, .int .i64 c.locks, .int .i64 c.log]) (.int .i64 3)).run Tryz.prog W = .ok (.int .i64 c.log) W := fun W => by kernel_rfl
     have y0 := ((HL.out.kept B1.out).kept B2.out) 9 (by omega)
     have y1 := ((HL.out.kept B1.out).kept B2.out) 10 (by omega)
     simp only [limT, List.getD_cons_zero, List.getD_cons_succ] at y0 y1
     have hwi := within_any c.log 0 4096
     have HM2 : Hid (M = if rngE 0 4096 c.log ≠ 0 then (2, 5) else mayN c 4) := hd HM.out
     have HT : Hid (rngE 0 4096 c.log ≠ 0 → rngE 0 4096 c.log = 2) := hd rngE_two
     clear HM
     generalize rngE 0 4096 c.log = E at *
     go_upto_region 10 with fail
     go_quiet (first | with_reducible exact Calls.quiet_of_same (hwi _))
     by_cases hE : E = 0
     ·subst hE
      clear y0 y1 hwi ix
      go_wp2_with fail
      go_roundg 0
      case rel => exact ⟨4, by omega, rfl, hd (by rw [HM2.out, if_neg (by simp)]), hd (B2.out.trans ((below_draw wr nq).mono B2.out.size))⟩
      case measure => omega
     ·obtain rfl : E = 2 := HT.out hE
      obtain rfl : M = (2, 5) := by rw [HM2.out, if_pos hE]
      clear y0 y1 hwi ix hE
      go_wp2_with fail
      go_ret2
      exact ⟨rfl, B1.out.trans ((B2.out.trans ((below_draw wr nq).mono B2.out.size)).mono B1.out.size)⟩
    ·obtain rfl : gk = 0 := by omega
     replace HM : Hid (M = if cntE 32 c.procs.length ≠ 0 then (cntE 32 c.procs.length, 6) else prF c.labels.length c.locks c.procs 0) := hd HM.out
     obtain ⟨c0, c1, c2, c3, c4, c5, c6⟩ := HC.out wr B2.out
     have hso := some_any c.procs.length 32
     have HT : Hid (cntE 32 c.procs.length = 0 → c.procs.length ≤ 32) := hd (fun h => by have := cnt_len h; omega)
     have HP : Hid (cntE 32 c.procs.length = 0 → c.procs.length ≠ 0) := hd (fun h => by have := cnt_len h; omega)
     generalize cntE 32 (c.procs.length : Int) = E at *
     go_upto_region 15 with (go_at_call 71; refine (hso _).mono ?_; rintro e wq ⟨rfl, hwq⟩; obtain rfl : wr = wq := hwq.symm)
     clear hso
     by_cases hE : E = 0
     ·subst hE
      replace HM : Hid (M = prF c.labels.length c.locks c.procs 0) := hd (by rw [HM.out, if_neg (by simp)])
      have hp32 := HT.out rfl
      have hne : 0 < g.ms.length := by rw [HL2.out]; have := HP.out rfl; omega
      obtain ⟨b, o, epa, -⟩ := HR.out.prs _ _ (psC_at g.ms 0 hne).1
      obtain ⟨la, lc, ta, tc, pa, pc, ms⟩ := g
      simp only at epa hne c0 c1 c6 HC ⊢
      subst epa
      replace HL2 : Hid (ms.length = c.procs.length) := HL2
      go_upto_block 2 with fail
      clear c0 c1 c2 c3 c4 c5 c6 HT
      go_wp2_with fail
      go_loopg [13, 14, 15, 70, 71, 72, 73, 74, 75, 76, 77, 78, 79, 80, 81, 82, 83, 84, 85, 86, 87] c.procs.length (fun gg v13 v14 v15 v70 v71 v72 v73 v74 v75 v76 v77 v78 v79 v80 v81 v82 v83 v84 v85 v86 v87 wr => ∃ i : Nat, i + gg = c.procs.length ∧ v70 = .int .i64 (i : Int) ∧ Hid (∀ j, j < i → prE c.labels.length c.locks (c.procs.getD j default) = 0) ∧ Hid (Below w1.heap.size w1 wr))
      case atStart => exact ⟨0, by omega, by go_num, hd (fun j hj => by omega), B2⟩
      case round =>
       clear B2
       obtain ⟨i, hi, rfl, HA, B2⟩ := hrel
       by_cases h0 : gk = 0
       ·subst h0
        have hge : decide ((i : Int) < (c.procs.length : Int)) = false := by simp; omega
        have hge' : (c.procs.length : Int) ≤ (i : Int) := by omega
        obtain rfl : M = (0, 0) := by
         rw [HM.out]
         refine prF_zero _ _ _ _ ((prF_iff _ _ _ _).2 fun p hp => ?_)
         obtain ⟨j, hj, rfl⟩ := List.getElem_of_mem hp
         have := HA.out j (by omega)
         rwa [List.getD_eq_getElem?_getD, List.getElem?_eq_getElem hj] at this
        go_wp2_with fail
        go_ret2
        exact ⟨rfl, B1.out.trans (B2.out.mono B1.out.size)⟩
       ·have hlt : (i : Int) < (c.procs.length : Int) := by omega
        have HRr := hd ((HR.out.below B1.out).below B2.out)
        have hims : i < ms.length := by rw [HL2.out]; omega
        obtain ⟨b', o', epa', x0⟩ := HRr.out.prs _ _ (psC_at ms i hims).1
        cases epa'
        obtain ⟨b', o', epa', x1⟩ := HRr.out.prs _ _ (psC_at ms i hims).2
        cases epa'
        have hx1 : o + (i * 2 + 1) = o + i * 2 + 1 := by omega
        rw [hx1] at x1
        have hRc := HRr.out.cod (ms.getD i default) (by rw [List.getD_eq_getElem?_getD, List.getElem?_eq_getElem hims]; exact List.getElem_mem _)
        have HAt := hd (HRr.out.at i)
        obtain ⟨d0, -, -, -, d4, -, d6⟩ := HC.out wr B2.out
        have HFr := hd ((HF.out.kept B1.out).kept B2.out)
        have hmr : Hid (∀ W, Below wr.heap.size wr W → Calls Tryz.prog 72 #[.agg #[.int .i64 (ms.getD i default).p.part, .slice (ms.getD i default).a (ms.getD i default).p.code.length (ms.getD i default).c], .int .i64 c.labels.length, .int .i64 c.locks] W fun e w' => e = .returned (.int .i64 (prE c.labels.length c.locks (c.procs.getD i default))) ∧ Below W.heap.size W w') := hd (by
         intro W hW
         have := mayRun_any (ms.getD i default) c.labels.length c.locks W ⟨by omega, by omega⟩ (hRc.below hW) (HFr.out.kept hW)
         rw [HAt.out] at this ⊢
         exact this)
        have HI : Hid (prE c.labels.length c.locks (c.procs.getD i default) ≠ 0 → M = (prE c.labels.length c.locks (c.procs.getD i default), 7 + (i : Int))) := hd (fun hne => by
         rw [HM.out, prF_at _ _ _ 0 i (by omega) HA.out hne]
         simp)
        have HN : Hid (prE c.labels.length c.locks (c.procs.getD i default) = 0 → ∀ j, j < i + 1 → prE c.labels.length c.locks (c.procs.getD j default) = 0) := hd (fun hz j hj => by
         by_cases e : j = i
         ·rw [e]; exact hz
         ·exact HA.out j (by omega))
        clear HM HA hRc HFr HRr HAt
        generalize prE c.labels.length c.locks (c.procs.getD i default) = E at *
        generalize ms.getD i default = m at *
        obtain ⟨⟨part, code⟩, ma, mc⟩ := m
        simp only at x0 x1 hmr
        have hims2 : (i : Int) < (c.procs.length : Int) := hlt
        have hbm := below_al wr (.cells #[.int .i64 part, .slice ma code.length mc] 57)
        have hmc := hmr.out _ hbm
        have e0 := (hbm.cell (p := ⟨G, 0, none⟩) (World.block_lt_of_cell? wr _ d0)).trans d0
        have e4 := (hbm.cell (p := ⟨G, 4, none⟩) (World.block_lt_of_cell? wr _ d4)).trans d4
        replace hbm := hd hbm
        go_upto_region 21 with (go_at_call 72; refine hmc.mono ?_; rintro e w5 ⟨rfl, b5⟩; replace b5 := hd b5)
        replace B2 : Hid (Below w1.heap.size w1 w5) := hd (B2.out.trans ((hbm.out.trans (b5.out.mono hbm.out.size)).mono B2.out.size))
        clear hmc e0 e4 d0 d4 d6 x0 x1 b5 hbm
        by_cases hE : E = 0
        ·subst hE
         go_wp2_with fail
         go_roundg (gk - 1)
         case rel => exact ⟨i + 1, by omega, by go_num, hd (HN.out (by trivial)), B2⟩
         case measure => omega
        ·have hE' : (E == 0) = false := by simpa using hE
         obtain rfl : M = (E, 7 + (i : Int)) := HI.out hE
         have hi7 : (i : Int) ≤ 32 := by omega
         go_wp2_with fail
         go_ret2
         exact ⟨rfl, B1.out.trans (B2.out.mono B1.out.size)⟩
     ·obtain rfl : M = (E, 6) := by rw [HM.out, if_pos hE]
      have hE' : (E == 0) = false := by simpa using hE
      go_wp2_with fail
      go_ret2
      exact ⟨rfl, B1.out.trans (B2.out.mono B1.out.size)⟩
  ·obtain rfl : M = (E2, 1) := by rw [HM.out, if_pos hE2]
   have hE' : (E2 == 0) = false := by simpa using hE2
   go_wp2_with fail
   go_ret2
   exact ⟨rfl, B1.out.trans (B2.out.mono B1.out.size)⟩
 ·obtain rfl : M = ((E1 : Int), 0) := by rw [HM.out, if_pos hE1]
  have hE' : ((E1 : Int) == 0) = false := by simpa using hE1
  go_wp2_with fail
  go_ret2
  exact ⟨rfl, B1.out.trans (B2.out.mono B1.out.size)⟩
end Go.Proofs.YthhcecllejddeaaGreatDoor
