/- What is wrong with a table: slots.New. -/
import Derived.Test.YtmjokinagbpihaaDoorGCb
import Derived.Test.YtmjokinagbpihaaDoorQC1
import Derived.Lib.AppendStr
namespace Go.Proofs.YtmjokinagbpihaaDoor
open Go.RowKit

theorem rd_int {w : World} {a : Option Addr} {l : List Int} (h : Rd w a (iC l)) (hl : 0 < l.length) : ∃ b off, a = some ⟨b, off, none⟩ ∧ ∀ i, i < l.length → w.cell? ⟨b, off + i, none⟩ = some (.int .i64 (l.getD i 0)) := by
  obtain ⟨b, o, rfl, _⟩ := h 0 _ (iC_at l 0 hl)
  refine ⟨b, o, rfl, fun i hi => ?_⟩
  obtain ⟨b', o', e, hc⟩ := h i _ (iC_at l i hi)
  cases e
  exact hc

set_option maxRecDepth 100000 in
theorem clone_any (b o cap : Nat) (l : List Int) (w : World) (hR : Rd w (some ⟨b, o, none⟩) (iC l)) (hl : l.length ≤ 1000000) :
    Calls Tryd.prog 49 #[.slice (some ⟨b, o, none⟩) l.length cap] w fun e w' => (∃ a' c', e = .returned (.slice a' l.length c') ∧ Row w' 3 1 a' l.length c' (iC l) ∧ ∀ k, blk a' = some k → w.heap.size ≤ k) ∧ Below w.heap.size w w' := by
  obtain ⟨i, h1, h2, h3, h4⟩ := info_parts info_int
  have hb := below_al w (.cells #[] 3)
  have hrow : Row (w.alloc (.cells #[] 3)) 3 1 (some ⟨w.heap.size, 0, none⟩) 0 0 [] := by
    have := row_new (size := 1) (n := 0) (heap_alloc_new w (.cells #[] 3)) rfl (by decide)
    exact this
  have hs : Src Tryd.prog 1 24 (.slice (some ⟨b, o, none⟩) l.length cap) l.length (iC l) (w.alloc (.cells #[] 3)) := Rd.src (hR.below hb) Tryd.underlying24 (iC_len l) (by omega) (iC_one l)
  obtain ⟨a', c', w', k1, k2, k3, k4, _⟩ := run_append_row (P := Tryd.prog) _ 24 3 i _ 1 8 Tryd.underlying24 h1 h2 h3 h4 rfl hrow _ l.length _ hs (by unfold maxLen; omega) (by omega)
  have HE : Hid (Row w' 3 1 a' l.length c' (iC l) ∧ (∀ k, blk a' = some k → w.heap.size ≤ k) ∧ Below w.heap.size w w') := hd ⟨by simpa using k2, fun k hk => by
    rcases k4 k hk with h | h
    · cases h; exact Nat.le_refl _
    · have := hb.size; omega, hb.trans (k3.below (by have := hb.size; omega) (fun k _ hk => by cases hk; exact Nat.le_refl _))⟩
  replace k1 : Hid (∀ ty, (Builtin.append_ #[24, 24] ty #[.slice (some ⟨w.heap.size, 0, none⟩) 0 0, .slice (some ⟨b, o, none⟩) l.length cap]).run Tryd.prog (w.alloc (.cells #[] 3)) = .ok (.slice a' l.length c') w') := hd (by simpa using k1)
  clear hR hrow hs k2 k3 k4
  have q24 : ∀ (w : World) (a : Option Addr) (n c n' c' : Nat), (binOp .eql 24 (.slice a n c) (.slice none n' c')).run Tryd.prog w = .ok (.bool a.isNone) w := fun w a n c n' c' => Lib.run_eql_slice_nil w _ _ a n c n' c' Tryd.underlying24
  go_enter Tryd.func49, Tryd.ntmps49
  go_wp2_with (first | (at_builtin; refine wpList_append_run rfl _ _ _ rfl _ _ _ _ rfl rfl k1.out ?_; clear k1))
  go_ret
  exact ⟨⟨a', c', rfl, HE.out.1, HE.out.2.1⟩, HE.out.2.2⟩

/-- What is wrong with a table, and where. -/
def newE (l : List Int) (P : Int) : Int := if P < 1 ∨ 8 < P ∨ l.length = 0 then 1 else if 64 < l.length then 3 else if l.all (isPt P) then 0 else 2
theorem newE_tab (l : List Int) (P : Int) (h1 : 1 ≤ P) (h8 : P ≤ 8) : newE l P = tabE l P := by
  unfold newE tabE
  by_cases h : l.length = 0
  · rw [if_pos (by omega), if_pos h]
  · rw [if_neg (by omega), if_neg h]

theorem all_at {l : List Int} {f : Int → Bool} (h : l.all f = true) (i : Nat) (hi : i < l.length) : f (l.getD i 0) = true := by
  rw [List.getD_eq_getElem?_getD, List.getElem?_eq_getElem hi]
  exact List.all_eq_true.1 h _ (List.getElem_mem hi)
theorem all_not {l : List Int} {f : Int → Bool} (h : l.all f = false) : ∃ i, i < l.length ∧ f (l.getD i 0) = false ∧ ∀ j, j < i → f (l.getD j 0) = true := by
  induction l with
  | nil => simp at h
  | cons x r ih =>
    by_cases hx : f x = true
    · have hr : r.all f = false := by simpa [hx] using h
      obtain ⟨i, h1, h2, h3⟩ := ih hr
      refine ⟨i + 1, by simpa using h1, by simpa using h2, fun j hj => ?_⟩
      cases j with
      | zero => simpa using hx
      | succ j => simpa using h3 j (by omega)
    · exact ⟨0, by simp, by simpa using hx, fun j hj => by omega⟩

set_option maxRecDepth 100000 in
set_option maxHeartbeats 1000000 in
theorem snew_any (a : Option Addr) (cap : Nat) (l : List Int) (P : Int) (w : World) (hR : Rd w a (iC l)) :
    Calls Tryd.prog 27 #[.slice a l.length cap, .int .i64 P] w fun e w' => (∃ v x, e = .returned (.tuple #[v, .int .i64 (newE l P), .int .i64 x])) ∧ Below w.heap.size w w' := by
  obtain ⟨E, hE⟩ : ∃ E, Hid (newE l P = E) := ⟨_, rfl⟩
  rw [hE.out]
  have HB0 := hd (below_same w)
  by_cases h1 : P < 1
  · obtain rfl : E = 1 := by rw [← hE.out, newE, if_pos (by omega)]
    clear hR hE
    generalize l.length = len at *
    go_enter Tryd.func27, Tryd.ntmps27
    go_wp2
    go_ret3
    exact ⟨⟨_, _, rfl⟩, HB0.out⟩
  · have h1d : decide (P < 1) = false := by simp; omega
    have h1' : 1 ≤ P := by omega
    by_cases h2 : 8 < P
    · obtain rfl : E = 1 := by rw [← hE.out, newE, if_pos (by omega)]
      clear hR hE h1
      generalize l.length = len at *
      go_enter Tryd.func27, Tryd.ntmps27
      go_wp2
      go_ret3
      exact ⟨⟨_, _, rfl⟩, HB0.out⟩
    · have h2d : decide (8 < P) = false := by simp; omega
      have h2' : P ≤ 8 := by omega
      by_cases h3 : l.length = 0
      · obtain rfl : E = 1 := by rw [← hE.out, newE, if_pos (by omega)]
        have h3' : ((l.length : Int) == 0) = true := by rw [beq_iff_eq]; omega
        clear hR hE h1 h2 h3
        generalize l.length = len at *
        go_enter Tryd.func27, Tryd.ntmps27
        go_wp2
        go_ret3
        exact ⟨⟨_, _, rfl⟩, HB0.out⟩
      · have h3d : ((l.length : Int) == 0) = false := by rw [beq_eq_false_iff_ne]; omega
        by_cases h4 : 64 < l.length
        · obtain rfl : E = 3 := by rw [← hE.out, newE, if_neg (by omega), if_pos h4]
          have h4' : (64 : Int) < (l.length : Int) := by omega
          clear hR hE h1 h2 h3 h4
          generalize l.length = len at *
          go_enter Tryd.func27, Tryd.ntmps27
          go_wp2
          go_ret3
          exact ⟨⟨_, _, rfl⟩, HB0.out⟩
        · have h4' : (l.length : Int) ≤ 64 := by omega
          have h4d : decide ((64 : Int) < (l.length : Int)) = false := by simp; omega
          have hE2 : Hid (E = if l.all (isPt P) then 0 else 2) := hd (by rw [← hE.out, newE, if_neg (by omega), if_neg h4])
          obtain ⟨b, o, rfl, hc⟩ := rd_int hR (by omega)
          have HC := hd hc
          have hcl := hd (clone_any b o cap l w hR (by omega))
          clear hc hR hE
          go_enter Tryd.func27, Tryd.ntmps27
          go_wp2_with fail
          go_loopg [7, 8, 25, 26, 27, 28, 29, 30, 31, 32, 33, 34, 35, 36, 37, 38] l.length (fun g v7 v8 v25 v26 v27 v28 v29 v30 v31 v32 v33 v34 v35 v36 v37 v38 wr => ∃ i : Nat, i + g = l.length ∧ v25 = .int .i64 (i : Int) ∧ wr = w ∧ Hid (∀ j, j < i → isPt P (l.getD j 0) = true))
          case atStart => exact ⟨0, by omega, by go_num, rfl, hd (fun j hj => by omega)⟩
          case round =>
            obtain ⟨i, hi, rfl, rfl, HA⟩ := hrel
            by_cases h0 : gk = 0
            · subst h0
              have hge : decide ((i : Int) < (l.length : Int)) = false := by simp; omega
              have hge' : (l.length : Int) ≤ (i : Int) := by omega
              obtain rfl : E = 0 := by
                rw [hE2.out, if_pos]
                rw [List.all_eq_true]
                intro x hx
                obtain ⟨j, hj, rfl⟩ := List.getElem_of_mem hx
                have := HA.out j (by omega)
                rwa [List.getD_eq_getElem?_getD, List.getElem?_eq_getElem hj] at this
              have hcc := hcl.out
              clear hE2 HA HC
              go_wp2_with (go_at_call 49; refine hcc.mono ?_; rintro e w1 ⟨⟨a', c', rfl, hrow, hnew⟩, hb⟩; replace hrow := hd hrow; replace hb := hd hb)
              go_ret3
              exact ⟨⟨_, _, rfl⟩, hb.out.trans ((below_al w1 _).mono hb.out.size)⟩
            · have hlt : (i : Int) < (l.length : Int) := by omega
              have hx := HC.out i (by omega)
              have HI : Hid (isPt P (l.getD i 0) = false → E = 2) := hd (by
                intro hf
                rw [hE2.out, if_neg]
                intro hall
                rw [all_at hall i (by omega)] at hf
                cases hf)
              have HN : Hid (isPt P (l.getD i 0) = true → ∀ j, j < i + 1 → isPt P (l.getD j 0) = true) := hd (by
                intro ht j hj
                by_cases e : j = i
                · rw [e]; exact ht
                · exact HA.out j (by omega))
              clear hE2 HA HC
              generalize l.getD i 0 = x at *
              by_cases hx0 : x < 0
              · obtain rfl : E = 2 := HI.out (by simp [isPt]; omega)
                go_wp2_with fail
                go_ret3
                exact ⟨⟨_, _, rfl⟩, HB0.out⟩
              · have hx0d : decide (x < 0) = false := by simp; omega
                have hx0' : 0 ≤ x := by omega
                by_cases hxP : P ≤ x
                · obtain rfl : E = 2 := HI.out (by simp [isPt]; omega)
                  go_wp2_with fail
                  go_ret3
                  exact ⟨⟨_, _, rfl⟩, HB0.out⟩
                · have hxPd : decide (P ≤ x) = false := by simp; omega
                  have hxP' : x < P := by omega
                  go_wp2_with fail
                  go_roundg (gk - 1)
                  case rel => exact ⟨i + 1, by omega, by go_num, rfl, hd (HN.out (by simp [isPt]; omega))⟩
                  case measure => omega
end Go.Proofs.YtmjokinagbpihaaDoor

/- May: its parts. -/
namespace Go.Proofs.YtmjokinagbpihaaDoor
open Go.RowKit

theorem prg_of_rd {w : World} {a : Option Addr} {l : List Ins} (h : Rd w a (pCells l)) : Prg w a l := fun i hi => by
  have h0 := pCells_at l i 0 hi (by omega)
  rw [Nat.add_zero] at h0
  obtain ⟨b, o, rfl, c0⟩ := h (i * 5) (.int .i64 (l.getD i default).op) h0
  refine ⟨b, o, rfl, ?_⟩
  have hk : ∀ r u, r < 5 → (insCells (l.getD i default))[r]? = some u → w.cell? ⟨b, o + i * 5 + r, none⟩ = some u := fun r u hr hu => by
    obtain ⟨b', o', e, hc⟩ := h (i * 5 + r) u ((pCells_at l i r hi hr).trans hu)
    cases e
    rw [Nat.add_assoc]
    exact hc
  exact ⟨hk 0 _ (by omega) rfl, hk 1 _ (by omega) rfl, hk 2 _ (by omega) rfl, hk 3 _ (by omega) rfl, hk 4 _ (by omega) rfl⟩

def nmV (c : Cfg) : Value := .agg #[.int .i64 c.fuel, .int .i64 c.lane, .int .i64 c.locks, .int .i64 c.log]

set_option maxRecDepth 100000 in
theorem cnum_any (c : Cfg) (g : Loc) (w : World) :
    Calls Tryd.prog 28 #[cfV c g] w fun e w' => e = .returned (nmV c) ∧ Below w.heap.size w w' := by
  unfold cfV cfA nmV
  obtain ⟨w1, hw1⟩ : ∃ W, Hid (((w.alloc (.cells #[.slice g.la c.labels.length g.lc, .slice g.ta c.table.length g.tc, .int .i64 c.fuel, .int .i64 c.lane, .int .i64 c.locks, .int .i64 c.log, .slice g.pa c.procs.length g.pc] 27)).alloc (.cells #[.int .i64 c.fuel, .int .i64 c.lane, .int .i64 c.locks, .int .i64 c.log] 53)) = W) := ⟨_, rfl⟩
  have hb : Below w.heap.size w w1 := by rw [← hw1.out]; exact ((Below.refl _ w).alloc (Nat.le_refl _) _).alloc (by simp) _
  have HB := hd hb
  have hh : w1.heap[w.heap.size + 1]? = some (.cells #[.int .i64 c.fuel, .int .i64 c.lane, .int .i64 c.locks, .int .i64 c.log] 53 (0, 0)) := by
    rw [← hw1.out, show w.heap.size + 1 = (w.alloc (.cells #[.slice g.la c.labels.length g.lc, .slice g.ta c.table.length g.tc, .int .i64 c.fuel, .int .i64 c.lane, .int .i64 c.locks, .int .i64 c.log, .slice g.pa c.procs.length g.pc] 27)).heap.size by simp]
    exact heap_alloc_new _ _
  have d0 := cell_of_row w1 _ 0 _ _ _ hh
  have d1 := cell_of_row w1 _ 1 _ _ _ hh
  have d2 := cell_of_row w1 _ 2 _ _ _ hh
  have d3 := cell_of_row w1 _ 3 _ _ _ hh
  simp at d0 d1 d2 d3
  clear hb hh
  go_enter Tryd.func28, Tryd.ntmps28
  go_wp2_with fail
  rw [hw1.out]
  refine bodyPost_ret (v := .agg #[.int .i64 c.fuel, .int .i64 c.lane, .int .i64 c.locks, .int .i64 c.log]) ?_ rfl ⟨rfl, HB.out⟩
  simp [results, Tryd.results28, go_sem, d0, d1, d2, d3]

set_option maxRecDepth 100000 in
theorem mayRun_any (m : PrM) (P K : Int) (w : World) (hP : 0 ≤ P ∧ P ≤ 8) (hR : Rd w m.a (pCells m.p.code)) (hF : Fld w) :
    Calls Tryd.prog 31 #[.agg #[.int .i64 m.p.part, .slice m.a m.p.code.length m.c], .int .i64 P, .int .i64 K] w fun e w' => e = .returned (.int .i64 (prE P K m.p)) ∧ Below w.heap.size w w' := by
  have hwi := within_any m.p.part 0 (P - 1)
  have eP : IntKind.i64.wrap (P - 1) = P - 1 := by rw [IntKind.wrap_i64]; omega
  have hb := below_al w (.cells #[.int .i64 m.p.part, .slice m.a m.p.code.length m.c] 42)
  have hm := may_any m.a m.c m.p.code K _ (prg_of_rd (hR.below hb)) (hF.kept hb)
  have HB := hd hb
  obtain ⟨E, hE⟩ : ∃ E, Hid (prE P K m.p = E) := ⟨_, rfl⟩
  rw [hE.out]
  by_cases h0 : rngE 0 (P - 1) m.p.part = 0
  · obtain rfl : E = (mayL m.p.code K).1 := by rw [← hE.out, prE, if_neg (by simp [h0])]
    rw [h0] at hwi
    clear hb hE h0
    generalize (mayL m.p.code K).1 = E at *
    generalize (mayL m.p.code K).2 = D at *
    obtain ⟨⟨part, code⟩, ma, mc⟩ := m
    simp only at *
    go_enter Tryd.func31, Tryd.ntmps31
    go_wp2_with (first | (go_at_call 29; refine (hwi _).mono ?_; rintro e w1 ⟨rfl, rfl⟩) | (go_at_call 50; refine hm.mono ?_; rintro e w2 ⟨rfl, hb2⟩))
    go_ret
    exact ⟨rfl, HB.out.trans (hb2.mono HB.out.size)⟩
  · obtain rfl : E = 2 := by rw [← hE.out, prE, if_pos h0]
    have h2 : rngE 0 (P - 1) m.p.part = 2 := by
      unfold rngE at h0 ⊢
      split at h0
      · exact absurd rfl h0
      · next hh => rw [if_neg hh]
    rw [h2] at hwi
    clear hb hE h0 h2 hm
    obtain ⟨⟨part, code⟩, ma, mc⟩ := m
    simp only at *
    go_enter Tryd.func31, Tryd.ntmps31
    go_wp2_with (first | (go_at_call 29; refine (hwi _).mono ?_; rintro e w1 ⟨rfl, rfl⟩))
    go_ret
    exact ⟨rfl, HB.out⟩
end Go.Proofs.YtmjokinagbpihaaDoor
