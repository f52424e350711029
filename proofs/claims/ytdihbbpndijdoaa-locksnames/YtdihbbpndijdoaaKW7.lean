/- Take. -/
import Derived.Test.YtdihbbpndijdoaaKW6
namespace Go.Proofs.Ytdihbbpndijdoaa
open Go.RowKit Go.Maps

set_option maxRecDepth 100000 in
set_option maxHeartbeats 4000000 in
theorem take_any {w : World} {b : Nat} {F : Nat → Prop} {os : List Int} {qs : Qs} (h : Lk w b F os qs) (ht : total qs < 6000000000000) (lock : Int) {p : Int} (hp : Fit64 p) :
    Calls Try.prog 17 #[.pointer (some ⟨b, 0, none⟩), .int .i64 lock, .int .i64 p] w fun e w' => e = .returned (.tuple #[.bool (takeR os qs lock p).1, .int .i64 (takeR os qs lock p).2]) ∧ LkOut w b F (takeO os qs lock p) (takeQ os qs lock p) w' := by
  have HH := hd h
  obtain ⟨hG, m, ao, co, aq, cq, es, hL, hq, hF, -⟩ := h
  have hmay := may_any hL.lb lock p
  have hwt := waits_any hL hp
  by_cases h1 : mayE os.length lock p = 0
  · obtain ⟨i, rfl, hi, hp0⟩ := mayE_zero h1
    rw [h1] at hmay
    by_cases h2 : wt qs p = none
    · have hw0 : wtI qs p = none := by unfold wtI; rw [h2]; rfl
      rw [hw0] at hwt
      simp only [Option.getD_none, Option.isSome_none] at hwt
      have c0 := hL.lb.c0
      obtain ⟨g, rfl, ci⟩ := hL.lb.owner i hi
      have hfr := hL.lb.freeO i
      by_cases h3 : oAt os i = p
      · obtain ⟨e1, e2, e3⟩ := take_has h1 h2 h3
        rw [e1, e2, e3]
        have hn8 := hG.le
        generalize os.length = n at *
        rw [h3] at ci
        clear hL hG hq h1 e1 e2 e3 hF h2 h3 hw0
        go_enter Try.func17, Try.ntmps17
        go_wp2_with (first
          | (go_at_call 27; refine hmay.mono ?_; rintro e3 w3 ⟨rfl, rfl⟩)
          | (go_at_call 28; refine hwt.mono ?_; rintro e4 w4 ⟨rfl, rfl⟩))
        go_ret2
        exact ⟨rfl, LkOut.same HH.out (below_same _)⟩
      · have hne : (oAt os i == p) = false := by simpa using h3
        by_cases h4 : oAt os i = -1
        · obtain ⟨e1, e2, e3⟩ := take_free h1 h2 h4
          rw [e1, e2, e3]
          have hn8 := hG.le
          have HE : Hid (LkOut w b F (os.set i p) qs (w.setCell ⟨g, i, none⟩ (.int .i64 p))) := hd (LkOut.mk' hF ((Mod.refl _ w).setCell (.inl (.inr (.inr (.inl rfl)))) _) (hG.setO ⟨by omega, hp.2⟩) (hL.setO i p) hq (fun k hk => .inl hk))
          generalize os.length = n at *
          have hne2 : ((-1 : Int) == p) = false := by rw [← h4]; exact hne
          rw [h4] at ci
          clear hL hG hq h1 e1 e2 e3 hF h2 h3 hw0 hne h4
          go_enter Try.func17, Try.ntmps17
          go_wp2_with (first
            | (go_at_call 27; refine hmay.mono ?_; rintro e3 w3 ⟨rfl, rfl⟩)
            | (go_at_call 28; refine hwt.mono ?_; rintro e4 w4 ⟨rfl, rfl⟩))
          go_ret2
          exact ⟨rfl, HE.out⟩
        · obtain ⟨e1, e2, e3⟩ := take_queue h1 h2 h3 h4
          have hne2 : (oAt os i == -1) = false := by simpa using h4
          rw [e1, e2, e3]
          have hn := hG.n
          have hel : es.length = os.length := by rw [← hn, ← hq, qsOf_len]
          have hie : i < es.length := by omega
          have c1 := hL.lb.c1
          obtain ⟨gq, rfl, cqi⟩ := hL.lb.queue i hie
          have hqa : qAt qs i = (eAt es i).2.2 := by rw [← hq, qAt_of]
          have hd1 : Below w.heap.size w w.drew := (Below.refl _ w).drew
          have hLd := hL.below hd1
          have hlq : (eAt es i).2.2.length ≤ total qs := by rw [← hqa]; exact total_le i
          obtain ⟨⟨a', c', q'⟩, w5, hap, hq5, hQ5, hM5, hN5⟩ := (hLd.lb.qs i hie).push (by omega) p
          simp only at hq5 hap
          have hq5l : q'.length = (eAt es i).2.2.length + 1 := by rw [hq5]; simp
          obtain ⟨s1, s2⟩ := hLd.setQ hie hM5 hQ5 hN5
          have hbn := hL.lb.qb i hie
          have hgl : gq < w.drew.heap.size := hLd.lb.rq.lt gq rfl
          have z1 : w5.cell? ⟨b, 1, none⟩ = some (.slice (some ⟨gq, 0, none⟩) es.length cq) := by rw [hM5.cell (p := ⟨b, 1, none⟩) hLd.lb.blt (fun e => (hbn b e).1 rfl)]; exact c1
          have z2 : ∃ u, w5.cell? ⟨gq, i, none⟩ = some u := ⟨_, (hM5.cell (p := ⟨gq, i, none⟩) hgl (fun e => (hbn gq e).2.2 rfl)).trans cqi⟩
          have z3 : w5.frozen? ⟨gq, i, none⟩ = false := by rw [hM5.frozen (p := ⟨gq, i, none⟩) hgl (fun e => (hbn gq e).2.2 rfl)]; exact hL.lb.freeQ i
          have y1 : (w.alloc (.cells #[.int .i64 p] 3)).cell? ⟨b, 1, none⟩ = some (.slice (some ⟨gq, 0, none⟩) es.length cq) := ((below_al w _).cell (p := ⟨b, 1, none⟩) hL.lb.blt).trans c1
          have y2 : (w.alloc (.cells #[.int .i64 p] 3)).cell? ⟨gq, i, none⟩ = some (.slice (eAt es i).1 (eAt es i).2.2.length (eAt es i).2.1) := ((below_al w _).cell (p := ⟨gq, i, none⟩) hgl).trans cqi
          obtain ⟨ln, hLN⟩ : ∃ ln, Hid ((eAt es i).2.2.length = ln) := ⟨_, rfl⟩
          simp only [sV, hq5l] at s1 s2
          rw [hLN.out] at hap cqi y2 s1 s2
          rw [hel] at c1 z1 y1
          have hap : Hid (∀ ty, (Builtin.append_ #[33, 33] ty #[.slice (eAt es i).1 ln (eAt es i).2.1, .slice (some ⟨w.heap.size, 0, none⟩) 1 1]).run Try.prog (w.alloc (.cells #[.int .i64 p] 3)).drew = .ok (.slice a' (ln + 1) c') w5) := hd hap
          obtain ⟨w6, hw6⟩ : ∃ W, Hid (w5.setCell ⟨gq, i, none⟩ (.slice a' (ln + 1) c') = W) := ⟨_, rfl⟩
          rw [hw6.out] at s1 s2
          have c2 := s1.lb.c2
          obtain ⟨w7, hst, hM7, hA7⟩ := s1.map.store (p := p) (v := (i : Int)) hp ⟨by omega, by have := hG.le; omega⟩ (by omega)
          have HE : Hid (LkOut w b F os (qs.set i (qAt qs i ++ [p])) w7) := hd (by
            have hqe : qsOf (es.set i (a', c', q')) = qs.set i (qAt qs i ++ [p]) := by rw [qsOf_set, hq, hqa, hq5]
            have hG2 := hG.push (i := i) ⟨hp0, hp.2⟩ (wt_none.1 h2)
            have htt : total (qs.set i (qAt qs i ++ [p])) = total qs + 1 := by
              have := total_set (qs := qs) (i := i) (by omega) (qAt qs i ++ [p])
              simp at this
              omega
            have hL7 := s1.turn hM7 hA7
            rw [hw0] at hL7
            simp only [Option.isSome_none, Bool.false_eq_true, if_false] at hL7
            refine LkOut.mk' hF (((Mod.of_below _ hd1).trans s2 (fun _ h => .inl h)).trans hM7 (fun k hk => .inl (.inl hk))) hG2 (es' := es.set i (a', c', q')) (w' := w7) (co' := co) (cq' := cq) ?_ hqe (mfp_set hie hN5)
            rw [htt]
            exact ⟨hL7.lb, hL7.map.congr (fun x => by rw [wtI_push hG (by omega) ⟨hp0, hp.2⟩ (wt_none.1 h2)]), hL7.ap⟩)
          have hn8 := hG.le
          have hln8 : ln < 6000000000000 := by rw [← hLN.out]; omega
          obtain ⟨u5, z2⟩ := z2
          obtain ⟨n, hNN⟩ : ∃ n, Hid (os.length = n) := ⟨_, rfl⟩
          rw [hNN.out] at c0 hi c1 z1 y1 hn8
          obtain ⟨ov, hOV⟩ : ∃ ov, Hid (oAt os i = ov) := ⟨_, rfl⟩
          rw [hOV.out] at ci hne hne2
          clear hL hG hq h1 e1 e2 e3 hF h2 h3 hw0 h4 s1 s2 hM5 hN5 hQ5 hA7 hM7 hLd hqa hlq hel hn hbn hq5 hq5l hie
          go_enter Try.func17, Try.ntmps17
          go_upto_region 13 with (first
            | (go_at_call 27; refine hmay.mono ?_; rintro e3 w3 ⟨rfl, rfl⟩)
            | (go_at_call 28; refine hwt.mono ?_; rintro e4 w4 ⟨rfl, rfl⟩))
          go_region_law ((refine step_append_run (by rfl) _ _ _ (by rfl) _ _ _ _ (by rfl) (by rfl) hap.out ?_))
          all_goals rw [hw6.out]
          all_goals go_wp2_with fail
          all_goals go_ret2
          all_goals exact ⟨rfl, HE.out⟩
    · have hws : ∃ k, wtI qs p = some k := by
        unfold wtI
        cases hw : wt qs p with
        | none => exact absurd hw h2
        | some k => exact ⟨_, rfl⟩
      obtain ⟨k, hk⟩ := hws
      rw [hk] at hwt
      simp only [Option.getD_some, Option.isSome_some] at hwt
      obtain ⟨e1, e2, e3⟩ := take_waits h1 h2
      rw [e1, e2, e3]
      clear hL hG hq hF h1 e1 e2 e3 h2 hk
      go_enter Try.func17, Try.ntmps17
      go_wp2_with (first
        | (go_at_call 27; refine hmay.mono ?_; rintro e3 w3 ⟨rfl, rfl⟩)
        | (go_at_call 28; refine hwt.mono ?_; rintro e4 w4 ⟨rfl, rfl⟩))
      go_ret2
      exact ⟨rfl, LkOut.same HH.out (below_same _)⟩
  · obtain ⟨e1, e2, e3⟩ := take_bad (qs := qs) h1
    rw [e1, e2, e3]
    have hne : (mayE os.length lock p == 0) = false := by simpa using h1
    generalize mayE os.length lock p = E at *
    clear hL hG hq hF h1 e1 e2 e3 hwt
    go_enter Try.func17, Try.ntmps17
    go_wp2_with (first
      | (go_at_call 27; refine hmay.mono ?_; rintro e3 w3 ⟨rfl, rfl⟩))
    go_ret2
    exact ⟨rfl, LkOut.same HH.out (below_same w3)⟩
end Go.Proofs.Ytdihbbpndijdoaa
