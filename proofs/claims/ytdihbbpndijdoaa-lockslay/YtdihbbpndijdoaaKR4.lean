/- The document's side: Take. -/
import Derived.Test.YtdihbbpndijdoaaKR3
namespace Go.Proofs.Ytdihbbpndijdoaa
open Go.RowKit Go.Maps

/-- What two appends make of who waits and one more; the empty list lies at gE. -/
def TwoTo (w : World) (n : Nat) (q : List Int) (p : Int) (a : Option Addr) (c : Nat) (w' : World) : Prop := Row w' 3 1 a (n + 1) c (iC (q ++ [p])) ∧ Below w.heap.size w w' ∧ ∀ k, blk a = some k → w.heap.size ≤ k

theorem two_late {w W : World} {a : Option Addr} {n c gE : Nat} {q : List Int} (hb : Below w.heap.size w W) (hge : w.heap.size ≤ gE) (hE : W.heap[gE]? = some (.cells #[] 3 (0, 0))) (hR : Rd W a (iC q)) (hl : q.length = n) (hn : n < 8796093022208) (p : Int) :
    ∃ a1 c1 w1, (∀ ty, (Builtin.append_ #[33, 33] ty #[.slice (some ⟨gE, 0, none⟩) 0 0, .slice a n c]).run Try.prog W = .ok (.slice a1 n c1) w1) ∧ Below w.heap.size w w1 ∧ ∃ a2 c2 w2, (∀ ty, (Builtin.append_ #[33, 33] ty #[.slice a1 n c1, .slice (some ⟨w1.heap.size, 0, none⟩) 1 1]).run Try.prog (w1.alloc (.cells #[.int .i64 p] 3)) = .ok (.slice a2 (n + 1) c2) w2) ∧ TwoTo w n q p a2 c2 w2 := by
  obtain ⟨a1, c1, w1, m1, m2, m3, m4⟩ := clone_at (c := c) hE hR hl (by omega)
  have b1 : Below w.heap.size w w1 := hb.trans (m3.below hb.size (fun k _ e => by rw [e]; exact hge))
  have n1 : ∀ k, blk a1 = some k → w.heap.size ≤ k := fun k hk => by
    rcases m4 k hk with h | h
    · rw [h]; exact hge
    · exact Nat.le_trans hb.size h
  have hO : OwnI w q w1 a1 n c1 := ⟨hl, m2, b1, n1⟩
  obtain ⟨a2, c2, w2, p1, p2, p3, p4, p5⟩ := hO.push hn p
  exact ⟨a1, c1, w1, m1, b1, a2, c2, w2, p1, p3, p4, p5⟩
theorem two_early {w W : World} {a : Option Addr} {n c gE gP : Nat} {q : List Int} (hb : Below w.heap.size w W) (hge : w.heap.size ≤ gE) (hE : W.heap[gE]? = some (.cells #[] 3 (0, 0))) (hne : gP ≠ gE) {p : Int} (hP : W.cell? ⟨gP, 0, none⟩ = some (.int .i64 p)) (hR : Rd W a (iC q)) (hl : q.length = n) (hn : n < 8796093022208) :
    ∃ a1 c1 w1, (∀ ty, (Builtin.append_ #[33, 33] ty #[.slice (some ⟨gE, 0, none⟩) 0 0, .slice a n c]).run Try.prog W = .ok (.slice a1 n c1) w1) ∧ Below w.heap.size w w1 ∧ ∃ a2 c2 w2, (∀ ty, (Builtin.append_ #[33, 33] ty #[.slice a1 n c1, .slice (some ⟨gP, 0, none⟩) 1 1]).run Try.prog w1 = .ok (.slice a2 (n + 1) c2) w2) ∧ TwoTo w n q p a2 c2 w2 := by
  obtain ⟨a1, c1, w1, m1, m2, m3, m4⟩ := clone_at (c := c) hE hR hl (by omega)
  have b1 : Below w.heap.size w w1 := hb.trans (m3.below hb.size (fun k _ e => by rw [e]; exact hge))
  have n1 : ∀ k, blk a1 = some k → w.heap.size ≤ k := fun k hk => by
    rcases m4 k hk with h | h
    · rw [h]; exact hge
    · exact Nat.le_trans hb.size h
  obtain ⟨a2, c2, w2, p1, p2, p3, p4⟩ := push_at m2 hn (g := gP) (p := p) ((m3.cell (p := ⟨gP, 0, none⟩) (World.block_lt_of_cell? W _ hP) hne).trans hP)
  refine ⟨a1, c1, w1, m1, b1, a2, c2, w2, p1, p2, b1.trans (p3.below b1.size (fun k _ hk => n1 k hk)), fun k hk => ?_⟩
  rcases p4 k hk with h | h
  · exact n1 k h
  · exact Nat.le_trans b1.size h
theorem set_idle {os : List Int} {i : Nat} : os.set i (oAt os i) = os := by
  apply List.ext_getElem?
  intro j
  rw [List.getElem?_set]
  split
  · rename_i e
    subst e
    split
    · rename_i hl
      unfold oAt
      rw [List.getD_eq_getElem?_getD, List.getElem?_eq_getElem hl]
      rfl
    · rename_i hl
      rw [List.getElem?_eq_none (by omega)]
  · rfl

theorem step_append_eq {P : Program} {w wz : World} {ops : Array Oper} {o : Oper} {a : Act} {K : Act → World → Prop} {Q : Exit → Act → World → Prop} {E : Prop} {t : TypeId} {v vx v' : Value} {w' : World} (hrun : ∀ ty, (Builtin.append_ #[t, t] ty #[v, vx]).run P wz = .ok v' w') (hw : w = wz) (hgd : o.guard = none) (s x : Operand)
    (ho : o.op = .call { callee := .builtin .append, args := #[s, x], argTypes := #[t, t] }) (hs : a.eval s = v) (hx : a.eval x = vx)
    (h : K (a.put o.dst v') w') : if Region.wanted o (yielded ops a.tmps) = true then Oper.wp P o a w K Q else E := by
  subst hw
  exact step_append_run hgd s x t ho v vx v' w' hs hx hrun h
set_option maxRecDepth 100000 in
set_option maxHeartbeats 16000000 in
theorem rtake_any {w : World} {b : Nat} {F : Nat → Prop} {os : List Int} {qs : Qs} (h : Rk w b F os qs) (ht : total qs < 6000000000000) (lock p : Int) :
    Calls Try.prog 32 #[.pointer (some ⟨b, 0, none⟩), .int .i64 lock, .int .i64 p] w fun e w' => e = .returned (.tuple #[.bool (takeR os qs lock p).1, .int .i64 (takeR os qs lock p).2]) ∧ RkOut w b F (takeO os qs lock p) (takeQ os qs lock p) w' := by
  have HH := hd h
  have hwt := rwaits_any h (by omega) p
  obtain ⟨hl, h8, ao, co, aq, cq, es, hL, hq, hF, -⟩ := h
  have hmay := rmay_any hL lock p
  by_cases h1 : mayE os.length lock p = 0
  · obtain ⟨i, rfl, hi, hp0⟩ := mayE_zero h1
    rw [h1] at hmay
    by_cases h2 : wt qs p = none
    · have hw0 : wtI qs p = none := by unfold wtI; rw [h2]; rfl
      rw [hw0] at hwt
      simp only [Option.getD_none, Option.isSome_none] at hwt
      have c0 := hL.c0
      obtain ⟨g, rfl, ci⟩ := hL.owner i hi
      have hfr := hL.freeO i
      by_cases h3 : oAt os i = p ∨ oAt os i = -1
      · have HE : Hid (takeR os qs i p = (true, 0) ∧ RkOut w b F (takeO os qs i p) (takeQ os qs i p) (w.setCell ⟨g, i, none⟩ (.int .i64 p))) := hd (by
          have hs := hL.setO i p
          have hm : Mod (lfp b (some ⟨g, 0, none⟩) aq es) w (w.setCell ⟨g, i, none⟩ (.int .i64 p)) := (Mod.refl _ w).setCell (.inl (.inr (.inl rfl))) _
          by_cases h4 : oAt os i = -1
          · obtain ⟨e1, e2, e3⟩ := take_free h1 h2 h4
            rw [e1, e2, e3]
            exact ⟨rfl, RkOut.mk' hF hm (by rw [List.length_set]; exact hl) (by rw [List.length_set]; exact h8) hs hq (fun k hk => .inl hk)⟩
          · have h5 : oAt os i = p := by
              rcases h3 with h | h
              · exact h
              · exact absurd h h4
            obtain ⟨e1, e2, e3⟩ := take_has h1 h2 h5
            rw [e1, e2, e3]
            rw [show os.set i p = os by rw [← h5]; exact set_idle] at hs
            exact ⟨rfl, RkOut.mk' hF hm hl h8 hs hq (fun k hk => .inl hk)⟩)
        rw [HE.out.1]
        generalize os.length = n at *
        generalize oAt os i = v at *
        clear hL hl hq h1 hF h2 hw0
        by_cases h4 : v = -1
        · subst h4
          clear h3
          go_enter Try.func32, Try.ntmps32
          go_wp2_with (first
            | (go_at_call 41; refine hmay.mono ?_; rintro e3 w3 ⟨rfl, rfl⟩)
            | (go_at_call 36; refine hwt.mono ?_; rintro e4 w4 ⟨rfl, rfl⟩))
          go_ret2
          exact ⟨rfl, HE.out.2⟩
        · have h5 : v = p := by
            rcases h3 with h | h
            · exact h
            · exact absurd h h4
          have h4' : (v == -1) = false := by simpa using h4
          subst h5
          clear h3 h4
          go_enter Try.func32, Try.ntmps32
          go_wp2_with (first
            | (go_at_call 41; refine hmay.mono ?_; rintro e3 w3 ⟨rfl, rfl⟩)
            | (go_at_call 36; refine hwt.mono ?_; rintro e4 w4 ⟨rfl, rfl⟩))
          go_ret2
          exact ⟨rfl, HE.out.2⟩
      · have h3a : oAt os i ≠ p := fun e => h3 (.inl e)
        have h3b : oAt os i ≠ -1 := fun e => h3 (.inr e)
        obtain ⟨e1, e2, e3⟩ := take_queue h1 h2 h3a h3b
        have hne : (oAt os i == p) = false := by simpa using h3a
        have hne2 : (oAt os i == -1) = false := by simpa using h3b
        rw [e1, e2, e3]
        have hel : es.length = os.length := by rw [← hl, ← hq, qsOf_len]
        have hie : i < es.length := by omega
        have c1 := hL.c1
        obtain ⟨gq, rfl, cqi⟩ := hL.queue i hie
        have hqa : qAt qs i = (eAt es i).2.2 := by rw [← hq, qAt_of]
        have hlq : (eAt es i).2.2.length ≤ total qs := by rw [← hqa]; exact total_le i
        obtain ⟨ln, hLN⟩ : ∃ ln, Hid ((eAt es i).2.2.length = ln) := ⟨_, rfl⟩
        rw [hLN.out] at hlq cqi
        rw [hel] at c1
        obtain ⟨n, hNN⟩ : ∃ n, Hid (os.length = n) := ⟨_, rfl⟩
        rw [hNN.out] at c1 c0 hi h8
        have hrd : ∀ W, Below w.heap.size w W → Rd W (eAt es i).1 (iC (eAt es i).2.2) := fun W hb => ((hL.qs i hie).below hb).rd
        have bE := below_al w (.cells #[] 3)
        have bP := below_al w (.cells #[.int .i64 p] 3)
        have bEP := bE.trans ((below_al (w.alloc (.cells #[] 3)) (.cells #[.int .i64 p] 3)).mono bE.size)
        have bPE := bP.trans ((below_al (w.alloc (.cells #[.int .i64 p] 3)) (.cells #[] 3)).mono bP.size)
        have hE1 := heap_alloc_new w (.cells #[] 3)
        have hE2 : ((w.alloc (.cells #[] 3)).alloc (.cells #[.int .i64 p] 3)).heap[w.heap.size]? = some (.cells #[] 3 (0, 0)) := by
          rw [(below_al (w.alloc (.cells #[] 3)) (.cells #[.int .i64 p] 3)).block w.heap.size (by simp)]; exact hE1
        have sP : (w.alloc (.cells #[.int .i64 p] 3)).heap.size = w.heap.size + 1 := by simp
        have sE : (w.alloc (.cells #[] 3)).heap.size = w.heap.size + 1 := by simp
        have hE3 : ((w.alloc (.cells #[.int .i64 p] 3)).alloc (.cells #[] 3)).heap[w.heap.size + 1]? = some (.cells #[] 3 (0, 0)) := by
          have := heap_alloc_new (w.alloc (.cells #[.int .i64 p] 3)) (.cells #[] 3)
          rwa [sP] at this
        have hP2 : ((w.alloc (.cells #[] 3)).alloc (.cells #[.int .i64 p] 3)).cell? ⟨w.heap.size + 1, 0, none⟩ = some (.int .i64 p) := by
          have := heap_alloc_new (w.alloc (.cells #[] 3)) (.cells #[.int .i64 p] 3)
          rw [sE] at this
          rw [cell_of_row _ _ _ _ _ _ this]; simp
        have hP3 : ((w.alloc (.cells #[.int .i64 p] 3)).alloc (.cells #[] 3)).cell? ⟨w.heap.size, 0, none⟩ = some (.int .i64 p) := by
          rw [(below_al (w.alloc (.cells #[.int .i64 p] 3)) (.cells #[] 3)).cell (p := ⟨w.heap.size, 0, none⟩) (by simp)]; simp
        obtain ⟨a1, k1, w1, A1, B1, a2, k2, w2, A2, T1⟩ := two_late (W := (w.alloc (.cells #[] 3)).drew) (c := (eAt es i).2.1) bE.drew (Nat.le_refl _) hE1 (hrd _ bE.drew) hLN.out (by omega) p
        obtain ⟨a3, k3, w3', A3, B3, a4, k4, w4', A4, T2⟩ := two_early (W := ((w.alloc (.cells #[] 3)).alloc (.cells #[.int .i64 p] 3)).drew) (gP := w.heap.size + 1) (c := (eAt es i).2.1) bEP.drew (Nat.le_refl _) hE2 (by omega) hP2 (hrd _ bEP.drew) hLN.out (by omega)
        obtain ⟨a5, k5, w5', A5, B5, a6, k6, w6', A6, T3⟩ := two_early (W := ((w.alloc (.cells #[.int .i64 p] 3)).alloc (.cells #[] 3)).drew) (gE := w.heap.size + 1) (gP := w.heap.size) (c := (eAt es i).2.1) bPE.drew (by omega) hE3 (by omega) hP3 (hrd _ bPE.drew) hLN.out (by omega)
        have HFIN : Hid (∀ a c W, TwoTo w ln (eAt es i).2.2 p a c W → (∃ u, W.cell? ⟨gq, i, none⟩ = some u) ∧ W.frozen? ⟨gq, i, none⟩ = false ∧ W.cell? ⟨b, 1, none⟩ = some (.slice (some ⟨gq, 0, none⟩) n cq) ∧ RkOut w b F os (qs.set i (qAt qs i ++ [p])) (W.setCell ⟨gq, i, none⟩ (.slice a (ln + 1) c))) := hd (fun a c W hT => by
          obtain ⟨t1, t2, t3⟩ := hT
          have hgl : gq < w.heap.size := hL.rq.lt gq rfl
          have hqw : Qw W (a, c, (eAt es i).2.2 ++ [p]) := by
            unfold Qw
            simp only [List.length_append, List.length_singleton, hLN.out]
            exact t1.ro
          obtain ⟨s1, s2, s3⟩ := hL.newQ hie t2 hqw t3
          unfold sV at s1 s2
          simp only [List.length_append, List.length_singleton, hLN.out] at s1 s2
          refine ⟨⟨_, (t2.cell (p := ⟨gq, i, none⟩) hgl).trans cqi⟩, ?_, (t2.cell (p := ⟨b, 1, none⟩) hL.blt).trans c1, RkOut.mk' hF s2 (by rw [List.length_set]; exact hl) (by rw [hNN.out]; exact h8) s1 (by rw [qsOf_set, hq, hqa]) s3⟩
          rw [World.frozen?_of_block (w := w) (t2.block gq hgl)]
          exact hL.freeQ i)
        have HCC : Hid (∀ W, Below w.heap.size w W → W.cell? ⟨b, 1, none⟩ = some (.slice (some ⟨gq, 0, none⟩) n cq) ∧ W.cell? ⟨gq, i, none⟩ = some (.slice (eAt es i).1 ln (eAt es i).2.1)) := hd (fun W hb => ⟨(hb.cell (p := ⟨b, 1, none⟩) hL.blt).trans c1, (hb.cell (p := ⟨gq, i, none⟩) (hL.rq.lt gq rfl)).trans cqi⟩)
        obtain ⟨⟨u2, f2⟩, f3, f4, E1⟩ := HFIN.out _ _ _ T1
        obtain ⟨⟨u4, f5⟩, f6, f7, E2⟩ := HFIN.out _ _ _ T2
        obtain ⟨⟨u6, f8⟩, f9, f10, E3⟩ := HFIN.out _ _ _ T3
        obtain ⟨x1, x2⟩ := HCC.out _ bE
        obtain ⟨x3, x4⟩ := HCC.out _ bP
        obtain ⟨x5, x6⟩ := HCC.out _ bEP
        obtain ⟨x7, x8⟩ := HCC.out _ bPE
        obtain ⟨x9, x10⟩ := HCC.out _ B1
        obtain ⟨x11, x12⟩ := HCC.out _ B3
        obtain ⟨x13, x14⟩ := HCC.out _ B5
        obtain ⟨x15, x16⟩ := HCC.out _ (B1.trans ((below_al w1 (.cells #[.int .i64 p] 3)).mono B1.size))
        replace A1 := hd A1
        replace A2 := hd A2
        replace A3 := hd A3
        replace A4 := hd A4
        replace A5 := hd A5
        replace A6 := hd A6
        replace E1 := hd E1
        replace E2 := hd E2
        replace E3 := hd E3
        obtain ⟨ov, hOV⟩ : ∃ ov, Hid (oAt os i = ov) := ⟨_, rfl⟩
        rw [hOV.out] at ci hne hne2
        clear hL hl hq h1 e1 e2 e3 hF h2 hw0 h3 h3a h3b hel hie hqa hrd bE bP bEP bPE hE1 hE2 hE3 hP2 hP3 T1 T2 T3 B1 B3 B5 HFIN HCC sP sE
        go_enter Try.func32, Try.ntmps32
        go_upto_region 10 with (first
          | (go_at_call 41; refine hmay.mono ?_; rintro e3 w3 ⟨rfl, rfl⟩)
          | (go_at_call 36; refine hwt.mono ?_; rintro e4 w4 ⟨rfl, rfl⟩))
        go_cut [51, 52, 53, 54, 55, 56, 57, 58, 59, 60, 61, 62, 63, 64, 65, 66, 67, 68] (fun v51 v52 v53 v54 v55 v56 v57 v58 v59 v60 v61 v62 v63 v64 v65 v66 v67 v68 wy => Hid (RkOut w4 b F os (qs.set i (qAt qs i ++ [p])) wy))
        case first =>
          clear hmay hwt ci HH
          go_region_law
            (first
              | (refine step_append_eq A1.out (by with_reducible rfl) (by rfl) _ _ (by rfl) (by rfl) (by rfl) ?_)
              | (refine step_append_eq A2.out (by with_reducible rfl) (by rfl) _ _ (by rfl) (by rfl) (by rfl) ?_)
              | (refine step_append_eq A3.out (by with_reducible rfl) (by rfl) _ _ (by rfl) (by rfl) (by rfl) ?_)
              | (refine step_append_eq A4.out (by with_reducible rfl) (by rfl) _ _ (by rfl) (by rfl) (by rfl) ?_)
              | (refine step_append_eq A5.out (by with_reducible rfl) (by rfl) _ _ (by rfl) (by rfl) (by rfl) ?_)
              | (refine step_append_eq A6.out (by with_reducible rfl) (by rfl) _ _ (by rfl) (by rfl) (by rfl) ?_))
          all_goals go_wp2_with fail
          all_goals go_meet
          all_goals first | exact E1 | exact E2 | exact E3
        case rest =>
          go_wp2_with fail
          go_ret2
          exact ⟨rfl, hcut.out⟩
    · have hws : ∃ k, wtI qs p = some k := by
        unfold wtI
        cases hw : wt qs p with
        | none => exact absurd hw h2
        | some k => exact ⟨_, rfl⟩
      obtain ⟨k, hk⟩ := hws
      rw [hk] at hwt
      simp only [Option.getD_some, Option.isSome_some] at hwt
      obtain ⟨e1, e2, e3⟩ := take_waits h1 h2
      rw [e1, e2, e3]
      clear hL hl hq hF h1 e1 e2 e3 h2 hk
      go_enter Try.func32, Try.ntmps32
      go_wp2_with (first
        | (go_at_call 41; refine hmay.mono ?_; rintro e3 w3 ⟨rfl, rfl⟩)
        | (go_at_call 36; refine hwt.mono ?_; rintro e4 w4 ⟨rfl, rfl⟩))
      go_ret2
      exact ⟨rfl, RkOut.same HH.out (below_same _)⟩
  · obtain ⟨e1, e2, e3⟩ := take_bad (qs := qs) h1
    rw [e1, e2, e3]
    have hne : (mayE os.length lock p == 0) = false := by simpa using h1
    generalize mayE os.length lock p = E at *
    clear hL hl hq hF h1 e1 e2 e3 hwt
    go_enter Try.func32, Try.ntmps32
    go_wp2_with (first
      | (go_at_call 41; refine hmay.mono ?_; rintro e3 w3 ⟨rfl, rfl⟩))
    go_ret2
    exact ⟨rfl, RkOut.same HH.out (below_same w3)⟩
end Go.Proofs.Ytdihbbpndijdoaa
