/- The document's side: hand, Give. -/
import Derived.Test.YtdihbbpndijdoaaKR1
namespace Go.Proofs.Ytdihbbpndijdoaa
open Go.RowKit Go.Maps

/-- append([]int{}, l...): a list in new memory; the empty one lies at the block g. -/
theorem clone_at {W : World} {g : Nat} (hg : W.heap[g]? = some (.cells #[] 3 (0, 0))) {a : Option Addr} {n c : Nat} {q : List Int} (hR : Rd W a (iC q)) (hl : q.length = n) (hn : n ≤ 8796093022208) :
    ∃ a' c' w', (∀ ty, (Builtin.append_ #[33, 33] ty #[.slice (some ⟨g, 0, none⟩) 0 0, .slice a n c]).run Try.prog W = .ok (.slice a' n c') w') ∧ Row w' 3 1 a' n c' (iC q) ∧ Mod (fun k => k = g) W w' ∧ ∀ k, blk a' = some k → k = g ∨ W.heap.size ≤ k := by
  obtain ⟨i, k1, k2, k3, k4⟩ := info_parts infoN
  have hrow : Row W 3 1 (some ⟨g, 0, none⟩) 0 0 [] := row_new (size := 1) (n := 0) hg rfl (by unfold maxLen; omega)
  obtain ⟨a', c', w', m1, m2, m3, m4, _⟩ := run_append_row (P := Try.prog) W 33 3 i _ 1 8 Try.underlying33 k1 k2 k3 k4 rfl hrow (.slice a n c) n (iC q) (hR.src Try.underlying33 (by rw [iC_len, hl]) (by omega) (iC_one _)) (by unfold maxLen; omega) (by omega)
  simp only [Nat.zero_add, List.nil_append] at m1 m2
  refine ⟨a', c', w', m1, m2, m3.mono (fun k _ hk => (Option.some.inj hk).symm), fun k hk => ?_⟩
  rcases m4 k hk with h | h
  · exact .inl (Option.some.inj h).symm
  · exact .inr h

section
variable {w w' : World} {T : TypeId} {X : List Value} {b : Nat} {ao : Option Addr} {co : Nat} {aq : Option Addr} {cq : Nat} {os : List Int} {es : List Qe}
/-- Another list of who waits, in new memory. -/
theorem LB.newQ {g : Nat} (h : LB w T X b ao co (some ⟨g, 0, none⟩) cq os es) {i : Nat} (hi : i < es.length) {w2 : World} (hb : Below w.heap.size w w2) {e' : Qe} (hq : Qw w2 e') (hn : ∀ k, blk e'.1 = some k → w.heap.size ≤ k) :
    LB (w2.setCell ⟨g, i, none⟩ (sV e')) T X b ao co (some ⟨g, 0, none⟩) cq os (es.set i e') ∧ Mod (lfp b ao (some ⟨g, 0, none⟩) es) w (w2.setCell ⟨g, i, none⟩ (sV e')) ∧ ∀ k, lfp b ao (some ⟨g, 0, none⟩) (es.set i e') k → lfp b ao (some ⟨g, 0, none⟩) es k ∨ w.heap.size ≤ k :=
  ⟨h.setQ hi (Mod.of_below _ hb) hq (fun k hk => .inr (hn k hk)), (Mod.of_below _ hb).setCell (.inl (.inr (.inr (.inl rfl)))) _, lfp_set hi (fun k hk => .inr (hn k hk))⟩
end

theorem handQ_same {qs : Qs} {i : Nat} (h : qAt qs i = []) : handQ qs i = qs := by
  unfold handQ
  rw [h]
  apply List.ext_getElem?
  intro j
  rw [List.getElem?_set]
  split
  · rename_i e
    subst e
    by_cases hl : i < qs.length
    · rw [if_pos hl]
      unfold qAt at h
      rw [List.getD_eq_getElem?_getD, List.getElem?_eq_getElem hl] at h
      rw [List.getElem?_eq_getElem hl]
      simp at h
      rw [h]
      rfl
    · rw [if_neg hl, List.getElem?_eq_none (by omega)]
  · rfl

/-- What hand leaves of the document's locks. -/
def HT (w : World) (b : Nat) (ao : Option Addr) (co : Nat) (aq : Option Addr) (cq : Nat) (es : List Qe) (os' : List Int) (qs' : Qs) (w' : World) : Prop :=
  ∃ es', LB w' 54 [] b ao co aq cq os' es' ∧ qsOf es' = qs' ∧ Mod (lfp b ao aq es) w w' ∧ ∀ k, lfp b ao aq es' k → lfp b ao aq es k ∨ w.heap.size ≤ k

set_option maxRecDepth 100000 in
set_option maxHeartbeats 4000000 in
theorem rhand_any {w : World} {b : Nat} {ao : Option Addr} {co : Nat} {aq : Option Addr} {cq : Nat} {os : List Int} {es : List Qe} {qs : Qs} (h : LB w 54 [] b ao co aq cq os es) (hq : qsOf es = qs) (hl : qs.length = os.length) {i : Nat} (hi : i < os.length) (ht : total qs ≤ 8796093022208) :
    Calls Try.prog 42 #[.pointer (some ⟨b, 0, none⟩), .int .i64 (i : Int)] w fun e w' => e = .returned (.tuple #[]) ∧ HT w b ao co aq cq es (handO os qs i) (handQ qs i) w' := by
  have hel : es.length = os.length := by rw [← hl, ← hq, qsOf_len]
  have hie : i < es.length := by omega
  have c0 := h.c0
  obtain ⟨go, rfl, co1⟩ := h.owner i hi
  have hfr := h.freeO i
  have h1 := h.setO i (-1)
  have hm1 : Mod (lfp b (some ⟨go, 0, none⟩) aq es) w (w.setCell ⟨go, i, none⟩ (.int .i64 (-1))) := (Mod.refl _ w).setCell (.inl (.inr (.inl rfl))) _
  obtain ⟨w1, hw1⟩ : ∃ W, Hid (w.setCell ⟨go, i, none⟩ (.int .i64 (-1)) = W) := ⟨_, rfl⟩
  rw [hw1.out] at h1 hm1
  have hls : (os.set i (-1)).length = os.length := List.length_set
  have d0 := h1.c0
  have d1 := h1.c1
  obtain ⟨go', ego, do1⟩ := h1.owner i (by rw [hls]; exact hi)
  cases ego
  obtain ⟨g, rfl, dq1⟩ := h1.queue i hie
  have hqa : qAt qs i = (eAt es i).2.2 := by rw [← hq, qAt_of]
  have dfr := h1.freeO i
  have hln : (eAt es i).2.2.length ≤ 8796093022208 := by rw [← hqa]; exact Nat.le_trans (total_le i) ht
  have hqw := h1.qs i hie
  rw [hls] at d0
  obtain ⟨n, hN⟩ : ∃ n, Hid (os.length = n) := ⟨_, rfl⟩
  rw [hN.out] at c0 d0 hi
  have HEN : Hid (es.length = n) := hd (by rw [hel, hN.out])
  rw [HEN.out] at d1
  have HQ := hd hq
  have HQA := hd hqa
  have HM1 := hd hm1
  have H1 := hd h1
  have HSZ : Hid (w1.heap.size = w.heap.size) := hd (by rw [← hw1.out]; simp [World.setCell])
  clear h hq hl hel hqa hm1 h1 hls
  cases hqc : (eAt es i).2.2 with
  | nil =>
    have HE : Hid (HT w b (some ⟨go, 0, none⟩) co (some ⟨g, 0, none⟩) cq es (handO os qs i) (handQ qs i) w1) := hd (by
      have e0 : qAt qs i = [] := by rw [HQA.out, hqc]
      have e2 : handO os qs i = os.set i (-1) := by unfold handO; rw [e0]; rfl
      rw [handQ_same e0, e2]
      exact ⟨es, H1.out, HQ.out, HM1.out, fun k hk => .inl hk⟩)
    rw [hqc] at dq1
    simp only [List.length_nil] at dq1
    clear HQ HQA HEN HM1 H1 hqw hln hqc hie hN HSZ
    go_enter Try.func42, Try.ntmps42
    go_upto_region 1 with fail
    rw [hw1.out]
    go_wp2_with fail
    go_end0
    exact ⟨rfl, HE.out⟩
  | cons x r =>
    have hqw' : Ro w1 3 (eAt es i).1 (x :: r).length (eAt es i).2.1 (iC (x :: r)) := by rw [← hqc]; exact hqw
    obtain ⟨gx, ox, hax, cx⟩ := hqw'.rd.int 0 (by simp)
    simp only [List.getD_cons_zero, Nat.add_zero] at cx
    rw [hqc] at dq1 hln
    have hcap := hqw'.capLe
    rw [hax] at hqw' dq1
    obtain ⟨C, hC⟩ : ∃ C, Hid ((eAt es i).2.1 = C) := ⟨_, rfl⟩
    rw [hC.out] at hcap hqw' dq1
    obtain ⟨lr, hLR⟩ : ∃ lr, Hid ((x :: r).length = lr) := ⟨_, rfl⟩
    have hlr1 : 0 < lr := by rw [← hLR.out]; simp
    have hlr2 : r.length = lr - 1 := by rw [← hLR.out]; simp
    rw [hLR.out] at dq1 hln hcap hqw'
    -- the second owner
    have h2 := (H1.out.below ((Below.refl _ w1).drew)).setO i x
    have hset : (os.set i (-1)).set i x = os.set i x := by rw [List.set_set]
    rw [hset] at h2
    have h2 : LB (w1.setCell ⟨go, i, none⟩ (.int .i64 x)).drew 54 [] b (some ⟨go, 0, none⟩) co (some ⟨g, 0, none⟩) cq (os.set i x) es := h2
    obtain ⟨w2, hw2⟩ : ∃ W, Hid ((w1.setCell ⟨go, i, none⟩ (.int .i64 x)).drew = W) := ⟨_, rfl⟩
    rw [hw2.out] at h2
    have hm2 : Mod (lfp b (some ⟨go, 0, none⟩) (some ⟨g, 0, none⟩) es) w w2 := by
      rw [← hw2.out]
      exact (HM1.out.setCell (p := ⟨go, i, none⟩) (.inl (.inr (.inl rfl))) (.int .i64 x)).after ((Below.refl _ _).drew)
    have f1 := h2.c1
    rw [HEN.out] at f1
    obtain ⟨g', eg, fq⟩ := h2.queue i hie
    cases eg
    rw [hqc, hax, hC.out, hLR.out] at fq
    have hq2 := h2.qs i hie
    have hq2' : Ro w2 3 (some ⟨gx, ox, none⟩) lr C (iC (x :: r)) := by rw [← hax, ← hC.out, ← hLR.out, ← hqc]; exact hq2
    obtain ⟨A, hA⟩ : ∃ A, Hid ((if C = 1 then some ({ block := gx, off := ox } : Addr) else some { block := gx, off := ox + 1 }) = A) := ⟨_, rfl⟩
    have hrd : Rd w2 A (iC r) := by
      by_cases e : lr = 1
      · have : r = [] := List.eq_nil_of_length_eq_zero (by omega)
        subst this
        intro j u hj
        simp [iC] at hj
      · rw [← hA.out, if_neg (by omega)]
        have := (hq2'.behind 1 hlr1).rd
        rw [iC_drop] at this
        exact this
    have bE := below_al w2.drew (.cells #[] 3)
    have hd2 : Below w2.heap.size w2 w2.drew := (Below.refl _ w2).drew
    obtain ⟨a', c', w3, hap, hR3, hM3, hN3⟩ := clone_at (W := w2.drew.alloc (.cells #[] 3)) (g := w2.heap.size) (c := C - 1) (heap_alloc_new w2.drew _) ((hrd.below hd2).below bE) hlr2 (by omega)
    have hap : Hid (∀ ty, (Builtin.append_ #[33, 33] ty #[.slice (some ⟨w2.heap.size, 0, none⟩) 0 0, .slice A (lr - 1) (C - 1)]).run Try.prog (w2.alloc (.cells #[] 3)).drew = .ok (.slice a' (lr - 1) c') w3) := hd hap
    have hB3 : Below w2.heap.size w2 w3 := (hd2.trans bE).trans (hM3.below (by have := bE.size; exact this) (fun k _ e => by rw [e]; exact Nat.le_refl _))
    have hqw3 : Qw w3 (a', c', r) := by unfold Qw; rw [hlr2]; exact hR3.ro
    obtain ⟨t1, t2, t3⟩ := h2.newQ hie hB3 hqw3 (fun k hk => by
      rcases hN3 k hk with h | h
      · rw [h]; exact Nat.le_refl _
      · have := bE.size; exact Nat.le_trans this h)
    unfold sV at t1 t2
    simp only [hlr2] at t1 t2
    have HE : Hid (HT w b (some ⟨go, 0, none⟩) co (some ⟨g, 0, none⟩) cq es (handO os qs i) (handQ qs i) (w3.setCell ⟨g, i, none⟩ (.slice a' (lr - 1) c'))) := hd (by
      have hqq : qAt qs i = x :: r := by rw [HQA.out, hqc]
      have e2 : handO os qs i = os.set i x := by unfold handO; rw [hqq]; rfl
      have e3 : handQ qs i = qs.set i r := by unfold handQ; rw [hqq]; rfl
      rw [e2, e3]
      refine ⟨_, t1, by rw [qsOf_set, HQ.out], hm2.trans t2 (fun _ h => .inl h), fun k hk => ?_⟩
      rcases t3 k hk with h | h
      · exact .inl h
      · exact .inr (Nat.le_trans hm2.size h))
    have z1 : w3.cell? ⟨b, 1, none⟩ = some (.slice (some ⟨g, 0, none⟩) n cq) := (hB3.cell (p := ⟨b, 1, none⟩) h2.blt).trans f1
    have z2 : w3.cell? ⟨g, i, none⟩ = some (.slice (some ⟨gx, ox, none⟩) lr C) := (hB3.cell (p := ⟨g, i, none⟩) (h2.rq.lt g rfl)).trans fq
    have z3 : w3.frozen? ⟨g, i, none⟩ = false := by
      rw [World.frozen?_of_block (w := w2) (hB3.block g (h2.rq.lt g rfl))]; exact h2.freeQ i
    have bE2 := below_al w2 (.cells #[] 3)
    have y1 : (w2.alloc (.cells #[] 3)).cell? ⟨b, 1, none⟩ = some (.slice (some ⟨g, 0, none⟩) n cq) := (bE2.cell (p := ⟨b, 1, none⟩) h2.blt).trans f1
    have y2 : (w2.alloc (.cells #[] 3)).cell? ⟨g, i, none⟩ = some (.slice (some ⟨gx, ox, none⟩) lr C) := (bE2.cell (p := ⟨g, i, none⟩) (h2.rq.lt g rfl)).trans fq
    have hgb : g ≠ b := fun e => h2.bq (by rw [e]; rfl)
    have hcell : ∀ (W : World) (u : Value), (W.setCell ⟨g, i, none⟩ u).cell? ⟨b, 1, none⟩ = W.cell? ⟨b, 1, none⟩ := fun W u => World.cell?_of_block (w := W) (Below.heap_setCell _ _ _ _ (fun e => hgb e.symm))
    have hAA := hA.out
    have hlI : (1 : Int) ≤ (lr : Int) := by omega
    have hcI : (lr : Int) ≤ (C : Int) := by omega
    have hlN : 1 ≤ lr := hlr1
    have hnb := World.new_ne w2 ⟨b, 1, none⟩ f1
    have hst : ∀ (p : Addr), p.block ≠ go → ∀ (W : World) (u : Value), (W.setCell ⟨go, i, none⟩ u).cell? p = W.cell? p := fun p hp W u => World.cell?_of_block (w := W) (Below.heap_setCell _ _ _ _ hp)
    have s0 := hst ⟨b, 0, none⟩ (fun e => h2.bo (by rw [← show b = go from e]; rfl))
    have s1 := hst ⟨b, 1, none⟩ (fun e => h2.bo (by rw [← show b = go from e]; rfl))
    have s2 := hst ⟨g, i, none⟩ (fun e => h2.oq go rfl (by rw [← show g = go from e]; rfl))
    have s3 := hst ⟨gx, ox, none⟩ (fun e => (h2.qb i hie gx (by rw [hax]; rfl)).2.1 (by rw [show gx = go from e]; rfl))
    clear hst
    clear HQ HQA HEN HM1 H1 hqw hqc hN HSZ hqw' hset h2 hm2 hq2 hq2' hrd bE hd2 hR3 hM3 hN3 hB3 hqw3 t1 t2 t3 bE2 hax hC hlr2 hLR hie hgb
    go_enter Try.func42, Try.ntmps42
    go_upto_region 1 with fail
    rw [hw1.out]
    go_upto_region 2 with fail
    go_region_held3 (fun w' => w'.cell? ⟨b, 0, none⟩ = some (.slice (some ⟨go, 0, none⟩) n co) ∧ w'.cell? ⟨b, 1, none⟩ = some (.slice (some ⟨g, 0, none⟩) n cq) ∧ w'.cell? ⟨g, i, none⟩ = some (.slice (some ⟨gx, ox, none⟩) lr C) ∧ w'.cell? ⟨gx, ox, none⟩ = some (.int .i64 x)) (go_keep) (fail)
    rw [hw2.out]
    clear s0 s1 s2 s3 d0 d1 do1 dq1 dfr cx
    go_upto_region 3 with fail
    go_region_law ((refine step_append_run (by rfl) _ _ _ (by rfl) _ _ _ _ (by rfl) (by rfl) hap.out ?_))
    all_goals go_end0
    all_goals exact ⟨rfl, HE.out⟩
end Go.Proofs.Ytdihbbpndijdoaa
