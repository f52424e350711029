/- hand, Give, Take. -/
import Derived.Test.YtdihbbpndijdoaaKW4
namespace Go.Proofs.Ytdihbbpndijdoaa
open Go.RowKit Go.Maps

/-- What a call that changes the program's locks leaves. -/
def LT (w : World) (b m : Nat) (ao : Option Addr) (co : Nat) (aq : Option Addr) (cq : Nat) (es : List Qe) (os' : List Int) (qs' : Qs) (w' : World) : Prop :=
  ∃ es', LM w' b m ao co aq cq os' es' (wtI qs') (total qs') ∧ qsOf es' = qs' ∧ Mod (mfp b m ao aq es) w w' ∧ ∀ k, mfp b m ao aq es' k → mfp b m ao aq es k ∨ w.heap.size ≤ k
theorem LT.out {w w' : World} {b m : Nat} {ao : Option Addr} {co : Nat} {aq : Option Addr} {cq : Nat} {es : List Qe} {os' : List Int} {qs' : Qs} {F : Nat → Prop} (h : LT w b m ao co aq cq es os' qs' w') (hF : ∀ k, mfp b m ao aq es k → F k) (hG : GoodL os' qs') : LkOut w b F os' qs' w' := by
  obtain ⟨es', h1, h2, h3, h4⟩ := h
  exact LkOut.mk' hF h3 hG h1 h2 h4
theorem leave_LT {w w' : World} {b m : Nat} {ao : Option Addr} {co : Nat} {aq : Option Addr} {cq : Nat} {os : List Int} {es : List Qe} {qs : Qs} (hG : GoodL os qs) (hq : qsOf es = qs) {i : Nat} {p : Int} (hp : p ∈ qAt qs i) (h : LeaveTo w b m ao co aq cq os es (wtI qs) (total qs) i p w') : LT w b m ao co aq cq es os (leaveQ qs i p) w' := by
  obtain ⟨e', h1, h2, h3, h4⟩ := h
  have hi : i < qs.length := qAt_lt hp
  have hqe : qsOf (es.set i e') = leaveQ qs i p := by
    rw [qsOf_set, h2, hq, leaveQ, ← hq, qAt_of]
  refine ⟨es.set i e', ?_, hqe, h3, h4⟩
  have hs : (wtI qs p).isSome = true := by rw [wtI_some hG.once hp]; rfl
  rw [hs, if_pos rfl] at h1
  have ht : total (leaveQ qs i p) = total qs - 1 := by
    obtain ⟨j, hj, hjp⟩ := List.getElem_of_mem hp
    have e := filter_cut (hG.nd i) (p := p) (k := j) hj (by rw [List.getD_eq_getElem?_getD, List.getElem?_eq_getElem hj]; exact hjp)
    have := total_set hi ((qAt qs i).filter (fun x => decide (x ≠ p)))
    rw [e] at this
    unfold leaveQ
    rw [e]
    simp only [List.length_append, List.length_take, List.length_drop] at this
    omega
  rw [ht]
  refine ⟨h1.lb, h1.map.congr (fun x => ?_), h1.ap⟩
  rw [wtI_leave hG hp]

set_option maxRecDepth 100000 in
set_option maxHeartbeats 2000000 in
theorem hand_any {w : World} {b m : Nat} {ao : Option Addr} {co : Nat} {aq : Option Addr} {cq : Nat} {os : List Int} {es : List Qe} {qs : Qs} (h : LM w b m ao co aq cq os es (wtI qs) (total qs)) (hG : GoodL os qs) (hq : qsOf es = qs) {i : Nat} (hi : i < os.length) (ht : total qs ≤ 8796093022208) :
    Calls Try.prog 29 #[.pointer (some ⟨b, 0, none⟩), .int .i64 (i : Int)] w fun e w' => e = .returned (.tuple #[]) ∧ LT w b m ao co aq cq es (handO os qs i) (handQ qs i) w' := by
  have hn := hG.n
  have hel : es.length = os.length := by rw [← hn, ← hq, qsOf_len]
  have hie : i < es.length := by omega
  have c0 := h.lb.c0
  have c1 := h.lb.c1
  obtain ⟨go, rfl, co1⟩ := h.lb.owner i hi
  obtain ⟨g, rfl, cq1⟩ := h.lb.queue i hie
  have hqa : qAt qs i = (eAt es i).2.2 := by rw [← hq, qAt_of]
  have hfr := h.lb.freeO i
  have hln : (eAt es i).2.2.length ≤ 8796093022208 := by rw [← hqa]; exact Nat.le_trans (total_le i) ht
  have hrd := (h.lb.qs i hie).rd
  have hmo : ∀ v, Mod (mfp b m (some ⟨go, 0, none⟩) (some ⟨g, 0, none⟩) es) w (w.setCell ⟨go, i, none⟩ v) := fun v => (Mod.refl _ w).setCell (.inl (.inr (.inr (.inl rfl)))) v
  have HL := hd h
  have HG := hd hG
  have HQ := hd hq
  have HQA := hd hqa
  have HEL := hd hel
  obtain ⟨no, hNO⟩ : ∃ no, Hid (os.length = no) := ⟨_, rfl⟩
  obtain ⟨nq, hNQ⟩ : ∃ nq, Hid (es.length = nq) := ⟨_, rfl⟩
  have hnn : no = nq := by rw [← hNO.out, ← hNQ.out]; exact hel.symm
  have hno8 : no ≤ 8 := by rw [← hNO.out]; exact hG.le
  subst hnn
  rw [hNO.out] at c0 hi
  rw [hNQ.out] at c1
  rw [hNQ.out] at hie
  have HMO := hd hmo
  clear h hG hq hel hn hmo hqa
  cases hqc : (eAt es i).2.2 with
  | nil =>
    have HE : Hid (LT w b m (some ⟨go, 0, none⟩) co (some ⟨g, 0, none⟩) cq es (handO os qs i) (handQ qs i) (w.setCell ⟨go, i, none⟩ (.int .i64 (-1)))) := hd (by
      have e1 : handQ qs i = qs := by
        unfold handQ
        rw [HQA.out, hqc]
        show qs.set i [] = qs
        rw [← HQ.out]
        apply List.ext_getElem?
        intro j
        rw [List.getElem?_set]
        split
        · rename_i e
          subst e
          have hl : i < (qsOf es).length := by rw [qsOf_len, hNQ.out]; exact hie
          rw [if_pos hl]
          have := qAt_of es i
          rw [hqc] at this
          unfold qAt at this
          rw [List.getD_eq_getElem?_getD, List.getElem?_eq_getElem hl] at this
          rw [List.getElem?_eq_getElem hl]
          simp at this
          rw [this]
        · rfl
      have e2 : handO os qs i = os.set i (-1) := by unfold handO; rw [HQA.out, hqc]; rfl
      rw [e1, e2]
      exact ⟨es, HL.out.setO i (-1), HQ.out, HMO.out _, fun k hk => .inl hk⟩)
    rw [hqc] at cq1
    simp only [List.length_nil] at cq1
    clear HL HG HQ HQA HEL hrd hln hqc HMO hNO hNQ
    go_enter Try.func29, Try.ntmps29
    go_wp2
    refine bodyPost_ret (results_none rfl _ _ _) rfl ?_
    exact ⟨rfl, HE.out⟩
  | cons x r =>
    rw [hqc] at cq1 hln hrd
    obtain ⟨gx, ox, hax, cx⟩ := hrd.int 0 (by simp)
    simp only [List.getD_cons_zero, Nat.add_zero] at cx
    have hpm : x ∈ (eAt es i).2.2 := by rw [hqc]; exact List.mem_cons_self
    have hfx : 0 ≤ x ∧ x ≤ 9223372036854775807 := HG.out.wai i x (by rw [HQA.out]; exact hpm)
    have hd1 : Below w.heap.size w w.drew := (Below.refl _ w).drew
    have h2 : LM (w.drew.setCell ⟨go, i, none⟩ (.int .i64 x)) b m (some ⟨go, 0, none⟩) co (some ⟨g, 0, none⟩) cq (os.set i x) es (wtI qs) (total qs) := (HL.out.below hd1).setO i x
    have hlv := leave_any h2 (i := i) (by rw [hNQ.out]; exact hie) (p := x) ⟨by omega, hfx.2⟩ hpm (by rw [← HQA.out]; exact HG.out.nd i) (by rw [hqc]; exact hln)
    have hbq := HL.out.lb.qb i (by rw [hNQ.out]; exact hie) gx (by rw [hax]; rfl)
    have hcx : (w.drew.setCell ⟨go, i, none⟩ (.int .i64 x)).cell? ⟨gx, ox, none⟩ = some (.int .i64 x) := by
      have hne : gx ≠ go := fun e => hbq.2.1 (by rw [e]; rfl)
      rw [World.cell?_of_block (w := w.drew) (a := ⟨gx, ox, none⟩) (Below.heap_setCell _ _ _ _ hne)]
      exact cx
    have HE : Hid (∀ w', LeaveTo (w.drew.setCell ⟨go, i, none⟩ (.int .i64 x)) b m (some ⟨go, 0, none⟩) co (some ⟨g, 0, none⟩) cq (os.set i x) es (wtI qs) (total qs) i x w' → LT w b m (some ⟨go, 0, none⟩) co (some ⟨g, 0, none⟩) cq es (handO os qs i) (handQ qs i) w') := hd (fun w' hl => by
      have hG2 := HG.out.setO (i := i) (v := x) ⟨by omega, hfx.2⟩
      have hqq : qAt qs i = x :: r := by rw [HQA.out, hqc]
      obtain ⟨es', t1, t2, t3, t4⟩ := leave_LT hG2 HQ.out (by rw [hqq]; exact List.mem_cons_self) hl
      rw [hand_leave HG.out hqq] at t1 t2
      have e2 : handO os qs i = os.set i x := by unfold handO; rw [hqq]; rfl
      rw [e2]
      refine ⟨es', t1, t2, (Mod.of_below _ hd1).trans ((Mod.refl (mfp b m (some ⟨go, 0, none⟩) (some ⟨g, 0, none⟩) es) w.drew).setCell (p := ⟨go, i, none⟩) (.inl (.inr (.inr (.inl rfl)))) (.int .i64 x)) (fun _ h => .inl h) |>.trans t3 (fun _ h => .inl h), fun k hk => ?_⟩
      rcases t4 k hk with h | h
      · exact .inl h
      · exact .inr (by simpa [World.setCell] using h))
    obtain ⟨lr, hLR⟩ : ∃ lr, Hid ((x :: r).length = lr) := ⟨_, rfl⟩
    have hlr0 : ((lr : Int) == 0) = false := by rw [← hLR.out]; simp; omega
    have hlr1 : 0 < lr := by rw [← hLR.out]; simp
    rw [hLR.out] at cq1 hln
    rw [hax] at cq1
    clear HL HG HQ HQA HEL hrd hqc HMO hNO hNQ h2 hpm hbq hax
    go_enter Try.func29, Try.ntmps29
    go_upto_region 3 with fail
    go_region
    obtain ⟨w2, hw2⟩ : ∃ W, Hid ((w.setCell ⟨go, i, none⟩ (.int .i64 x)).drew = W) := ⟨_, rfl⟩
    rw [show w.drew.setCell ⟨go, i, none⟩ (.int .i64 x) = (w.setCell ⟨go, i, none⟩ (.int .i64 x)).drew from rfl, hw2.out] at hlv hcx HE
    rw [hw2.out]
    go_wp2_with (first | (go_at_call 30; refine hlv.mono ?_; rintro e3 w3 ⟨rfl, hl3⟩))
    go_end0
    exact ⟨rfl, HE.out _ hl3⟩
end Go.Proofs.Ytdihbbpndijdoaa
