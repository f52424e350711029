/- cut, leave, hand. -/
import Derived.Test.YtdihbbpndijdoaaKW3
namespace Go.Proofs.Ytdihbbpndijdoaa
open Go.RowKit Go.Maps

set_option maxRecDepth 100000 in
set_option maxHeartbeats 1000000 in
theorem cut_any {w : World} {e : Qe} (h : Qw w e) {k n : Nat} (hN : Hid (e.2.2.length = n)) (hk : k < n) (hn : n ≤ 8796093022208) :
    Calls Try.prog 37 #[.slice e.1 n e.2.1, .int .i64 (k : Int)] w fun r w' => ∃ e' : Qe, r = .returned (sV e') ∧ e'.2.2 = e.2.2.take k ++ e.2.2.drop (k + 1) ∧ Qw w' e' ∧ Mod (fun j => blk e.1 = some j) w w' ∧ ∀ j, blk e'.1 = some j → blk e.1 = some j ∨ w.heap.size ≤ j := by
  obtain ⟨a, c, q⟩ := e
  simp only at hN h ⊢
  have h' : Ro w 3 a q.length c (iC q) := h
  rw [hN.out] at h'
  obtain ⟨g, o, rfl, hc0⟩ := h'.rd.int 0 (by rw [hN.out]; omega)
  have hcap := h'.capLe
  have HR := hd h'
  clear h' h hc0
  go_enter Try.func37, Try.ntmps37
  go_upto_region 1 with fail
  go_region
  obtain ⟨A, hA⟩ : ∃ A, Hid ((if n = k + 1 then some ({ block := g, off := o } : Addr) else some { block := g, off := o + (k + 1) }) = A) := ⟨_, rfl⟩
  obtain ⟨M, hM⟩ : ∃ M, Hid (n - (k + 1) = M) := ⟨_, rfl⟩
  rw [hA.out, hM.out]
  have HB : Hid (Ro w 3 A M M (iC (q.drop (k + 1)))) := hd (by
    by_cases e : n = k + 1
    · rw [← hA.out, if_pos e, ← hM.out, List.drop_of_length_le (by rw [hN.out]; omega), e, Nat.sub_self]
      exact HR.out.none'
    · rw [← hA.out, if_neg e, ← hM.out, ← iC_drop]
      exact HR.out.behind (k + 1) (by omega))
  have hblk : ∀ j, blk A = some j → blk (some ({ block := g, off := o } : Addr)) = some j := fun j hj => by
    rw [← hA.out] at hj
    split at hj
    · exact hj
    · exact hj
  have HBK := hd hblk
  have hlen : M + k + 1 = n := by rw [← hM.out]; omega
  clear hblk hA
  by_cases h0 : k = 0
  · subst h0
    go_wp2_with fail
    go_ret
    refine ⟨(A, M, q.drop 1), ?_, by simp, ?_, Mod.of_below _ ((Below.refl _ w).drew), fun j hj => .inl (HBK.out j hj)⟩
    · unfold sV
      simp only [List.length_drop, hN.out]
      rw [show n - 1 = M by omega]
      rfl
    · have := HB.out
      unfold Qw
      simp only [List.length_drop, hN.out]
      rw [show n - 1 = M by omega]
      exact this.below ((Below.refl _ w).drew)
  · obtain ⟨i, k1, k2, k3, k4⟩ := info_parts infoN
    have hne : ((k : Int) == 0) = false := by simp; omega
    have hah := (HR.out.ahead k (by omega)).below ((Below.refl _ w).drew)
    rw [iC_take] at hah
    obtain ⟨a', c', w', m1, m2, m3, m4⟩ := run_append_ro (P := Try.prog) w.drew 33 3 i _ 8 Try.underlying33 k1 k2 k3 k4 rfl hah (.slice A M M) M _ (((HB.out.below ((Below.refl _ w).drew)).rd).src Try.underlying33 (by rw [HB.out.len]; omega) (by omega) (iC_one _)) (by unfold maxLen; omega) (by omega)
    have hap := hd m1
    rw [← iC_app] at m2
    have HQ : Hid (Qw w' (a', c', q.take k ++ q.drop (k + 1))) := hd (by
      unfold Qw
      simp only [List.length_append, List.length_take, List.length_drop, hN.out]
      rw [show min k n + (n - (k + 1)) = k + M by omega]
      exact m2)
    have HM : Hid (Mod (fun j => blk (some ({ block := g, off := o } : Addr)) = some j) w w') := hd ((Mod.of_below _ ((Below.refl _ w).drew)).trans m3 (fun _ h => .inl h))
    have HN4 : Hid (∀ j, blk a' = some j → blk (some ({ block := g, off := o } : Addr)) = some j ∨ w.heap.size ≤ j) := hd m4
    have HLen : Hid (∀ x : Int, (q.take k ++ q.drop (k + 1)).length = k + M) := hd (fun _ => by
      simp only [List.length_append, List.length_take, List.length_drop, hN.out]
      omega)
    clear m1 m2 m3 m4 hah h0
    go_wp2_with (first | (at_builtin; refine wpList_append_run rfl _ _ _ rfl _ _ _ _ rfl rfl hap.out ?_; clear hap))
    go_ret
    refine ⟨(a', c', q.take k ++ q.drop (k + 1)), ?_, rfl, HQ.out, HM.out, HN4.out⟩
    unfold sV
    simp only [HLen.out 0]
    rfl

section
variable {w w' : World} {b m : Nat} {ao : Option Addr} {co : Nat} {aq : Option Addr} {cq : Nat} {os : List Int} {es : List Qe} {f : Int → Option Int} {n : Nat}
/-- What a change of one list of who waits leaves. -/
theorem mfp_set {i : Nat} {e' : Qe} {B : Nat} (hi : i < es.length) (hn : ∀ j, blk e'.1 = some j → blk (eAt es i).1 = some j ∨ B ≤ j) : ∀ k, mfp b m ao aq (es.set i e') k → mfp b m ao aq es k ∨ B ≤ k := fun k hk => by
  rcases hk with hk | hk | hk | hk | ⟨j, hj, hk⟩
  · exact .inl (.inl hk)
  · exact .inl (.inr (.inl hk))
  · exact .inl (.inr (.inr (.inl hk)))
  · exact .inl (.inr (.inr (.inr (.inl hk))))
  · rw [List.length_set] at hj
    rw [eAt_set hi] at hk
    split at hk
    · rcases hn k hk with h1 | h1
      · exact .inl (.inr (.inr (.inr (.inr ⟨i, hi, h1⟩))))
      · exact .inr h1
    · exact .inl (.inr (.inr (.inr (.inr ⟨j, hj, hk⟩))))
theorem LM.setO {g : Nat} (h : LM w b m (some ⟨g, 0, none⟩) co aq cq os es f n) (i : Nat) (v : Int) : LM (w.setCell ⟨g, i, none⟩ (.int .i64 v)) b m (some ⟨g, 0, none⟩) co aq cq (os.set i v) es f n := by
  have hm : Mod (fun k => k = g) w (w.setCell ⟨g, i, none⟩ (.int .i64 v)) := (Mod.refl (fun k => k = g) w).setCell (.inl rfl) _
  exact ⟨h.lb.setO i v, h.map.mod hm (fun e => h.ap (.inr (.inl (by rw [e]; rfl)))), h.ap⟩
theorem LM.setQ {g : Nat} (h : LM w b m ao co (some ⟨g, 0, none⟩) cq os es f n) {i : Nat} (hi : i < es.length) {w2 : World} (hm : Mod (fun k => blk (eAt es i).1 = some k) w w2) {e' : Qe} (hq : Qw w2 e') (hn : ∀ k, blk e'.1 = some k → blk (eAt es i).1 = some k ∨ w.heap.size ≤ k) :
    LM (w2.setCell ⟨g, i, none⟩ (sV e')) b m ao co (some ⟨g, 0, none⟩) cq os (es.set i e') f n ∧ Mod (mfp b m ao (some ⟨g, 0, none⟩) es) w (w2.setCell ⟨g, i, none⟩ (sV e')) := by
  have hm2 : Mod (fun k => k = g) w2 (w2.setCell ⟨g, i, none⟩ (sV e')) := (Mod.refl (fun k => k = g) w2).setCell (.inl rfl) _
  refine ⟨⟨h.lb.setQ hi hm hq hn, ?_, fun e => ?_⟩, (hm.mono (fun k _ hk => .inr (.inr (.inr (.inr ⟨i, hi, hk⟩))))).trans hm2 (fun k hk => .inl (.inr (.inr (.inr (.inl (by rw [hk]; rfl))))))⟩
  · exact (h.map.mod hm (fun e => h.ap (.inr (.inr (.inr ⟨i, hi, e⟩))))).mod hm2 (fun e => h.ap (.inr (.inr (.inl (by rw [e]; rfl)))))
  · rcases mfp_set (b := b) (m := m) (ao := ao) (aq := some ⟨g, 0, none⟩) hi hn m (.inr e) with h1 | h1
    · rcases h1 with h1 | h1
      · rcases e with e | e | e | ⟨j, hj, e⟩
        · exact h.ap (.inl e)
        · exact h.ap (.inr (.inl e))
        · exact h.ap (.inr (.inr (.inl e)))
        · rw [List.length_set] at hj
          rw [eAt_set hi] at e
          split at e
          · rcases hn m e with h2 | h2
            · exact h.ap (.inr (.inr (.inr ⟨i, hi, h2⟩)))
            · have := h.map.lt; omega
          · exact h.ap (.inr (.inr (.inr ⟨j, hj, e⟩)))
      · exact h.ap h1
    · have := h.map.lt; omega
end

def LeaveTo (w : World) (b m : Nat) (ao : Option Addr) (co : Nat) (aq : Option Addr) (cq : Nat) (os : List Int) (es : List Qe) (f : Int → Option Int) (n : Nat) (i : Nat) (p : Int) (w' : World) : Prop :=
  ∃ e' : Qe, LM w' b m ao co aq cq os (es.set i e') (fun x => if x = p then none else f x) (if (f p).isSome then n - 1 else n) ∧ e'.2.2 = (eAt es i).2.2.filter (fun x => decide (x ≠ p)) ∧ Mod (mfp b m ao aq es) w w' ∧ ∀ k, mfp b m ao aq (es.set i e') k → mfp b m ao aq es k ∨ w.heap.size ≤ k

set_option maxRecDepth 100000 in
set_option maxHeartbeats 2000000 in
theorem leave_any {w : World} {b m : Nat} {ao : Option Addr} {co : Nat} {aq : Option Addr} {cq : Nat} {os : List Int} {es : List Qe} {f : Int → Option Int} {n : Nat} (h : LM w b m ao co aq cq os es f n) {i : Nat} (hi : i < es.length) {p : Int} (hf : Fit64 p) (hp : p ∈ (eAt es i).2.2) (hnd : (eAt es i).2.2.Nodup) (hln : (eAt es i).2.2.length ≤ 8796093022208) :
    Calls Try.prog 30 #[.pointer (some ⟨b, 0, none⟩), .int .i64 (i : Int), .int .i64 p] w fun e w' => e = .returned (.tuple #[]) ∧ LeaveTo w b m ao co aq cq os es f n i p w' := by
  have c1 := h.lb.c1
  obtain ⟨g, rfl, hc⟩ := h.lb.queue i hi
  obtain ⟨j, hj, hjp, hix⟩ := idxF_mem (k := 0) hp
  have hd1 : Below w.heap.size w w.drew := (Below.refl _ w).drew
  have hqd := (h.lb.qs i hi).below hd1
  obtain ⟨ln, hN⟩ : ∃ ln, Hid ((eAt es i).2.2.length = ln) := ⟨_, rfl⟩
  have hidx := index_any (c := (eAt es i).2.1) hqd.rd hN (by rw [← hN.out]; exact hln) p
  rw [hix] at hidx
  have hcut := cut_any hqd hN (k := j) (by rw [← hN.out]; exact hj) (by rw [← hN.out]; exact hln)
  rw [hN.out] at hc hj hln
  rw [Nat.zero_add] at hidx
  obtain ⟨nq, hNQ⟩ : ∃ nq, Hid (es.length = nq) := ⟨_, rfl⟩
  rw [hNQ.out] at c1 hi
  have hgb : g ≠ b := fun e => h.lb.bq (by rw [e]; rfl)
  have HCU := hd (filter_cut hnd (by rw [hN.out]; exact hj) hjp)
  have HST : Hid (∀ (wz : World) (e' : Qe), Qw wz e' → Mod (fun j => blk (eAt es i).1 = some j) w.drew wz → (∀ j, blk e'.1 = some j → blk (eAt es i).1 = some j ∨ w.drew.heap.size ≤ j) →
      wz.cell? ⟨b, 1, none⟩ = some (.slice (some ⟨g, 0, none⟩) nq cq) ∧ (∃ u, wz.cell? ⟨g, i, none⟩ = some u) ∧ wz.frozen? ⟨g, i, none⟩ = false ∧
      LM (wz.setCell ⟨g, i, none⟩ (sV e')) b m ao co (some ⟨g, 0, none⟩) cq os (es.set i e') f n ∧ Mod (mfp b m ao (some ⟨g, 0, none⟩) es) w (wz.setCell ⟨g, i, none⟩ (sV e')) ∧ ∀ k, mfp b m ao (some ⟨g, 0, none⟩) (es.set i e') k → mfp b m ao (some ⟨g, 0, none⟩) es k ∨ w.heap.size ≤ k) := hd (fun wz e' h1 h2 h3 => by
    have hi' : i < es.length := by rw [hNQ.out]; exact hi
    have hbn := h.lb.qb i hi'
    have hdd := h.below hd1
    have hgl : g < w.drew.heap.size := hdd.lb.rq.lt g rfl
    obtain ⟨s1, s2⟩ := hdd.setQ hi' h2 h1 h3
    refine ⟨?_, ⟨_, (h2.cell (p := ⟨g, i, none⟩) hgl (fun e => (hbn g e).2.2 rfl)).trans hc⟩, ?_, s1, (Mod.of_below _ hd1).trans s2 (fun _ h => .inl h), mfp_set hi' h3⟩
    · rw [h2.cell (p := ⟨b, 1, none⟩) hdd.lb.blt (fun e => (hbn b e).1 rfl)]
      exact c1
    · rw [h2.frozen (p := ⟨g, i, none⟩) hgl (fun e => (hbn g e).2.2 rfl)]
      exact h.lb.freeQ i)
  have hcell : ∀ (W : World) (u : Value), (W.setCell ⟨g, i, none⟩ u).cell? ⟨b, 1, none⟩ = W.cell? ⟨b, 1, none⟩ := fun W u => World.cell?_of_block (w := W) (Below.heap_setCell _ _ _ _ (fun e => hgb e.symm))
  have HDR : Hid (∀ W : World, LM W b m ao co (some ⟨g, 0, none⟩) cq os es f n → True) := hd (fun _ _ => trivial)
  clear hqd hix hjp hp hnd h HDR
  go_enter Try.func30, Try.ntmps30
  go_upto_region 1 with fail
  go_region_held3 (fun w' => w'.cell? ⟨b, 1, none⟩ = some (.slice (some ⟨g, 0, none⟩) nq cq)) (go_keep)
    (first
      | (go_at_call 38; refine hidx.mono ?_; rintro e3 w3 ⟨rfl, rfl⟩)
      | (go_at_call 37; refine hcut.mono ?_; rintro e3 w3 ⟨⟨a', c', q'⟩, rfl, hq1, hq2, hq3, hq4⟩
         obtain ⟨s1, ⟨u0, s2⟩, s3, HL, HM, HF⟩ := HST.out w3 (a', c', q') hq2 hq3 hq4
         simp only [sV] at HL HM HF ⊢
         replace HL := hd HL
         replace HM := hd HM
         replace HF := hd HF
         replace hq1 := hd hq1
         clear hq2 hq3 hq4))
  obtain ⟨w4, hw4⟩ : ∃ W, Hid (w3.setCell ⟨g, i, none⟩ (.slice a' q'.length c') = W) := ⟨_, rfl⟩
  rw [hw4.out] at HL HM ⊢
  have c2 := HL.out.lb.c2
  obtain ⟨w5, hrun, hM5, hA5⟩ := HL.out.map.drop hf
  have HE : Hid (LeaveTo w b m ao co (some ⟨g, 0, none⟩) cq os es f n i p w5) := hd ⟨(a', c', q'), HL.out.turn hM5 hA5, hq1.out.trans HCU.out.symm, HM.out.trans hM5 (fun k hk => .inl (.inl hk)), HF.out⟩
  clear hM5 hA5 HL HM HF hq1 HST HCU hidx hcut
  go_wp2_with fail
  go_end0
  exact ⟨rfl, HE.out⟩
end Go.Proofs.Ytdihbbpndijdoaa
