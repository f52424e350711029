/- add. -/
import Derived.Test.YthhcecllejddeaaGreatDoorGJc
import Derived.Test.YthhcecllejddeaaGreatDoorGJm
namespace Go.Proofs.YthhcecllejddeaaGreatDoor.Locks
open Go.RowKit Go.Maps
section
variable {w w' : World} {b m : Nat} {ao : Option Addr} {co : Nat} {aq : Option Addr} {cq : Nat} {os : List Int} {es : List Qe} {f : Int → Option Int} {n : Nat}
theorem LM.pushO (h : LM w b m ao co aq cq os es f n) {w2 : World} (hm : Mod (fun k => blk ao = some k) w w2) {ao' : Option Addr} {co' : Nat} {v : Int} (hR : Row w2 3 1 ao' (os.length + 1) co' (iC os ++ iC [v])) (hn : ∀ k, blk ao' = some k → blk ao = some k ∨ w.heap.size ≤ k) :
  LM (w2.setCell ⟨b, 0, none⟩ (.slice ao' (os.length + 1) co')) b m ao' co' aq cq (os ++ [v]) es f n ∧ Mod (mfp b m ao aq es) w (w2.setCell ⟨b, 0, none⟩ (.slice ao' (os.length + 1) co')) ∧ ∀ k, mfp b m ao' aq es k → mfp b m ao aq es k ∨ w.heap.size ≤ k := by
 have hm2 : Mod (fun k => k = b) w2 (w2.setCell ⟨b, 0, none⟩ (.slice ao' (os.length + 1) co')) := (Mod.refl (fun k => k = b) w2).setCell (.inl rfl) _
 have hnn : ∀ k, lfp b ao' aq es k → lfp b ao aq es k ∨ w.heap.size ≤ k := fun k hk => by
  rcases hk with hk | hk | hk | hk
  ·exact .inl (.inl hk)
  ·rcases hn k hk with h1 | h1
   ·exact .inl (.inr (.inl h1))
   ·exact .inr h1
  ·exact .inl (.inr (.inr (.inl hk)))
  ·exact .inl (.inr (.inr (.inr hk)))
 refine ⟨⟨h.lb.pushO hm hR hn, (h.map.mod hm (fun e => h.ap (.inr (.inl e)))).mod hm2 (fun e => h.ap (.inl e)), fun e => ?_⟩, (hm.mono (fun k _ hk => .inr (.inr (.inl hk)))).trans hm2 (fun k hk => .inl (.inr (.inl hk))), fun k hk => ?_⟩
 ·rcases hnn m e with h1 | h1
  ·exact h.ap h1
  ·have := h.map.lt; omega
 ·rcases hk with hk | hk
  ·exact .inl (.inl hk)
  ·rcases hnn k hk with h1 | h1
   ·exact .inl (.inr h1)
   ·exact .inr h1
theorem LM.pushQ (h : LM w b m ao co aq cq os es f n) {w2 : World} (hm : Mod (fun k => blk aq = some k) w w2) {aq' : Option Addr} {cq' : Nat} {e' : Qe} (hR : Row w2 24 1 aq' (es.length + 1) cq' (sC es ++ sC [e'])) (hn : ∀ k, blk aq' = some k → blk aq = some k ∨ w.heap.size ≤ k) (hq : Qw w2 e') (hne : ∀ k, blk e'.1 = some k → w.heap.size ≤ k ∧ blk aq' ≠ some k) :
  LM (w2.setCell ⟨b, 1, none⟩ (.slice aq' (es.length + 1) cq')) b m ao co aq' cq' os (es ++ [e']) f n ∧ Mod (mfp b m ao aq es) w (w2.setCell ⟨b, 1, none⟩ (.slice aq' (es.length + 1) cq')) ∧ ∀ k, mfp b m ao aq' (es ++ [e']) k → mfp b m ao aq es k ∨ w.heap.size ≤ k := by
 have hm2 : Mod (fun k => k = b) w2 (w2.setCell ⟨b, 1, none⟩ (.slice aq' (es.length + 1) cq')) := (Mod.refl (fun k => k = b) w2).setCell (.inl rfl) _
 have hnn : ∀ k, lfp b ao aq' (es ++ [e']) k → lfp b ao aq es k ∨ w.heap.size ≤ k := fun k hk => by
  rcases hk with hk | hk | hk | ⟨i, hi, hk⟩
  ·exact .inl (.inl hk)
  ·exact .inl (.inr (.inl hk))
  ·rcases hn k hk with h1 | h1
   ·exact .inl (.inr (.inr (.inl h1)))
   ·exact .inr h1
  ·simp only [List.length_append, List.length_singleton] at hi
   rw [eAt_app hi] at hk
   split at hk
   ·exact .inr (hne k hk).1
   ·exact .inl (.inr (.inr (.inr ⟨i, by omega, hk⟩)))
 refine ⟨⟨h.lb.pushQ hm hR hn hq hne, (h.map.mod hm (fun e => h.ap (.inr (.inr (.inl e))))).mod hm2 (fun e => h.ap (.inl e)), fun e => ?_⟩, (hm.mono (fun k _ hk => .inr (.inr (.inr (.inl hk))))).trans hm2 (fun k hk => .inl (.inr (.inl hk))), fun k hk => ?_⟩
 ·rcases hnn m e with h1 | h1
  ·exact h.ap h1
  ·have := h.map.lt; omega
 ·rcases hk with hk | hk
  ·exact .inl (.inl hk)
  ·rcases hnn k hk with h1 | h1
   ·exact .inl (.inr h1)
   ·exact .inr h1
end
def AddOut (w : World) (b m : Nat) (ao aq : Option Addr) (es : List Qe) (os : List Int) (qs : Qs) (o : Int) (q : List Int) (R : Bool) (w' : World) : Prop :=
 Mod (mfp b m ao aq es) w w' ∧ (R = true → GoodL (os ++ [o]) (qs ++ [q]) ∧ ∃ ao' co' aq' cq' es', LM w' b m ao' co' aq' cq' (os ++ [o]) es' (wtI (qs ++ [q])) (total (qs ++ [q])) ∧ qsOf es' = qs ++ [q] ∧ ∀ k, mfp b m ao' aq' es' k → mfp b m ao aq es k ∨ w.heap.size ≤ k)
def AddI (w wr : World) (b m : Nat) (ao : Option Addr) (co : Nat) (aq : Option Addr) (cq : Nat) (os : List Int) (es : List Qe) (qs : Qs) (o : Int) (q : List Int) (i : Nat) : Prop :=
 LM wr b m ao co aq cq os es (fun x => if x ∈ q.take i then some (os.length : Int) else wtI qs x) (total qs + i) ∧ Mod (fun k => k = m) w wr ∧ GoodD qs o (q.take i)
set_option maxRecDepth 100000 in
set_option maxHeartbeats 4000000 in
theorem add_any {w : World} {b m : Nat} {ao : Option Addr} {co : Nat} {aq : Option Addr} {cq : Nat} {os : List Int} {es : List Qe} {qs : Qs} (h : LM w b m ao co aq cq os es (wtI qs) (total qs)) (hG : GoodL os qs) (hq : qsOf es = qs) (h8 : os.length < 8)
    {a : Option Addr} {n c : Nat} {q : List Int} {o : Int} (hR : ∀ W, Mod (mfp b m ao aq es) w W → Rd W a (iC q)) (hN : Hid (q.length = n)) (hf : ∀ p ∈ q, Fit64 p) (ho : Fit64 o) (ht : total qs + n < 6000000000000) :
    Calls Tryz.prog 129 #[.pointer (some ⟨b, 0, none⟩), .int .i64 o, .slice a n c] w fun e w' => e = .returned (.bool (addOk qs o q)) ∧ AddOut w b m ao aq es os qs o q (addOk qs o q) w' := by
  have HL := hd h
  have HG := hd hG
  have HQ := hd hq
  have HR := hd hR
  have HFT := hd hf
  obtain ⟨R, hRes⟩ : ∃ R, Hid (addOk qs o q = R) := ⟨_, rfl⟩
  rw [hRes.out]
  have HNO : Hid (R = false → AddOut w b m ao aq es os qs o q R w) := hd (fun e => ⟨Mod.refl _ _, fun h => by rw [e] at h; cases h⟩)
  clear h hG hq hR hf
  by_cases h1 : o < -1
  · obtain rfl : R = false := by rw [← hRes.out]; unfold addOk; rw [if_pos (.inl h1)]
    clear HL HG HQ HR HFT hRes
    go_enter Tryz.func129, Tryz.ntmps129
    go_wp2_with fail
    go_ret
    exact ⟨rfl, HNO.out (by trivial)⟩
  have h1' : decide (o < -1) = false := by simpa using h1
  by_cases h2 : o = -1 ∧ 0 < n
  · obtain ⟨rfl, h3⟩ := h2
    obtain rfl : R = false := by rw [← hRes.out]; unfold addOk; rw [if_pos (.inr ⟨rfl, by rw [hN.out]; exact h3⟩)]
    clear HL HG HQ HR HFT hRes h1 h1'
    go_enter Tryz.func129, Tryz.ntmps129
    go_wp2_with fail
    go_ret
    exact ⟨rfl, HNO.out (by trivial)⟩
  have hRE : Hid (addQ qs o [] q = R) := hd (by rw [← hRes.out]; unfold addOk; rw [if_neg (by rw [hN.out]; omega)])
  obtain ⟨no, hno⟩ : ∃ no, Hid (os.length = no) := ⟨_, rfl⟩
  rw [hno.out] at h8
  have HS : Hid (AddI w w b m ao co aq cq os es qs o q 0) := hd ⟨⟨HL.out.lb, HL.out.map.congr (fun x => by rw [List.take_zero, if_neg (List.not_mem_nil)]), HL.out.ap⟩, Mod.refl _ _, by rw [List.take_zero]; exact GoodD.nil _ _⟩
  have HCD := hd h2
  clear hRes h1 HNO h2
  go_enter Tryz.func129, Tryz.ntmps129
  go_upto_region 1 with fail
  go_cut [11, 12, 13, 14, 15, 16, 17, 18, 19, 20, 21] (fun v11 v12 v13 v14 v15 v16 v17 v18 v19 v20 v21 wy => v21 = .bool false ∧ wy = w)
  case first =>
    by_cases e : o = -1
    · have h3 : ¬ 0 < n := fun h3 => HCD.out ⟨e, h3⟩
      obtain rfl : n = 0 := by omega
      subst e
      clear HL HG HQ HR HFT hRE HCD h3 HS hno
      go_wp2_with fail
      go_meet
      case rel => exact ⟨by trivial, by trivial⟩
    · have e' : (o == -1) = false := by simpa using e
      clear HL HG HQ HR HFT hRE HCD HS hno e
      go_wp2_with fail
      go_meet
      case rel => exact ⟨by trivial, by trivial⟩
  case rest =>
    obtain ⟨rfl, rfl⟩ := hcut
    have HO1 : Hid (-1 ≤ o) := hd (by have := h1'; simp at this; omega)
    clear HCD h1'
    go_wp2_with fail
    go_loopg [8, 9, 10, 24, 25, 26, 27, 28, 29, 30, 31, 32, 33, 34, 35, 36, 37, 38, 39, 40, 41, 42, 43, 44, 45, 46, 47, 48, 49, 50, 51, 52, 53, 54] n (fun k v8 v9 v10 v24 v25 v26 v27 v28 v29 v30 v31 v32 v33 v34 v35 v36 v37 v38 v39 v40 v41 v42 v43 v44 v45 v46 v47 v48 v49 v50 v51 v52 v53 v54 wr => ∃ i : Nat, i + k = n ∧ v24 = .int .i64 (i : Int) ∧ Hid (AddI wc wr b m ao co aq cq os es qs o q i ∧ addQ qs o (q.take i) (q.drop i) = R))
    case atStart => exact ⟨0, by omega, by go_num, hd ⟨HS.out, by simpa using hRE.out⟩⟩
    case round =>
      obtain ⟨i, hik, rfl, HX⟩ := hrel
      clear HS hRE
      obtain ⟨⟨hLr, hMr, hDr⟩, hQr⟩ := HX.out
      have hMF : Mod (mfp b m ao aq es) wc wr := hMr.mono (fun k _ hk => .inl hk)
      by_cases h0 : gk = 0
      · subst h0
        have hi : i = n := by omega
        subst hi
        have htk : q.take i = q := List.take_of_length_le (by rw [hN.out]; omega)
        obtain rfl : R = true := by rw [← hQr, List.drop_of_length_le (by rw [hN.out]; omega)]; rfl
        rw [htk] at hLr hDr
        have hfa : -1 ≤ o ∧ o ≤ 9223372036854775807 := ⟨HO1.out, ho.2⟩
        have hGA := HG.out.app (by rw [hno.out]; exact h8) hfa hDr (fun p hp => (HFT.out p hp).2)
        have hLa : LM wr b m ao co aq cq os es (wtI (qs ++ [q])) (total (qs ++ [q])) := by
          rw [total_app, hN.out]
          refine ⟨hLr.lb, hLr.map.congr (fun y => ?_), hLr.ap⟩
          rw [wtI_app HG.out hDr, HG.out.n]
        have c0 := hLr.lb.c0
        obtain ⟨ao', co', w4, hap1, hR1, hM1, hN1⟩ := push_any (T := 24) Tryz.underlying24 infoN rfl hLr.lb.ro (by rw [hno.out]; unfold maxLen; omega) (by rw [hno.out]; omega) [.int .i64 o] rfl (by simp [Value.oneCell'])
        obtain ⟨s1, s2, s3⟩ := hLa.pushO hM1 (v := o) hR1 hN1
        have z1 : ∃ u, w4.cell? ⟨b, 0, none⟩ = some u := ⟨_, (hM1.cell (p := ⟨b, 0, none⟩) hLr.lb.blt (hLr.lb.bo)).trans c0⟩
        have z2 : w4.frozen? ⟨b, 0, none⟩ = false := (hM1.frozen (p := ⟨b, 0, none⟩) hLr.lb.blt (hLr.lb.bo)).trans (hLr.lb.freeB 0)
        rw [hno.out] at c0 hap1 s1 s2
        obtain ⟨w5, hw5⟩ : ∃ W, Hid (w4.setCell ⟨b, 0, none⟩ (.slice ao' (no + 1) co') = W) := ⟨_, rfl⟩
        rw [hw5.out] at s1 s2
        replace hap1 := hd hap1
        have hd1 : Below w5.heap.size w5 w5.drew := (Below.refl _ w5).drew
        have s1d := s1.below hd1
        have hMw : Mod (mfp b m ao aq es) wc w5 := hMF.trans s2 (fun _ h => .inl h)
        have hR5 := (HR.out w5 hMw).below hd1
        have hcp := copied_any (c := c) hR5 (n := i) (by rw [iC_len, hN.out]; omega) (iC_one _) (by omega)
        have hel : es.length = no := by rw [← hno.out, ← HG.out.n, ← HQ.out, qsOf_len]
        have d1 := s1.lb.c1
        rw [hel] at d1
        have hbl5 : b < w5.heap.size := s1.lb.blt
        have HP : Hid (∀ w6 a1 c1, Row w6 3 1 a1 i c1 (iC q) → Below w5.drew.heap.size w5.drew w6 → (∀ k, blk a1 = some k → w5.drew.heap.size ≤ k) → w6.cell? ⟨b, 1, none⟩ = some (.slice aq no cq) ∧ (w6.alloc (.cells #[.slice a1 i c1] 24)).cell? ⟨b, 1, none⟩ = some (.slice aq no cq) ∧ ∃ aq' cq' w7, (∀ ty, (Builtin.append_ #[102, 102] ty #[.slice aq no cq, .slice (some ⟨w6.heap.size, 0, none⟩) 1 1]).run Tryz.prog (w6.alloc (.cells #[.slice a1 i c1] 24)) = .ok (.slice aq' (no + 1) cq') w7) ∧ (∃ u, w7.cell? ⟨b, 1, none⟩ = some u) ∧ w7.frozen? ⟨b, 1, none⟩ = false ∧ AddOut wc b m ao aq es os qs o q true (w7.setCell ⟨b, 1, none⟩ (.slice aq' (no + 1) cq'))) := hd (fun w6 a1 c1 r1 r2 r3 => by
          have s6 := s1d.below r2
          have hqw : Qw w6 (a1, c1, q) := by unfold Qw; rw [hN.out]; exact r1.ro
          have e1 := s6.lb.c1
          rw [hel] at e1
          obtain ⟨aq', cq', w7, hap2, hR2, hM2, hN2⟩ := push_any (T := 102) Tryz.underlying102 infoL rfl s6.lb.rq (by rw [hel]; unfold maxLen; omega) (by rw [hel]; omega) [.slice a1 i c1] rfl (by simp [Value.oneCell'])
          have hmm : Mod (fun k => blk aq = some k) w5.drew w7 := (Mod.of_below _ r2).trans hM2 (fun _ h => .inl h)
          have hsv : sC [((a1, c1, q) : Qe)] = [.slice a1 i c1] := by simp [sC, sV, hN.out]
          have hqlt := fun k (hk : blk a1 = some k) => hqw.lt k hk
          have haq5 : ∀ k, blk aq = some k → k < w5.drew.heap.size := fun k hk => s1d.lb.rq.lt k hk
          obtain ⟨t1, t2, t3⟩ := s1d.pushQ hmm (e' := (a1, c1, q)) (aq' := aq') (cq' := cq') (by rw [hsv]; exact hR2) (fun k hk => by
            rcases hN2 k hk with h3 | h3
            · exact .inl h3
            · exact .inr (Nat.le_trans r2.size h3)) (hqw.mod hM2 (fun k hk e => by have := r3 k hk; have := haq5 k e; omega)) (fun k hk => ⟨r3 k hk, fun e => by
              rcases hN2 k e with h3 | h3
              · have := r3 k hk; have := haq5 k h3; omega
              · have := hqlt k hk; omega⟩)
          rw [hel] at hap2 t1 t2
          refine ⟨e1, ((below_al w6 _).cell (p := ⟨b, 1, none⟩) s6.lb.blt).trans e1, aq', cq', w7, hap2, ⟨_, (hM2.cell (p := ⟨b, 1, none⟩) s6.lb.blt s6.lb.bq).trans e1⟩, (hM2.frozen (p := ⟨b, 1, none⟩) s6.lb.blt s6.lb.bq).trans (s6.lb.freeB 1), ?_, fun _ => ⟨hGA, ao', co', aq', cq', es ++ [(a1, c1, q)], t1, by rw [qsOf_app, HQ.out]; rfl, fun k hk => ?_⟩⟩
          · refine (hMw.after hd1).trans t2 (fun k hk => ?_)
            rcases s3 k hk with h3 | h3
            · exact .inl h3
            · exact .inr (Nat.le_trans hMF.size h3)
          · rcases t3 k hk with h3 | h3
            · rcases s3 k h3 with h4 | h4
              · exact .inl h4
              · exact .inr (Nat.le_trans hMF.size h4)
            · exact .inr (Nat.le_trans hMw.size h3))
        obtain ⟨u4, z1⟩ := z1
        clear HX hLr hMr hDr hQr hMF htk hGA hLa s1 s2 s3 s1d hMw hR5 hR1 hM1 hN1 HL HG HQ HR HFT hik hel hfa
        go_upto_region 12 with (first | (at_builtin; refine wpList_append_run rfl _ _ _ rfl _ _ _ _ rfl rfl hap1.out ?_; clear hap1))
        rw [hw5.out]
        go_region_law
          (first
            | (go_simp; refine hcp.mono ?_; rintro e6 w6 ⟨a1, c1, rfl, r1, r2, r3⟩
               obtain ⟨p1, p2, aq', cq', w7, hap2, ⟨u7, p3⟩, p4, p5⟩ := HP.out w6 a1 c1 r1 r2 r3
               replace hap2 := hd hap2
               replace p5 := hd p5
               clear r1 r2 r3)
            | (refine step_append_run (by rfl) _ _ _ (by rfl) _ _ _ _ (by rfl) (by rfl) hap2.out ?_; clear hap2))
        all_goals go_wp2_with fail
        all_goals go_ret
        all_goals exact ⟨rfl, p5.out⟩
      · have hlt : i < n := by omega
        have hltq : i < q.length := by rw [hN.out]; exact hlt
        have hRr := HR.out wr hMF
        obtain ⟨g, o', rfl, cx⟩ := hRr.int i hltq
        obtain ⟨x, hx⟩ : ∃ x, Hid (q.getD i 0 = x) := ⟨_, rfl⟩
        rw [hx.out] at cx
        have hxf : Fit64 x := HFT.out x (by rw [← hx.out, List.getD_eq_getElem?_getD, List.getElem?_eq_getElem hltq]; exact List.getElem_mem hltq)
        have hwt := waits_any hLr hxf
        rw [addQ_drop hltq, hx.out] at hQr
        have HNO : Hid (R = false → AddOut wc b m ao aq es os qs o q R wr) := hd (fun e => ⟨hMF, fun h => by rw [e] at h; cases h⟩)
        have HBD : Hid (badP qs o (q.take i) x = ((if x ∈ q.take i then some (os.length : Int) else wtI qs x).isSome || decide (x < 0) || decide (x = o))) := hd (by
          unfold badP wtI
          by_cases e : x ∈ q.take i
          · simp [e]
          · simp [e])
        obtain ⟨tv, htv⟩ : ∃ tv, Hid ((if x ∈ q.take i then some (os.length : Int) else wtI qs x).getD 0 = tv) := ⟨_, rfl⟩
        obtain ⟨tb, htb⟩ : ∃ tb, Hid ((if x ∈ q.take i then some (os.length : Int) else wtI qs x).isSome = tb) := ⟨_, rfl⟩
        rw [htv.out, htb.out] at hwt
        rw [htb.out] at HBD
        have HQR := hd hQr
        have HLR := hd hLr
        have HDR := hd hDr
        have HMR := hd hMr
        clear hQr hLr hDr hMr hMF HX hRr h0
        cases tb with
        | true =>
          obtain rfl : R = false := by rw [← HQR.out, HBD.out]; rfl
          clear HQR HBD HL HG HQ HR HFT HLR HDR HMR htv htb
          go_wp2_with (first | (go_at_call 174; refine hwt.mono ?_; rintro e3 w3 ⟨rfl, rfl⟩))
          go_ret
          exact ⟨rfl, HNO.out (by trivial)⟩
        | false =>
          by_cases hx0 : x < 0
          · obtain rfl : R = false := by rw [← HQR.out, HBD.out, if_pos (by simp [hx0])]
            clear HQR HBD HL HG HQ HR HFT HLR HDR HMR htv htb
            go_wp2_with (first | (go_at_call 174; refine hwt.mono ?_; rintro e3 w3 ⟨rfl, rfl⟩))
            go_ret
            exact ⟨rfl, HNO.out (by trivial)⟩
          · have hx0' : decide (x < 0) = false := by simpa using hx0
            by_cases hxo : x = o
            · obtain rfl : R = false := by rw [← HQR.out, HBD.out, if_pos (by simp [hxo])]
              subst hxo
              clear HQR HBD HL HG HQ HR HFT HLR HDR HMR htv htb hx0
              go_wp2_with (first | (go_at_call 174; refine hwt.mono ?_; rintro e3 w3 ⟨rfl, rfl⟩))
              go_ret
              exact ⟨rfl, HNO.out (by trivial)⟩
            · have hxo' : (x == o) = false := by simpa using hxo
              have hbf : badP qs o (q.take i) x = false := by rw [HBD.out]; simp [hx0, hxo]
              have c0 := HLR.out.lb.c0
              have c2 := HLR.out.lb.c2
              rw [hno.out] at c0
              have hd1 : Below wr.heap.size wr wr.drew := (Below.refl _ wr).drew
              obtain ⟨w4, hst, hM4, hA4⟩ := (HLR.out.below hd1).map.store (p := x) (v := (no : Int)) hxf ⟨by omega, by omega⟩ (by omega)
              rw [if_neg (by rw [htb.out]; simp)] at hA4
              have HE : Hid (AddI wc w4 b m ao co aq cq os es qs o q (i + 1) ∧ addQ qs o (q.take (i + 1)) (q.drop (i + 1)) = R) := hd (by
                have ht1 : q.take (i + 1) = q.take i ++ [x] := by rw [← hx.out, List.take_succ_eq_append_getElem hltq, List.getD_eq_getElem?_getD, List.getElem?_eq_getElem hltq]; rfl
                refine ⟨⟨?_, ((HMR.out.after hd1).trans hM4 (fun _ h => .inl h)), by rw [ht1]; exact HDR.out.push hbf⟩, ?_⟩
                · have := (HLR.out.below hd1).turn hM4 hA4
                  refine ⟨this.lb, ?_, this.ap⟩
                  have h5 := this.map.congr (f' := fun y => if y ∈ q.take (i + 1) then some (os.length : Int) else wtI qs y) (fun y => by
                    rw [hno.out]
                    by_cases e : y = x
                    · rw [if_pos e, if_pos (by rw [ht1, e]; simp)]
                    · rw [if_neg e]
                      by_cases e2 : y ∈ q.take i
                      · rw [if_pos e2, if_pos (by rw [ht1]; exact List.mem_append_left _ e2)]
                      · rw [if_neg e2, if_neg (by rw [ht1]; simp [e, e2])])
                  exact h5
                · have := HQR.out
                  rw [hbf] at this
                  simpa using this)
              clear HQR HBD HL HG HQ HR HFT HLR HDR HMR htv htb hx0 hxo hbf hM4 hA4 HNO hd1
              go_upto_region 9 with (first | (go_at_call 174; refine hwt.mono ?_; rintro e3 w3 ⟨rfl, rfl⟩))
              go_region
              all_goals go_wp2_with fail
              all_goals go_roundg (gk - 1)
              all_goals first | exact ⟨i + 1, by omega, by go_num, HE⟩ | omega
end Go.Proofs.YthhcecllejddeaaGreatDoor.Locks

namespace Go.Proofs.YthhcecllejddeaaGreatDoor.Locks
open Go.RowKit Go.Maps
structure RdQ (w : World) (a : Option Addr) (es : List Qe) : Prop where
 row : Rd w a (sC es)
 qs : ∀ i, i < es.length → Rd w (eAt es i).1 (iC (eAt es i).2.2)
theorem RdQ.below {w w' : World} {a : Option Addr} {es : List Qe} (h : RdQ w a es) (hb : Below w.heap.size w w') : RdQ w' a es := ⟨h.row.below hb, fun i hi => (h.qs i hi).below hb⟩
theorem RdQ.at' {w : World} {a : Option Addr} {es : List Qe} (h : RdQ w a es) (i : Nat) (hi : i < es.length) : ∃ g o, a = some ⟨g, o, none⟩ ∧ w.cell? ⟨g, o + i, none⟩ = some (.slice (eAt es i).1 (eAt es i).2.2.length (eAt es i).2.1) := by
 obtain ⟨g, o, h1, h2⟩ := h.row i _ (sC_at es i hi)
 exact ⟨g, o, h1, h2⟩
theorem _root_.Go.Proofs.YthhcecllejddeaaGreatDoor.Rd.old {w wr W : World} {a : Option Addr} {xs : List Value} {S : Nat → Prop} (h : Rd w a xs) (hb : Below w.heap.size w wr) (hS : ∀ k, S k → w.heap.size ≤ k) (hm : Mod S wr W) : Rd W a xs := fun j u hj => by
 obtain ⟨b, o, rfl, hc⟩ := h j u hj
 have hl := World.block_lt_of_cell? w _ hc
 have hl2 : b < w.heap.size := hl
 refine ⟨b, o, rfl, ?_⟩
 rw [hm.cell (p := ⟨b, o + j, none⟩) (Nat.lt_of_lt_of_le hl hb.size) (fun e => by have := hS b e; omega), hb.cell (p := ⟨b, o + j, none⟩) hl]
 exact hc
def LayOut (w : World) (os : List Int) (qs : Qs) (R : Bool) (e : Ending) (w' : World) : Prop :=
 Below w.heap.size w w' ∧ ((R = false ∧ e = .returned (.tuple #[.pointer none, .int .i64 4])) ∨ (R = true ∧ ∃ b F, e = .returned (.tuple #[.pointer (some ⟨b, 0, none⟩), .int .i64 0]) ∧ Lk w' b F os qs ∧ ∀ k, F k → w.heap.size ≤ k))
def LayI (w wr : World) (b m : Nat) (os : List Int) (qs : Qs) (i : Nat) : Prop :=
 GoodL (os.take i) (qs.take i) ∧ Below w.heap.size w wr ∧ ∃ ao co aq cq es, LM wr b m ao co aq cq (os.take i) es (wtI (qs.take i)) (total (qs.take i)) ∧ qsOf es = qs.take i ∧ ∀ k, mfp b m ao aq es k → w.heap.size ≤ k
theorem total_take' (qs : Qs) (i : Nat) : total (qs.take i) + (qAt qs i).length ≤ total qs := by
 induction qs generalizing i with
 | nil => simp [total, qAt]
 | cons q r ih =>
  cases i with
  | zero => simp [total, qAt]
  | succ i =>
   have := ih i
   simp [total, qAt] at *
   omega
theorem take_oAt {os : List Int} {i : Nat} (h : i < os.length) : os.take (i + 1) = os.take i ++ [oAt os i] := by
 rw [List.take_succ_eq_append_getElem h]
 unfold oAt
 rw [List.getD_eq_getElem?_getD, List.getElem?_eq_getElem h]
 rfl
theorem take_qAt {qs : Qs} {i : Nat} (h : i < qs.length) : qs.take (i + 1) = qs.take i ++ [qAt qs i] := by
 rw [List.take_succ_eq_append_getElem h]
 unfold qAt
 rw [List.getD_eq_getElem?_getD, List.getElem?_eq_getElem h]
 rfl
set_option maxRecDepth 100000 in
set_option maxHeartbeats 4000000 in
theorem lay_any {w : World} {a1 a2 : Option Addr} {n c1 c2 : Nat} {os : List Int} {ea : List Qe} (hR1 : Rd w a1 (iC os)) (hR2 : RdQ w a2 ea) (hN1 : Hid (os.length = n)) (hN2 : Hid (ea.length = n)) (h8 : n ≤ 8) (hf1 : ∀ o ∈ os, Fit64 o) (hf2 : ∀ i, ∀ p ∈ qAt (qsOf ea) i, Fit64 p) (ht : total (qsOf ea) < 6000000000000) :
  Calls Tryz.prog 103 #[.slice a1 n c1, .slice a2 n c2] w fun e w' => LayOut w os (qsOf ea) (layF [] os (qsOf ea)) e w' := by
 obtain ⟨qs, hqs⟩ : ∃ qs, Hid (qsOf ea = qs) := ⟨_, rfl⟩
 have HQA : Hid (∀ i, qAt qs i = (eAt ea i).2.2) := hd (fun i => by rw [← hqs.out, qAt_of])
 have HLQ : Hid (qs.length = n) := hd (by rw [← hqs.out, qsOf_len, hN2.out])
 rw [hqs.out] at ht hf2 ⊢
 obtain ⟨R, hR⟩ : ∃ R, Hid (layF [] os qs = R) := ⟨_, rfl⟩
 rw [hR.out]
 have HR1 := hd hR1
 have HR2 := hd hR2
 have HF1 := hd hf1
 have HF2 := hd hf2
 have hmm : (Instr.makeMap 201 none).run Tryz.prog w = .ok (.map (some w.heap.size)) (w.alloc (.map #[] 0)) := rfl
 have h1' : decide (8 < n) = false := by simpa using h8
 have h3' : ((n : Int) != (n : Int)) = false := by simp
 clear hR1 hR2 hf1 hf2
 go_enter Tryz.func103, Tryz.ntmps103
 go_upto_region 6 with fail
 obtain ⟨w1, hw1⟩ : ∃ W, Hid ((w.alloc (.map #[] 0)).alloc (.cells #[.slice none 0 0, .slice none 0 0, .map (some w.heap.size)] 203) = W) := ⟨_, rfl⟩
 have HS : Hid (LayI w w1 (w.heap.size + 1) w.heap.size os qs 0) := hd (by
  have hb1 := below_al w (.map #[] 0)
  have hb2 := below_al (w.alloc (.map #[] 0)) (.cells #[.slice none 0 0, .slice none 0 0, .map (some w.heap.size)] 203)
  have hobj := heap_alloc_new (w.alloc (.map #[] 0)) (.cells #[.slice none 0 0, .slice none 0 0, .map (some w.heap.size)] 203)
  have hsz : (w.alloc (.map #[] 0)).heap.size = w.heap.size + 1 := by simp
  rw [hsz] at hobj
  rw [hw1.out] at hobj hb2
  have hfp : ∀ k, mfp (w.heap.size + 1) w.heap.size none none [] k → w.heap.size ≤ k := fun k hk => by
   rcases hk with hk | hk | hk | hk | ⟨i, hi, hk⟩
   ·omega
   ·omega
   ·cases hk
   ·cases hk
   ·simp at hi
  refine ⟨GoodL.nil, hb1.trans (hb2.mono (by omega)), none, 0, none, 0, [], ⟨⟨hobj, Row.nil, Row.nil, (fun i hi => by simp at hi), (fun e => by cases e), (fun e => by cases e), (fun k hk => by cases hk), (fun i hi => by simp at hi), (fun i j hi => by simp at hi)⟩, ?_, fun e => ?_⟩, rfl, hfp⟩
  ·have := (MapAt.new w).below (w' := w1) hb2
   exact this.congr (fun p => rfl)
  ·rcases e with e | e | e | ⟨i, hi, e⟩
   ·omega
   ·cases e
   ·cases e
   ·simp at hi)
 have hsz : (w.alloc (.map #[] 0)).heap.size = w.heap.size + 1 := by simp
 try simp only [hsz]
 rw [hw1.out]
 obtain ⟨b, hb⟩ : ∃ b, Hid (w.heap.size + 1 = b) := ⟨_, rfl⟩
 obtain ⟨m, hm⟩ : ∃ m, Hid (w.heap.size = m) := ⟨_, rfl⟩
 have HS2 : Hid (LayI w w1 b m os qs 0) := hd (by
  have := HS.out
  rw [hb.out] at this
  rw [← hm.out]
  exact this)
 rw [hb.out]
 clear HS hmm hsz hw1
 go_wp2_with fail
 go_loopg [7, 8, 27, 28, 29, 30, 31, 32, 33, 34, 35, 36, 37, 38, 39, 40] n (fun k v7 v8 v27 v28 v29 v30 v31 v32 v33 v34 v35 v36 v37 v38 v39 v40 wr => ∃ i : Nat, i + k = n ∧ v27 = .int .i64 (i : Int) ∧ Hid (LayI w wr b m os qs i ∧ layF (qs.take i) (os.drop i) (qs.drop i) = R))
 case atStart => exact ⟨0, by omega, by go_num, hd ⟨HS2.out, by simpa using hR.out⟩⟩
 case round =>
  obtain ⟨i, hik, rfl, HX⟩ := hrel
  clear HS2 hR
  obtain ⟨⟨hGr, hBr, ao, co, aq, cq, es, hLr, hqr, hfr⟩, hFr⟩ := HX.out
  by_cases h0 : gk = 0
  ·subst h0
   have hi : i = n := by omega
   subst hi
   have HE : Hid (LayOut w os qs R (.returned (.tuple #[.pointer (some ⟨b, 0, none⟩), .int .i64 0])) wr) := hd (by
    rw [layF_end (by rw [hN1.out]; omega)] at hFr
    have t1 : os.take i = os := List.take_of_length_le (by rw [hN1.out]; omega)
    have t2 : qs.take i = qs := List.take_of_length_le (by rw [HLQ.out]; omega)
    rw [t1, t2] at hGr hLr
    rw [t2] at hqr
    exact ⟨hBr, .inr ⟨hFr.symm, b, mfp b m ao aq es, rfl, ⟨hGr, m, ao, co, aq, cq, es, hLr, hqr, fun _ h => h, hLr.lt⟩, hfr⟩⟩)
   clear HX hGr hBr hLr hqr hfr hFr hik HR1 HR2 HF1 HF2 HLQ HQA
   go_wp2_with fail
   go_ret2
   exact HE.out
  ·have hlt : i < n := by omega
   obtain ⟨g1, o1, rfl, e1⟩ := (HR1.out.below hBr).int i (by rw [hN1.out]; exact hlt)
   obtain ⟨g2, o2, rfl, e2⟩ := (HR2.out.below hBr).at' i (by rw [hN2.out]; exact hlt)
   have hoe : os.getD i 0 = oAt os i := by
    unfold oAt
    rw [List.getD_eq_getElem?_getD, List.getD_eq_getElem?_getD, List.getElem?_eq_getElem (by rw [hN1.out]; exact hlt)]
    rfl
   rw [hoe] at e1
   rw [layF_drop (by rw [hN1.out]; exact hlt) (by rw [hN1.out, HLQ.out])] at hFr
   have hfo := HF1.out (oAt os i) (oAt_mem (by rw [hN1.out]; exact hlt))
   have hrd : ∀ W, Mod (mfp b m ao aq es) wr W → Rd W (eAt ea i).1 (iC (qAt qs i)) := fun W hW => by
    rw [HQA.out i]
    exact (HR2.out.qs i (by rw [hN2.out]; exact hlt)).old hBr hfr hW
   obtain ⟨ln, hLN⟩ : ∃ ln, Hid ((qAt qs i).length = ln) := ⟨_, rfl⟩
   have htt := total_take' qs i
   have hln : (os.take i).length = i := by rw [List.length_take, hN1.out]; omega
   have had := add_any (c := (eAt ea i).2.1) hLr hGr hqr (by rw [hln]; omega) hrd hLN (HF2.out i) hfo (by rw [← hLN.out]; omega)
   rw [← HQA.out i, hLN.out] at e2
   obtain ⟨A, hA⟩ : ∃ A, Hid (addOk (qs.take i) (oAt os i) (qAt qs i) = A) := ⟨_, rfl⟩
   rw [hA.out] at had hFr
   have HTO := hd (take_oAt (os := os) (i := i) (by rw [hN1.out]; exact hlt))
   have HTQ := hd (take_qAt (qs := qs) (i := i) (by rw [HLQ.out]; exact hlt))
   obtain ⟨ov, hov⟩ : ∃ ov, Hid (oAt os i = ov) := ⟨_, rfl⟩
   rw [hov.out] at e1 had HTO
   have HBL : Hid (∀ w', AddOut wr b m ao aq es (os.take i) (qs.take i) ov (qAt qs i) A w' → Below w.heap.size w w') := hd (fun w' h => hBr.trans (h.1.below hBr.size (fun k _ hk => hfr k hk)))
   have HFR := hd hfr
   have HBR := hd hBr
   have HFRR := hd hFr
   clear HX hGr hBr hLr hqr hfr hFr HR1 HR2 HF1 HF2 hrd htt hln hfo hoe h0
   cases A with
   | false =>
    obtain rfl : R = false := by rw [← HFRR.out]; rfl
    have HE : Hid (∀ w', AddOut wr b m ao aq es (os.take i) (qs.take i) ov (qAt qs i) false w' → LayOut w os qs false (.returned (.tuple #[.pointer none, .int .i64 4])) w') := hd (fun w' h => ⟨HBL.out w' h, .inl ⟨rfl, rfl⟩⟩)
    clear HFRR HBL HFR HBR HTO HTQ
    go_wp2_with (first | (go_at_call 129; refine had.mono ?_; rintro e3 w3 ⟨rfl, ho3⟩))
    go_ret2
    exact HE.out _ ho3
   | true =>
    have HE : Hid (∀ w', AddOut wr b m ao aq es (os.take i) (qs.take i) ov (qAt qs i) true w' → LayI w w' b m os qs (i + 1) ∧ layF (qs.take (i + 1)) (os.drop (i + 1)) (qs.drop (i + 1)) = R) := hd (fun w' h => by
     have hb := HBL.out w' h
     obtain ⟨h1, h2⟩ := h
     obtain ⟨h3, ao', co', aq', cq', es', h4, h5, h6⟩ := h2 rfl
     refine ⟨?_, HFRR.out⟩
     unfold LayI
     rw [HTO.out, HTQ.out]
     refine ⟨h3, hb, ao', co', aq', cq', es', h4, h5, fun k hk => ?_⟩
     rcases h6 k hk with h7 | h7
     ·exact HFR.out k h7
     ·exact Nat.le_trans HBR.out.size h7)
    clear HFRR HBL HFR HBR HTO HTQ
    go_wp2_with (first | (go_at_call 129; refine had.mono ?_; rintro e3 w3 ⟨rfl, ho3⟩))
    go_roundg (gk - 1)
    case rel => exact ⟨i + 1, by omega, by go_num, hd (HE.out _ ho3)⟩
    case measure => omega
end Go.Proofs.YthhcecllejddeaaGreatDoor.Locks

namespace Go.Proofs.YthhcecllejddeaaGreatDoor.Locks
open Go.RowKit Go.Maps
set_option maxRecDepth 100000 in
set_option maxHeartbeats 2000000 in
theorem mul64_any (n : Nat) (h : n ≤ 8) (w : World) : Calls Tryz.prog 135 #[.int .u64 1, .int .u64 (n : Int)] w fun e w' => e = .returned (.tuple #[.int .u64 0, .int .u64 (n : Int)]) ∧ w' = w := by
 rcases (by omega : n = 0 ∨ n = 1 ∨ n = 2 ∨ n = 3 ∨ n = 4 ∨ n = 5 ∨ n = 6 ∨ n = 7 ∨ n = 8) with rfl | rfl | rfl | rfl | rfl | rfl | rfl | rfl | rfl
 all_goals clear h
 all_goals go_enter Tryz.func135, Tryz.ntmps135
 all_goals go_wp2
 all_goals go_ret2
 all_goals exact ⟨rfl, rfl⟩
theorem mul_any (n : Nat) (h : n ≤ 8) (w : World) : Calls Tryz.prog 106 #[.int .u64 1, .int .u64 (n : Int)] w fun e w' => e = .returned (.tuple #[.int .u64 0, .int .u64 (n : Int)]) ∧ w' = w := by
 have hm := mul64_any n h w
 go_enter Tryz.func106, Tryz.ntmps106
 go_wp2_with (first | (go_at_call 135; refine hm.mono ?_; rintro e3 w3 ⟨rfl, rfl⟩))
 go_ret2
 exact ⟨rfl, rfl⟩
theorem copy_part {w : World} {G n : Nat} {l : List Int} (h : Row w 3 1 (some ⟨G, 0, none⟩) n n (iC l)) (o dLen dCap sLen sCap : Nat) (g2 o2 : Nat) (xs : List Int) (hx : xs.length = Nat.min sLen dLen) (hs : Rd w (some ⟨g2, o2, none⟩) (iC xs)) (hfit : o + xs.length ≤ n) :
  ∃ w', (∀ ty, (Builtin.copy_ #[24, 24] ty #[.slice (some ⟨G, o, none⟩) dLen dCap, .slice (some ⟨g2, o2, none⟩) sLen sCap]).run Tryz.prog w = .ok (.int .i64 (xs.length : Int)) w') ∧ Row w' 3 1 (some ⟨G, 0, none⟩) n n (iC (l.take o ++ xs ++ l.drop (o + xs.length))) ∧ Mod (fun k => k = G) w w' := by
 have hll := h.len
 rw [iC_len] at hll
 obtain ⟨h1, h2, h3, ⟨h4, _⟩ | ⟨g', cur, h4, h5, h6, h7⟩⟩ := h
 ·cases h4
 ·cases h4
  rw [Nat.mul_one] at h6 h7
  have hc := fun ty => run_copy_sz (P := Tryz.prog) w 24 24 ty 3 1 G o dLen dCap ⟨g2, o2, none⟩ sLen sCap cur 3 (iC xs) Tryz.underlying24 (by kernel_rfl) h5 (by rw [iC_len, hx]) (fun j v hj => by
   obtain ⟨b', o', e1, e2⟩ := hs j v hj
   cases e1
   rw [addr_add]
   exact e2) (by rw [iC_len]; omega) (iC_one _)
  rw [← hx] at hc
  refine ⟨_, hc, ?_, (Mod.refl (fun k => k = G) w).setRow (.inl rfl) _⟩
  have hio : (iC xs).length = xs.length := by rw [iC_len]; omega
  have ho : (cur.toList.take o).length = o := by rw [List.length_take, Array.length_toList]; omega
  refine ⟨by rw [iC_len, List.length_append, List.length_append, List.length_take, List.length_drop]; omega, Nat.le_refl _, h3, .inr ⟨G, _, rfl, setRow_heap _ _ _ _ _ _ h5, ?_, ?_⟩⟩
  ·simp only [List.size_toArray, List.length_append, List.length_drop, Array.length_toList, hio, ho]
   omega
  ·rw [Nat.mul_one]
   show (cur.toList.take o ++ iC xs ++ cur.toList.drop (o + (iC xs).length)).take n = _
   rw [iC_app, iC_app, ← iC_take, ← iC_drop, ← h7, hio, List.take_take, List.drop_take, Nat.min_eq_left (by omega : o ≤ n), List.take_append, List.take_of_length_le (by rw [List.length_append]; omega)]
   congr 2
   rw [List.length_append]
   omega
theorem rep_join {k m : Nat} {l : List Int} (hk : l.take k = List.replicate k (-1)) : (l.take k ++ List.replicate m (-1) ++ l.drop (k + m)).take (k + m) = List.replicate (k + m) (-1) := by
 rw [hk, List.replicate_append_replicate, List.take_append_of_le_length (by simp), List.take_of_length_le (by simp)]
end Go.Proofs.YthhcecllejddeaaGreatDoor.Locks

namespace Go.Proofs.YthhcecllejddeaaGreatDoor.Locks
open Go.RowKit Go.Maps
set_option maxRecDepth 100000 in
set_option maxHeartbeats 2000000 in
theorem repeat_row {w : World} {gx n : Nat} (hx : w.cell? ⟨gx, 0, none⟩ = some (.int .i64 (-1))) (h8 : n ≤ 8) :
  Calls Tryz.prog 80 #[.slice (some ⟨gx, 0, none⟩) 1 1, .int .i64 (n : Int)] w fun e w' => ∃ a c, e = .returned (.slice a n c) ∧ Row w' 3 1 a n c (iC (List.replicate n (-1))) ∧ (∀ k, blk a = some k → w.heap.size ≤ k) ∧ Below w.heap.size w w' := by
 have hmu := mul_any n h8 w
 have hmk := make_eq 24 3 _ 1 8 Tryz.underlying24 infoN n (by omega) (by unfold maxLen; omega) w
 obtain ⟨w1, hw1⟩ : ∃ W, Hid (w.alloc (.cells (madeCells (Value.int .i64 0).cells (n * 1)) 3) = W) := ⟨_, rfl⟩
 rw [hw1.out] at hmk
 have hB1 : Below w.heap.size w w1 := by rw [← hw1.out]; exact below_al w _
 have hh := heap_alloc_new w (.cells (madeCells (Value.int .i64 0).cells (n * 1)) 3)
 rw [hw1.out] at hh
 have hms : (madeCells (Value.int .i64 0).cells (n * 1)).size = n * 1 := by simp [madeCells]
 have hrow : Row w1 3 1 (some ⟨w.heap.size, 0, none⟩) n n (iC (List.replicate n 0)) := by
  have hr := row_new (size := 1) (n := n) hh hms (by unfold maxLen; omega)
  have e : (madeCells (Value.int .i64 0).cells (n * 1)).toList = iC (List.replicate n 0) := by
   apply List.ext_getElem?
   intro i
   unfold madeCells
   by_cases h : i < n
   ·simp [iC, Value.cells, h, Nat.mod_one]
   ·simp [iC, Value.cells, h, Nat.mod_one]
  rwa [e] at hr
 have hxl : gx < w.heap.size := World.block_lt_of_cell? w _ hx
 have hx1 : Rd w1 (some ⟨gx, 0, none⟩) (iC [-1]) := fun j u hj => by
  have : j = 0 := by
   rcases j with _ | j
   ·rfl
   ·simp [iC] at hj
  subst this
  simp [iC] at hj
  subst hj
  exact ⟨gx, 0, rfl, (hB1.cell (p := ⟨gx, 0, none⟩) hxl).trans hx⟩
 obtain ⟨G, hG⟩ : ∃ G, Hid (w.heap.size = G) := ⟨_, rfl⟩
 rw [hG.out] at hmk hrow
 by_cases h0 : n = 0
 ·subst h0
  have hcp := fun ty => run_copy_zero (P := Tryz.prog) w1 24 24 ty 3 1 (some ⟨G, 0, none⟩) (some ⟨gx, 0, none⟩) 0 0 1 1 Tryz.underlying24 (by kernel_rfl) (by rfl)
  have hcp : ∀ ty, (Builtin.copy_ #[24, 24] ty #[.slice (some ⟨G, 0, none⟩) 0 0, .slice (some ⟨gx, 0, none⟩) 1 1]).run Tryz.prog w1 = .ok (.int .i64 0) w1 := hcp
  have hmk : (Instr.makeSlice 24 (.int .i64 0) (.int .i64 0)).run Tryz.prog w = .ok (.slice (some ⟨G, 0, none⟩) 0 0) w1 := hmk
  have HE := hd hB1
  have HR0 : Hid (Row w1 3 1 (some ⟨G, 0, none⟩) 0 0 (iC (List.replicate 0 (-1)))) := hd hrow
  clear hrow hx1 hms hh hB1 hw1
  go_enter Tryz.func80, Tryz.ntmps80
  go_wp2_with (first | (go_at_call 106; refine hmu.mono ?_; rintro e3 w3 ⟨rfl, rfl⟩))
  go_loopg [8, 34, 35, 36, 37, 38, 39, 40, 41, 42, 43, 44, 45, 46] 0 (fun j v8 v34 v35 v36 v37 v38 v39 v40 v41 v42 v43 v44 v45 v46 wr => v8 = .int .i64 0 ∧ wr = w1)
  case atStart => exact ⟨rfl, rfl⟩
  case round =>
   obtain ⟨rfl, rfl⟩ := hrel
   go_wp2_with fail
   go_ret
   exact ⟨_, _, rfl, HR0.out, fun k hk => by cases hk; rw [← hG.out]; exact Nat.le_refl _, HE.out⟩
 ·obtain ⟨w2, hcp, hr2, hm2⟩ := copy_part hrow 0 n n 1 1 gx 0 [-1] (show [(-1 : Int)].length = Nat.min 1 n from (Nat.min_eq_left (show 1 ≤ n by omega)).symm) hx1 (by simp; omega)
  have hcp : ∀ ty, (Builtin.copy_ #[24, 24] ty #[.slice (some ⟨G, 0, none⟩) n n, .slice (some ⟨gx, 0, none⟩) 1 1]).run Tryz.prog w1 = .ok (.int .i64 1) w2 := hcp
  have HB2 : Hid (Below w.heap.size w w2) := hd (hB1.trans (hm2.below hB1.size (fun k _ e => by rw [e, hG.out]; exact Nat.le_refl _)))
  have HR2 : Hid (∃ l, Row w2 3 1 (some ⟨G, 0, none⟩) n n (iC l) ∧ l.take 1 = List.replicate 1 (-1)) := hd ⟨_, hr2, by simp⟩
  clear hrow hx1 hms hh hB1 hw1 hr2 hm2
  go_enter Tryz.func80, Tryz.ntmps80
  go_wp2_with (first | (go_at_call 106; refine hmu.mono ?_; rintro e3 w3 ⟨rfl, rfl⟩))
  go_loopg [8, 34, 35, 36, 37, 38, 39, 40, 41, 42, 43, 44, 45, 46] n (fun j v8 v34 v35 v36 v37 v38 v39 v40 v41 v42 v43 v44 v45 v46 wr => ∃ k : Nat, n ≤ k + j ∧ k ≤ n ∧ 0 < k ∧ v8 = .int .i64 (k : Int) ∧ Hid (Below w3.heap.size w3 wr ∧ ∃ l, Row wr 3 1 (some ⟨G, 0, none⟩) n n (iC l) ∧ l.take k = List.replicate k (-1)))
  case atStart => exact ⟨1, by omega, by omega, by omega, by go_num, hd ⟨HB2.out, HR2.out⟩⟩
  case round =>
   obtain ⟨k, hkj, hkn, hk0, rfl, HX⟩ := hrel
   obtain ⟨hBr, l, hRr, hlr⟩ := HX.out
   clear HB2 HR2 hcp hmk hmu
   by_cases hlt : k < n
   ·have hd1 : Below wr.heap.size wr wr.drew := (Below.refl _ wr).drew
    have hM0 : Nat.min k (n - k) ≤ n - k := Nat.min_le_right _ _
    have hM1 : Nat.min k (n - k) ≤ k := Nat.min_le_left _ _
    have hM2 : 0 < Nat.min k (n - k) := by rw [Nat.lt_min]; omega
    obtain ⟨M, hM⟩ : ∃ M, Hid (Nat.min k (n - k) = M) := ⟨_, rfl⟩
    rw [hM.out] at hM0 hM1 hM2
    have hsrc : Rd wr.drew (some ⟨G, 0, none⟩) (iC (List.replicate M (-1))) := by
     have h1 := (hRr.below hd1).rd
     have e : List.replicate M (-1 : Int) = l.take M := by
      have : (l.take k).take M = (List.replicate k (-1 : Int)).take M := by rw [hlr]
      rw [List.take_take, Nat.min_eq_left hM1, List.take_replicate, Nat.min_eq_left hM1] at this
      exact this.symm
     rw [e, ← iC_take]
     intro j u hj
     rw [List.getElem?_take] at hj
     split at hj
     ·exact h1 j u hj
     ·cases hj
    obtain ⟨w4, hcp, hr4, hm4⟩ := copy_part (hRr.below hd1) k (n - k) (n - k) k n G 0 (List.replicate M (-1)) (by rw [List.length_replicate]; exact hM.out.symm) hsrc (by rw [List.length_replicate]; omega)
    rw [List.length_replicate] at hcp hr4
    have hnk : ¬ n = k := by omega
    have HE : Hid (Below w3.heap.size w3 w4 ∧ ∃ l, Row w4 3 1 (some ⟨G, 0, none⟩) n n (iC l) ∧ l.take (k + M) = List.replicate (k + M) (-1)) := hd (by
     have b1 := hBr.trans (hd1.mono hBr.size)
     exact ⟨b1.trans (hm4.below b1.size (fun j _ e => by rw [e, ← hG.out]; exact Nat.le_refl _)), _, hr4, rep_join hlr⟩)
    clear HX hBr hRr hlr hr4 hm4 hsrc hd1
    go_upto_region 9 with fail
    go_region
    all_goals go_wp2_with fail
    all_goals go_roundg (n - (k + M))
    all_goals first | exact ⟨k + M, by omega, by omega, by omega, by go_num, HE⟩ | omega
   ·obtain rfl : k = n := by omega
    have HE : Hid (Row wr 3 1 (some ⟨G, 0, none⟩) k k (iC (List.replicate k (-1))) ∧ (∀ j, blk (some (⟨G, 0, none⟩ : Addr)) = some j → w3.heap.size ≤ j) ∧ Below w3.heap.size w3 wr) := hd (by
     refine ⟨?_, fun j hj => by cases hj; rw [← hG.out]; exact Nat.le_refl _, hBr⟩
     have hl := hRr.len
     rw [iC_len] at hl
     rw [← hlr, List.take_of_length_le (by omega)]
     exact hRr)
    clear HX hBr hRr hlr hlt
    go_wp2_with fail
    go_ret
    exact ⟨_, _, rfl, HE.out⟩
end Go.Proofs.YthhcecllejddeaaGreatDoor.Locks
