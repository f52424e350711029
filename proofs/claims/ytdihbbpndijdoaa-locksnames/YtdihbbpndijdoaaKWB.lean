/- add. -/
import Derived.Test.YtdihbbpndijdoaaKM3
import Derived.Test.YtdihbbpndijdoaaKWA
namespace Go.Proofs.Ytdihbbpndijdoaa
open Go.RowKit Go.Maps

section
variable {w w' : World} {b m : Nat} {ao : Option Addr} {co : Nat} {aq : Option Addr} {cq : Nat} {os : List Int} {es : List Qe} {f : Int → Option Int} {n : Nat}
theorem LM.pushO (h : LM w b m ao co aq cq os es f n) {w2 : World} (hm : Mod (fun k => blk ao = some k) w w2) {ao' : Option Addr} {co' : Nat} {v : Int} (hR : Row w2 3 1 ao' (os.length + 1) co' (iC os ++ iC [v])) (hn : ∀ k, blk ao' = some k → blk ao = some k ∨ w.heap.size ≤ k) :
    LM (w2.setCell ⟨b, 0, none⟩ (.slice ao' (os.length + 1) co')) b m ao' co' aq cq (os ++ [v]) es f n ∧ Mod (mfp b m ao aq es) w (w2.setCell ⟨b, 0, none⟩ (.slice ao' (os.length + 1) co')) ∧ ∀ k, mfp b m ao' aq es k → mfp b m ao aq es k ∨ w.heap.size ≤ k := by
  have hm2 : Mod (fun k => k = b) w2 (w2.setCell ⟨b, 0, none⟩ (.slice ao' (os.length + 1) co')) := (Mod.refl (fun k => k = b) w2).setCell (.inl rfl) _
  have hnn : ∀ k, lfp b ao' aq es k → lfp b ao aq es k ∨ w.heap.size ≤ k := fun k hk => by
    rcases hk with hk | hk | hk | hk
    · exact .inl (.inl hk)
    · rcases hn k hk with h1 | h1
      · exact .inl (.inr (.inl h1))
      · exact .inr h1
    · exact .inl (.inr (.inr (.inl hk)))
    · exact .inl (.inr (.inr (.inr hk)))
  refine ⟨⟨h.lb.pushO hm hR hn, (h.map.mod hm (fun e => h.ap (.inr (.inl e)))).mod hm2 (fun e => h.ap (.inl e)), fun e => ?_⟩, (hm.mono (fun k _ hk => .inr (.inr (.inl hk)))).trans hm2 (fun k hk => .inl (.inr (.inl hk))), fun k hk => ?_⟩
  · rcases hnn m e with h1 | h1
    · exact h.ap h1
    · have := h.map.lt; omega
  · rcases hk with hk | hk
    · exact .inl (.inl hk)
    · rcases hnn k hk with h1 | h1
      · exact .inl (.inr h1)
      · exact .inr h1
theorem LM.pushQ (h : LM w b m ao co aq cq os es f n) {w2 : World} (hm : Mod (fun k => blk aq = some k) w w2) {aq' : Option Addr} {cq' : Nat} {e' : Qe} (hR : Row w2 33 1 aq' (es.length + 1) cq' (sC es ++ sC [e'])) (hn : ∀ k, blk aq' = some k → blk aq = some k ∨ w.heap.size ≤ k) (hq : Qw w2 e') (hne : ∀ k, blk e'.1 = some k → w.heap.size ≤ k ∧ blk aq' ≠ some k) :
    LM (w2.setCell ⟨b, 1, none⟩ (.slice aq' (es.length + 1) cq')) b m ao co aq' cq' os (es ++ [e']) f n ∧ Mod (mfp b m ao aq es) w (w2.setCell ⟨b, 1, none⟩ (.slice aq' (es.length + 1) cq')) ∧ ∀ k, mfp b m ao aq' (es ++ [e']) k → mfp b m ao aq es k ∨ w.heap.size ≤ k := by
  have hm2 : Mod (fun k => k = b) w2 (w2.setCell ⟨b, 1, none⟩ (.slice aq' (es.length + 1) cq')) := (Mod.refl (fun k => k = b) w2).setCell (.inl rfl) _
  have hnn : ∀ k, lfp b ao aq' (es ++ [e']) k → lfp b ao aq es k ∨ w.heap.size ≤ k := fun k hk => by
    rcases hk with hk | hk | hk | ⟨i, hi, hk⟩
    · exact .inl (.inl hk)
    · exact .inl (.inr (.inl hk))
    · rcases hn k hk with h1 | h1
      · exact .inl (.inr (.inr (.inl h1)))
      · exact .inr h1
    · simp only [List.length_append, List.length_singleton] at hi
      rw [eAt_app hi] at hk
      split at hk
      · exact .inr (hne k hk).1
      · exact .inl (.inr (.inr (.inr ⟨i, by omega, hk⟩)))
  refine ⟨⟨h.lb.pushQ hm hR hn hq hne, (h.map.mod hm (fun e => h.ap (.inr (.inr (.inl e))))).mod hm2 (fun e => h.ap (.inl e)), fun e => ?_⟩, (hm.mono (fun k _ hk => .inr (.inr (.inr (.inl hk))))).trans hm2 (fun k hk => .inl (.inr (.inl hk))), fun k hk => ?_⟩
  · rcases hnn m e with h1 | h1
    · exact h.ap h1
    · have := h.map.lt; omega
  · rcases hk with hk | hk
    · exact .inl (.inl hk)
    · rcases hnn k hk with h1 | h1
      · exact .inl (.inr h1)
      · exact .inr h1
end

/-- What add leaves. -/
def AddOut (w : World) (b m : Nat) (ao aq : Option Addr) (es : List Qe) (os : List Int) (qs : Qs) (o : Int) (q : List Int) (R : Bool) (w' : World) : Prop :=
  Mod (mfp b m ao aq es) w w' ∧ (R = true → GoodL (os ++ [o]) (qs ++ [q]) ∧ ∃ ao' co' aq' cq' es', LM w' b m ao' co' aq' cq' (os ++ [o]) es' (wtI (qs ++ [q])) (total (qs ++ [q])) ∧ qsOf es' = qs ++ [q] ∧ ∀ k, mfp b m ao' aq' es' k → mfp b m ao aq es k ∨ w.heap.size ≤ k)

theorem take_mem {q : List Int} {i : Nat} {x : Int} (hi : i < q.length) : x ∈ q.take (i + 1) ↔ x ∈ q.take i ∨ x = q.getD i 0 := by
  rw [List.take_succ_eq_append_getElem hi, List.mem_append, List.getD_eq_getElem?_getD, List.getElem?_eq_getElem hi]
  simp

/-- Within add: the first i of who waits are laid into the map. -/
def AddI (w wr : World) (b m : Nat) (ao : Option Addr) (co : Nat) (aq : Option Addr) (cq : Nat) (os : List Int) (es : List Qe) (qs : Qs) (o : Int) (q : List Int) (i : Nat) : Prop :=
  LM wr b m ao co aq cq os es (fun x => if x ∈ q.take i then some (os.length : Int) else wtI qs x) (total qs + i) ∧ Mod (fun k => k = m) w wr ∧ GoodD qs o (q.take i)

set_option maxRecDepth 100000 in
set_option maxHeartbeats 4000000 in
theorem add_any {w : World} {b m : Nat} {ao : Option Addr} {co : Nat} {aq : Option Addr} {cq : Nat} {os : List Int} {es : List Qe} {qs : Qs} (h : LM w b m ao co aq cq os es (wtI qs) (total qs)) (hG : GoodL os qs) (hq : qsOf es = qs) (h8 : os.length < 8)
    {a : Option Addr} {n c : Nat} {q : List Int} {o : Int} (hR : ∀ W, Mod (mfp b m ao aq es) w W → Rd W a (iC q)) (hN : Hid (q.length = n)) (hf : ∀ p ∈ q, Fit64 p) (ho : Fit64 o) (ht : total qs + n < 6000000000000) :
    Calls Try.prog 24 #[.pointer (some ⟨b, 0, none⟩), .int .i64 o, .slice a n c] w fun e w' => e = .returned (.bool (addOk qs o q)) ∧ AddOut w b m ao aq es os qs o q (addOk qs o q) w' := by
  have HL := hd h
  have HG := hd hG
  have HQ := hd hq
  have HR := hd hR
  have HFT := hd hf
  obtain ⟨R, hRes⟩ : ∃ R, Hid (addOk qs o q = R) := ⟨_, rfl⟩
  rw [hRes.out]
  have HNO : Hid (R = false → AddOut w b m ao aq es os qs o q R w) := hd (fun e => ⟨Mod.refl _ _, fun h => by rw [e] at h; cases h⟩)
  clear h hG hq hR hf
  by_cases h1 : o < -1
  · obtain rfl : R = false := by rw [← hRes.out]; unfold addOk; rw [if_pos (.inl h1)]
    clear HL HG HQ HR HFT hRes
    go_enter Try.func24, Try.ntmps24
    go_wp2_with fail
    go_ret
    exact ⟨rfl, HNO.out (by trivial)⟩
  have h1' : decide (o < -1) = false := by simpa using h1
  by_cases h2 : o = -1 ∧ 0 < n
  · obtain ⟨rfl, h3⟩ := h2
    obtain rfl : R = false := by rw [← hRes.out]; unfold addOk; rw [if_pos (.inr ⟨rfl, by rw [hN.out]; exact h3⟩)]
    clear HL HG HQ HR HFT hRes h1 h1'
    go_enter Try.func24, Try.ntmps24
    go_wp2_with fail
    go_ret
    exact ⟨rfl, HNO.out (by trivial)⟩
  have hRE : Hid (addQ qs o [] q = R) := hd (by rw [← hRes.out]; unfold addOk; rw [if_neg (by rw [hN.out]; omega)])
  obtain ⟨no, hno⟩ : ∃ no, Hid (os.length = no) := ⟨_, rfl⟩
  rw [hno.out] at h8
  have HS : Hid (AddI w w b m ao co aq cq os es qs o q 0) := hd ⟨⟨HL.out.lb, HL.out.map.congr (fun x => by rw [List.take_zero, if_neg (List.not_mem_nil)]), HL.out.ap⟩, Mod.refl _ _, by rw [List.take_zero]; exact GoodD.nil _ _⟩
  have HCD := hd h2
  clear hRes h1 HNO h2
  go_enter Try.func24, Try.ntmps24
  go_upto_region 1 with fail
  go_cut [11, 12, 13, 14, 15, 16, 17, 18, 19, 20, 21] (fun v11 v12 v13 v14 v15 v16 v17 v18 v19 v20 v21 wy => v21 = .bool false ∧ wy = w)
  case first =>
    by_cases e : o = -1
    · have h3 : ¬ 0 < n := fun h3 => HCD.out ⟨e, h3⟩
      obtain rfl : n = 0 := by omega
      subst e
      clear HL HG HQ HR HFT hRE HCD h3 HS hno
      go_wp2_with fail
      go_meet
      case rel => exact ⟨by trivial, by trivial⟩
    · have e' : (o == -1) = false := by simpa using e
      clear HL HG HQ HR HFT hRE HCD HS hno e
      go_wp2_with fail
      go_meet
      case rel => exact ⟨by trivial, by trivial⟩
  case rest =>
    obtain ⟨rfl, rfl⟩ := hcut
    have HO1 : Hid (-1 ≤ o) := hd (by have := h1'; simp at this; omega)
    clear HCD h1'
    go_wp2_with fail
    go_loopg [8, 9, 10, 24, 25, 26, 27, 28, 29, 30, 31, 32, 33, 34, 35, 36, 37, 38, 39, 40, 41, 42, 43, 44, 45, 46, 47, 48, 49, 50, 51, 52, 53, 54] n (fun k v8 v9 v10 v24 v25 v26 v27 v28 v29 v30 v31 v32 v33 v34 v35 v36 v37 v38 v39 v40 v41 v42 v43 v44 v45 v46 v47 v48 v49 v50 v51 v52 v53 v54 wr => ∃ i : Nat, i + k = n ∧ v24 = .int .i64 (i : Int) ∧ Hid (AddI wc wr b m ao co aq cq os es qs o q i ∧ addQ qs o (q.take i) (q.drop i) = R))
    case atStart => exact ⟨0, by omega, by go_num, hd ⟨HS.out, by simpa using hRE.out⟩⟩
    case round =>
      obtain ⟨i, hik, rfl, HX⟩ := hrel
      clear HS hRE
      obtain ⟨⟨hLr, hMr, hDr⟩, hQr⟩ := HX.out
      have hMF : Mod (mfp b m ao aq es) wc wr := hMr.mono (fun k _ hk => .inl hk)
      by_cases h0 : gk = 0
      · subst h0
        have hi : i = n := by omega
        subst hi
        have htk : q.take i = q := List.take_of_length_le (by rw [hN.out]; omega)
        obtain rfl : R = true := by rw [← hQr, List.drop_of_length_le (by rw [hN.out]; omega)]; rfl
        rw [htk] at hLr hDr
        have hfa : -1 ≤ o ∧ o ≤ 9223372036854775807 := ⟨HO1.out, ho.2⟩
        have hGA := HG.out.app (by rw [hno.out]; exact h8) hfa hDr (fun p hp => (HFT.out p hp).2)
        have hLa : LM wr b m ao co aq cq os es (wtI (qs ++ [q])) (total (qs ++ [q])) := by
          rw [total_app, hN.out]
          refine ⟨hLr.lb, hLr.map.congr (fun y => ?_), hLr.ap⟩
          rw [wtI_app HG.out hDr, HG.out.n]
        have c0 := hLr.lb.c0
        obtain ⟨ao', co', w4, hap1, hR1, hM1, hN1⟩ := push_any (T := 33) Try.underlying33 infoN rfl hLr.lb.ro (by rw [hno.out]; unfold maxLen; omega) (by rw [hno.out]; omega) [.int .i64 o] rfl (by simp [Value.oneCell'])
        obtain ⟨s1, s2, s3⟩ := hLa.pushO hM1 (v := o) hR1 hN1
        have z1 : ∃ u, w4.cell? ⟨b, 0, none⟩ = some u := ⟨_, (hM1.cell (p := ⟨b, 0, none⟩) hLr.lb.blt (hLr.lb.bo)).trans c0⟩
        have z2 : w4.frozen? ⟨b, 0, none⟩ = false := (hM1.frozen (p := ⟨b, 0, none⟩) hLr.lb.blt (hLr.lb.bo)).trans (hLr.lb.freeB 0)
        rw [hno.out] at c0 hap1 s1 s2
        obtain ⟨w5, hw5⟩ : ∃ W, Hid (w4.setCell ⟨b, 0, none⟩ (.slice ao' (no + 1) co') = W) := ⟨_, rfl⟩
        rw [hw5.out] at s1 s2
        replace hap1 := hd hap1
        have hd1 : Below w5.heap.size w5 w5.drew := (Below.refl _ w5).drew
        have s1d := s1.below hd1
        have hMw : Mod (mfp b m ao aq es) wc w5 := hMF.trans s2 (fun _ h => .inl h)
        have hR5 := (HR.out w5 hMw).below hd1
        have hcp := copied_any (c := c) hR5 (n := i) (by rw [iC_len, hN.out]; omega) (iC_one _) (by omega)
        have hel : es.length = no := by rw [← hno.out, ← HG.out.n, ← HQ.out, qsOf_len]
        have d1 := s1.lb.c1
        rw [hel] at d1
        have hbl5 : b < w5.heap.size := s1.lb.blt
        have HP : Hid (∀ w6 a1 c1, Row w6 3 1 a1 i c1 (iC q) → Below w5.drew.heap.size w5.drew w6 → (∀ k, blk a1 = some k → w5.drew.heap.size ≤ k) → w6.cell? ⟨b, 1, none⟩ = some (.slice aq no cq) ∧ (w6.alloc (.cells #[.slice a1 i c1] 33)).cell? ⟨b, 1, none⟩ = some (.slice aq no cq) ∧ ∃ aq' cq' w7, (∀ ty, (Builtin.append_ #[34, 34] ty #[.slice aq no cq, .slice (some ⟨w6.heap.size, 0, none⟩) 1 1]).run Try.prog (w6.alloc (.cells #[.slice a1 i c1] 33)) = .ok (.slice aq' (no + 1) cq') w7) ∧ (∃ u, w7.cell? ⟨b, 1, none⟩ = some u) ∧ w7.frozen? ⟨b, 1, none⟩ = false ∧ AddOut wc b m ao aq es os qs o q true (w7.setCell ⟨b, 1, none⟩ (.slice aq' (no + 1) cq'))) := hd (fun w6 a1 c1 r1 r2 r3 => by
          have s6 := s1d.below r2
          have hqw : Qw w6 (a1, c1, q) := by unfold Qw; rw [hN.out]; exact r1.ro
          have e1 := s6.lb.c1
          rw [hel] at e1
          obtain ⟨aq', cq', w7, hap2, hR2, hM2, hN2⟩ := push_any (T := 34) Try.underlying34 infoL rfl s6.lb.rq (by rw [hel]; unfold maxLen; omega) (by rw [hel]; omega) [.slice a1 i c1] rfl (by simp [Value.oneCell'])
          have hmm : Mod (fun k => blk aq = some k) w5.drew w7 := (Mod.of_below _ r2).trans hM2 (fun _ h => .inl h)
          have hsv : sC [((a1, c1, q) : Qe)] = [.slice a1 i c1] := by simp [sC, sV, hN.out]
          have hqlt := fun k (hk : blk a1 = some k) => hqw.lt k hk
          have haq5 : ∀ k, blk aq = some k → k < w5.drew.heap.size := fun k hk => s1d.lb.rq.lt k hk
          obtain ⟨t1, t2, t3⟩ := s1d.pushQ hmm (e' := (a1, c1, q)) (aq' := aq') (cq' := cq') (by rw [hsv]; exact hR2) (fun k hk => by
            rcases hN2 k hk with h3 | h3
            · exact .inl h3
            · exact .inr (Nat.le_trans r2.size h3)) (hqw.mod hM2 (fun k hk e => by have := r3 k hk; have := haq5 k e; omega)) (fun k hk => ⟨r3 k hk, fun e => by
              rcases hN2 k e with h3 | h3
              · have := r3 k hk; have := haq5 k h3; omega
              · have := hqlt k hk; omega⟩)
          rw [hel] at hap2 t1 t2
          refine ⟨e1, ((below_al w6 _).cell (p := ⟨b, 1, none⟩) s6.lb.blt).trans e1, aq', cq', w7, hap2, ⟨_, (hM2.cell (p := ⟨b, 1, none⟩) s6.lb.blt s6.lb.bq).trans e1⟩, (hM2.frozen (p := ⟨b, 1, none⟩) s6.lb.blt s6.lb.bq).trans (s6.lb.freeB 1), ?_, fun _ => ⟨hGA, ao', co', aq', cq', es ++ [(a1, c1, q)], t1, by rw [qsOf_app, HQ.out]; rfl, fun k hk => ?_⟩⟩
          · refine (hMw.after hd1).trans t2 (fun k hk => ?_)
            rcases s3 k hk with h3 | h3
            · exact .inl h3
            · exact .inr (Nat.le_trans hMF.size h3)
          · rcases t3 k hk with h3 | h3
            · rcases s3 k h3 with h4 | h4
              · exact .inl h4
              · exact .inr (Nat.le_trans hMF.size h4)
            · exact .inr (Nat.le_trans hMw.size h3))
        obtain ⟨u4, z1⟩ := z1
        clear HX hLr hMr hDr hQr hMF htk hGA hLa s1 s2 s3 s1d hMw hR5 hR1 hM1 hN1 HL HG HQ HR HFT hik hel hfa
        go_upto_region 12 with (first | (at_builtin; refine wpList_append_run rfl _ _ _ rfl _ _ _ _ rfl rfl hap1.out ?_; clear hap1))
        rw [hw5.out]
        go_region_law
          (first
            | (go_simp; refine hcp.mono ?_; rintro e6 w6 ⟨a1, c1, rfl, r1, r2, r3⟩
               obtain ⟨p1, p2, aq', cq', w7, hap2, ⟨u7, p3⟩, p4, p5⟩ := HP.out w6 a1 c1 r1 r2 r3
               replace hap2 := hd hap2
               replace p5 := hd p5
               clear r1 r2 r3)
            | (refine step_append_run (by rfl) _ _ _ (by rfl) _ _ _ _ (by rfl) (by rfl) hap2.out ?_; clear hap2))
        all_goals go_wp2_with fail
        all_goals go_ret
        all_goals exact ⟨rfl, p5.out⟩
      · have hlt : i < n := by omega
        have hltq : i < q.length := by rw [hN.out]; exact hlt
        have hRr := HR.out wr hMF
        obtain ⟨g, o', rfl, cx⟩ := hRr.int i hltq
        obtain ⟨x, hx⟩ : ∃ x, Hid (q.getD i 0 = x) := ⟨_, rfl⟩
        rw [hx.out] at cx
        have hxf : Fit64 x := HFT.out x (by rw [← hx.out, List.getD_eq_getElem?_getD, List.getElem?_eq_getElem hltq]; exact List.getElem_mem hltq)
        have hwt := waits_any hLr hxf
        rw [addQ_drop hltq, hx.out] at hQr
        have HNO : Hid (R = false → AddOut wc b m ao aq es os qs o q R wr) := hd (fun e => ⟨hMF, fun h => by rw [e] at h; cases h⟩)
        have HBD : Hid (badP qs o (q.take i) x = ((if x ∈ q.take i then some (os.length : Int) else wtI qs x).isSome || decide (x < 0) || decide (x = o))) := hd (by
          unfold badP wtI
          by_cases e : x ∈ q.take i
          · simp [e]
          · simp [e])
        obtain ⟨tv, htv⟩ : ∃ tv, Hid ((if x ∈ q.take i then some (os.length : Int) else wtI qs x).getD 0 = tv) := ⟨_, rfl⟩
        obtain ⟨tb, htb⟩ : ∃ tb, Hid ((if x ∈ q.take i then some (os.length : Int) else wtI qs x).isSome = tb) := ⟨_, rfl⟩
        rw [htv.out, htb.out] at hwt
        rw [htb.out] at HBD
        have HQR := hd hQr
        have HLR := hd hLr
        have HDR := hd hDr
        have HMR := hd hMr
        clear hQr hLr hDr hMr hMF HX hRr h0
        cases tb with
        | true =>
          obtain rfl : R = false := by rw [← HQR.out, HBD.out]; rfl
          clear HQR HBD HL HG HQ HR HFT HLR HDR HMR htv htb
          go_wp2_with (first | (go_at_call 28; refine hwt.mono ?_; rintro e3 w3 ⟨rfl, rfl⟩))
          go_ret
          exact ⟨rfl, HNO.out (by trivial)⟩
        | false =>
          by_cases hx0 : x < 0
          · obtain rfl : R = false := by rw [← HQR.out, HBD.out, if_pos (by simp [hx0])]
            clear HQR HBD HL HG HQ HR HFT HLR HDR HMR htv htb
            go_wp2_with (first | (go_at_call 28; refine hwt.mono ?_; rintro e3 w3 ⟨rfl, rfl⟩))
            go_ret
            exact ⟨rfl, HNO.out (by trivial)⟩
          · have hx0' : decide (x < 0) = false := by simpa using hx0
            by_cases hxo : x = o
            · obtain rfl : R = false := by rw [← HQR.out, HBD.out, if_pos (by simp [hxo])]
              subst hxo
              clear HQR HBD HL HG HQ HR HFT HLR HDR HMR htv htb hx0
              go_wp2_with (first | (go_at_call 28; refine hwt.mono ?_; rintro e3 w3 ⟨rfl, rfl⟩))
              go_ret
              exact ⟨rfl, HNO.out (by trivial)⟩
            · have hxo' : (x == o) = false := by simpa using hxo
              have hbf : badP qs o (q.take i) x = false := by rw [HBD.out]; simp [hx0, hxo]
              have c0 := HLR.out.lb.c0
              have c2 := HLR.out.lb.c2
              rw [hno.out] at c0
              have hd1 : Below wr.heap.size wr wr.drew := (Below.refl _ wr).drew
              obtain ⟨w4, hst, hM4, hA4⟩ := (HLR.out.below hd1).map.store (p := x) (v := (no : Int)) hxf ⟨by omega, by omega⟩ (by omega)
              rw [if_neg (by rw [htb.out]; simp)] at hA4
              have HE : Hid (AddI wc w4 b m ao co aq cq os es qs o q (i + 1) ∧ addQ qs o (q.take (i + 1)) (q.drop (i + 1)) = R) := hd (by
                have ht1 : q.take (i + 1) = q.take i ++ [x] := by rw [← hx.out, List.take_succ_eq_append_getElem hltq, List.getD_eq_getElem?_getD, List.getElem?_eq_getElem hltq]; rfl
                refine ⟨⟨?_, ((HMR.out.after hd1).trans hM4 (fun _ h => .inl h)), by rw [ht1]; exact HDR.out.push hbf⟩, ?_⟩
                · have := (HLR.out.below hd1).turn hM4 hA4
                  refine ⟨this.lb, ?_, this.ap⟩
                  have h5 := this.map.congr (f' := fun y => if y ∈ q.take (i + 1) then some (os.length : Int) else wtI qs y) (fun y => by
                    rw [hno.out]
                    by_cases e : y = x
                    · rw [if_pos e, if_pos (by rw [ht1, e]; simp)]
                    · rw [if_neg e]
                      by_cases e2 : y ∈ q.take i
                      · rw [if_pos e2, if_pos (by rw [ht1]; exact List.mem_append_left _ e2)]
                      · rw [if_neg e2, if_neg (by rw [ht1]; simp [e, e2])])
                  exact h5
                · have := HQR.out
                  rw [hbf] at this
                  simpa using this)
              clear HQR HBD HL HG HQ HR HFT HLR HDR HMR htv htb hx0 hxo hbf hM4 hA4 HNO hd1
              go_upto_region 9 with (first | (go_at_call 28; refine hwt.mono ?_; rintro e3 w3 ⟨rfl, rfl⟩))
              go_region
              all_goals go_wp2_with fail
              all_goals go_roundg (gk - 1)
              all_goals first | exact ⟨i + 1, by omega, by go_num, HE⟩ | omega
end Go.Proofs.Ytdihbbpndijdoaa
