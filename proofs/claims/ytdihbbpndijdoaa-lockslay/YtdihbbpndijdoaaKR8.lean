/- The document's Lay, walked. -/
import Derived.Test.YtdihbbpndijdoaaKR7
namespace Go.Proofs.Ytdihbbpndijdoaa
open Go.RowKit Go.Maps

theorem step_append_eq' {P : Program} {w wz : World} {ops : Array Oper} {o : Oper} {a : Act} {K : Act → World → Prop} {Q : Exit → Act → World → Prop} {E : Prop} {t : TypeId} {v vx v' : Value} {w' : World} (hrun : ∀ ty, (Builtin.append_ #[t, t] ty #[v, vx]).run P wz = .ok v' w') (hw : w = wz) (hgd : o.guard = none) (s x : Operand)
    (ho : o.op = .call { callee := .builtin .append, args := #[s, x], argTypes := #[t, t] }) (hs : a.eval s = v) (hx : a.eval x = vx)
    (h : K (a.put o.dst v') w') : if Region.wanted o (yielded ops a.tmps) = true then Oper.wp P o a w K Q else E := by
  subst hw
  exact step_append_run hgd s x t ho v vx v' w' hs hx hrun h

set_option maxRecDepth 100000 in
set_option maxHeartbeats 8000000 in
theorem rlay_any {w : World} {a1 a2 : Option Addr} {n c1 c2 : Nat} {os : List Int} {ea : List Qe} (hR1 : Rd w a1 (iC os)) (hR2 : RdQ w a2 ea) (hN1 : Hid (os.length = n)) (hN2 : Hid (ea.length = n)) (h8 : n ≤ 8) (hf2 : ∀ i, ∀ p ∈ qAt (qsOf ea) i, Fit64 p) (ht : total (qsOf ea) < 6000000000000) :
    Calls Try.prog 13 #[.slice a1 n c1, .slice a2 n c2] w fun e w' => RLayOut w os (qsOf ea) (layF [] os (qsOf ea)) e w' := by
  obtain ⟨qs, hqs⟩ : ∃ qs, Hid (qsOf ea = qs) := ⟨_, rfl⟩
  have HQA : Hid (∀ i, qAt qs i = (eAt ea i).2.2) := hd (fun i => by rw [← hqs.out, qAt_of])
  have HLQ : Hid (qs.length = n) := hd (by rw [← hqs.out, qsOf_len, hN2.out])
  rw [hqs.out] at ht hf2 ⊢
  obtain ⟨R, hR⟩ : ∃ R, Hid (layF [] os qs = R) := ⟨_, rfl⟩
  rw [hR.out]
  have HR1 := hd hR1
  have HR2 := hd hR2
  have HF2 := hd hf2
  have hmm : ∀ W : World, (Instr.makeMap 57 none).run Try.prog W = .ok (.map (some W.heap.size)) (W.alloc (.map #[] 0)) := fun W => rfl
  have h1' : decide (8 < n) = false := by simpa using h8
  have h3' : ((n : Int) != (n : Int)) = false := by simp
  have hsz : (w.alloc (.cells #[.slice none 0 0, .slice none 0 0] 54)).heap.size = w.heap.size + 1 := by simp
  clear hR1 hR2 hf2
  go_enter Try.func13, Try.ntmps13
  go_upto_region 7 with fail
  try simp only [hsz]
  obtain ⟨w1, hw1⟩ : ∃ W, Hid ((w.alloc (.cells #[.slice none 0 0, .slice none 0 0] 54)).alloc (.map #[] 0) = W) := ⟨_, rfl⟩
  have HS := hd (RLI.start (w := w) (os := os) (qs := qs))
  rw [hw1.out] at HS
  rw [hw1.out]
  obtain ⟨mm, hmmn⟩ : ∃ m, Hid (w.heap.size + 1 = m) := ⟨_, rfl⟩
  obtain ⟨b, hb⟩ : ∃ b, Hid (w.heap.size = b) := ⟨_, rfl⟩
  have HS2 : Hid (RLI w w1 b mm os qs 0 0) := hd (by have := HS.out; rw [hmmn.out] at this; rw [← hb.out]; exact this)
  rw [hmmn.out, hb.out]
  clear HS hmm hsz hw1
  go_wp2_with fail
  go_loopg [8, 9, 10, 27, 28, 29, 30, 31, 32, 33, 34, 35, 36, 37, 38, 39, 40, 41, 42, 43, 44, 45, 46, 47, 48, 49, 50, 51, 52, 53, 54, 55, 56, 57, 58, 59, 60, 61, 62, 63, 64, 65, 66, 67, 68, 69, 70, 71, 72, 73, 74, 75, 76, 77, 78, 79, 80, 81, 82, 83, 84, 85, 86, 87, 88, 89, 90, 91, 92, 93, 94, 95, 96, 97, 98, 99, 100, 101, 102, 103, 104, 105, 106, 107, 108, 109, 110, 111, 112, 113, 114] n (fun k v8 v9 v10 v27 v28 v29 v30 v31 v32 v33 v34 v35 v36 v37 v38 v39 v40 v41 v42 v43 v44 v45 v46 v47 v48 v49 v50 v51 v52 v53 v54 v55 v56 v57 v58 v59 v60 v61 v62 v63 v64 v65 v66 v67 v68 v69 v70 v71 v72 v73 v74 v75 v76 v77 v78 v79 v80 v81 v82 v83 v84 v85 v86 v87 v88 v89 v90 v91 v92 v93 v94 v95 v96 v97 v98 v99 v100 v101 v102 v103 v104 v105 v106 v107 v108 v109 v110 v111 v112 v113 v114 wr => ∃ i : Nat, i + k = n ∧ v8 = .int .i64 (i : Int) ∧ Hid (RLI w wr b mm os qs i 0 ∧ layF (qs.take i) (os.drop i) (qs.drop i) = R))
  case atStart => exact ⟨0, by omega, by go_num, hd ⟨HS2.out, by simpa using hR.out⟩⟩
  case round =>
    obtain ⟨i, hik, rfl, HX⟩ := hrel
    clear HS2 hR
    obtain ⟨hLr, hFr⟩ := HX.out
    by_cases h0 : gk = 0
    · subst h0
      have hi : i = n := by omega
      subst hi
      have HE : Hid (RLayOut w os qs R (.returned (.tuple #[.pointer (some ⟨b, 0, none⟩), .int .i64 0])) wr) := hd (by
        rw [layF_end (by rw [hN1.out]; omega)] at hFr
        have t1 : os.take i = os := List.take_of_length_le (by rw [hN1.out]; omega)
        have t2 : qs.take i = qs := List.take_of_length_le (by rw [HLQ.out]; omega)
        obtain ⟨ao, co, aq, cq, es, r1, r2, r3⟩ := hLr.ex
        rw [t1] at r1
        rw [t2] at r2
        obtain ⟨F, f1, f2⟩ := r1.rk r2 (by rw [HLQ.out, hN1.out]) (by rw [hN1.out]; exact h8)
        exact ⟨r1.2.2, .inr ⟨hFr.symm, b, F, rfl, f1, f2⟩⟩)
      clear HX hLr hFr hik HR1 HR2 HF2 HLQ HQA
      go_wp2_with fail
      go_ret2
      exact HE.out
    · have hlt : i < n := by omega
      have HCO : Hid (∀ W, Below w.heap.size w W → ∃ g o, a1 = some ⟨g, o, none⟩ ∧ W.cell? ⟨g, o + i, none⟩ = some (.int .i64 (oAt os i))) := hd (fun W hb => by
        obtain ⟨g, o, e, h⟩ := (HR1.out.below hb).int i (by rw [hN1.out]; exact hlt)
        refine ⟨g, o, e, ?_⟩
        rw [h]
        unfold oAt
        rw [List.getD_eq_getElem?_getD, List.getD_eq_getElem?_getD, List.getElem?_eq_getElem (by rw [hN1.out]; exact hlt)]
        rfl)
      obtain ⟨ln, hLN⟩ : ∃ ln, Hid ((qAt qs i).length = ln) := ⟨_, rfl⟩
      have HCQ : Hid (∀ W, Below w.heap.size w W → ∃ g o, a2 = some ⟨g, o, none⟩ ∧ W.cell? ⟨g, o + i, none⟩ = some (.slice (eAt ea i).1 ln (eAt ea i).2.1)) := hd (fun W hb => by
        obtain ⟨g, o, e, h⟩ := (HR2.out.below hb).at' i (by rw [hN2.out]; exact hlt)
        rw [← HQA.out, hLN.out] at h
        exact ⟨g, o, e, h⟩)
      have HRQ : Hid (∀ W, Below w.heap.size w W → Rd W (eAt ea i).1 (iC (qAt qs i))) := hd (fun W hb => by
        rw [HQA.out]
        exact (HR2.out.below hb).qs i (by rw [hN2.out]; exact hlt))
      obtain ⟨g1, o1, rfl, e1⟩ := HCO.out wr hLr.bel
      obtain ⟨g2, o2, rfl, e2⟩ := HCQ.out wr hLr.bel
      rw [layF_drop (by rw [hN1.out]; exact hlt) (by rw [hN1.out, HLQ.out])] at hFr
      have htt := total_take' qs i
      have hlnb : total (qs.take i) + ln < 6000000000000 := by rw [← hLN.out]; omega
      obtain ⟨ov, hov⟩ : ∃ ov, Hid (oAt os i = ov) := ⟨_, rfl⟩
      rw [hov.out] at e1 hFr HCO
      obtain ⟨A, hA⟩ : ∃ A, Hid (addOk (qs.take i) ov (qAt qs i) = A) := ⟨_, rfl⟩
      rw [hA.out] at hFr
      have HFI := HF2.out i
      have HFN := hd HFI
      have HLR := hd hLr
      have HFR := hd hFr
      have HNO : Hid (A = false → ∀ W, Below w.heap.size w W → RLayOut w os qs R (.returned (.tuple #[.pointer none, .int .i64 4])) W) := hd (fun e W hb => ⟨hb, .inl ⟨by rw [← hFr, e]; rfl, rfl⟩⟩)
      clear HX hLr hFr HR1 HR2 HF2 HFI htt h0 ht
      by_cases h1 : ov < -1
      · have hAf : A = false := by rw [← hA.out]; unfold addOk; rw [if_pos (.inl h1)]
        have HE := hd (HNO.out hAf wr HLR.out.bel)
        clear HLR HFR HNO HCO HCQ HRQ HFN hA hAf
        go_wp2_with fail
        go_ret2
        exact HE.out
      have hv1 : decide (ov < -1) = false := by simpa using h1
      by_cases h2 : ov = -1 ∧ 0 < ln
      · obtain ⟨rfl, h3⟩ := h2
        have hAf : A = false := by rw [← hA.out]; unfold addOk; rw [if_pos (.inr ⟨rfl, by rw [hLN.out]; exact h3⟩)]
        have HE := hd (HNO.out hAf wr HLR.out.bel)
        clear HLR HFR HNO HCO HCQ HRQ HFN hA hAf h1 hv1 hov
        go_wp2_with fail
        go_ret2
        exact HE.out
      have HCD := hd h2
      have hAE : Hid (addQ (qs.take i) ov [] (qAt qs i) = A) := hd (by rw [← hA.out]; unfold addOk; rw [if_neg (by rw [hLN.out]; omega)])
      clear hA h1 h2
      obtain ⟨wo, rfl⟩ : ∃ W, W = wr := ⟨_, rfl⟩
      go_upto_region 10 with fail
      go_cut [33, 34, 35, 36, 37, 38, 39, 40, 41, 42, 43, 44, 45, 46, 47, 48, 49, 50, 51, 52] (fun v33 v34 v35 v36 v37 v38 v39 v40 v41 v42 v43 v44 v45 v46 v47 v48 v49 v50 v51 v52 wy => v52 = .bool false ∧ wy = wo)
      case first =>
        by_cases e : ov = -1
        · have h3 : ¬ 0 < ln := fun h3 => HCD.out ⟨e, h3⟩
          obtain rfl : ln = 0 := by omega
          subst e
          clear HLR HFR HNO HCO HCQ HRQ HFN hAE HCD h3 hov
          go_wp2_with fail
          go_meet
          case rel => exact ⟨by trivial, by trivial⟩
        · have e' : (ov == -1) = false := by simpa using e
          clear HLR HFR HNO HCO HCQ HRQ HFN hAE HCD hov e
          go_wp2_with fail
          go_meet
          case rel => exact ⟨by trivial, by trivial⟩
      case rest =>
        obtain ⟨rfl, rfl⟩ := hcut
        clear HCD hv1
        go_wp2_with fail
        go_loopg [9, 10, 53, 54, 55, 56, 57, 58, 59, 60, 61, 62, 63, 64, 65, 66, 67, 68, 69, 70, 71, 72, 73, 74, 75, 76, 77, 78, 79, 80, 81, 82, 83, 84, 85, 86] ln (fun k v9 v10 v53 v54 v55 v56 v57 v58 v59 v60 v61 v62 v63 v64 v65 v66 v67 v68 v69 v70 v71 v72 v73 v74 v75 v76 v77 v78 v79 v80 v81 v82 v83 v84 v85 v86 wr => ∃ t : Nat, t + k = ln ∧ v9 = .int .i64 (t : Int) ∧ Hid (RLI w wr b mm os qs i t ∧ addQ (qs.take i) ov ((qAt qs i).take t) ((qAt qs i).drop t) = A))
        case atStart => exact ⟨0, by omega, by go_num, hd ⟨HLR.out, by simpa using hAE.out⟩⟩
        case round =>
          obtain ⟨t, htk, rfl, HX⟩ := hrel
          clear HLR hAE
          obtain ⟨hLr, hQr⟩ := HX.out
          obtain ⟨g1', o1', ea1, d1⟩ := HCO.out wr hLr.bel
          cases ea1
          obtain ⟨g2', o2', ea2, d2⟩ := HCQ.out wr hLr.bel
          cases ea2
          by_cases ht0 : t < ln
          · have htq : t < (qAt qs i).length := by rw [hLN.out]; exact ht0
            obtain ⟨gx, ox, hax, cx⟩ := (HRQ.out wr hLr.bel).int t htq
            rw [hax] at d2
            obtain ⟨x, hx⟩ : ∃ x, Hid ((qAt qs i).getD t 0 = x) := ⟨_, rfl⟩
            rw [hx.out] at cx
            have hxf : Fit64 x := HFN.out x (by rw [← hx.out, List.getD_eq_getElem?_getD, List.getElem?_eq_getElem htq]; exact List.getElem_mem htq)
            have hlk := hLr.map.look1 hxf
            rw [addQ_drop htq, hx.out] at hQr
            obtain ⟨mv, hmv⟩ : ∃ mv, Hid ((metF (qs.take i) ((qAt qs i).take t) x).getD 0 = mv) := ⟨_, rfl⟩
            rw [hmv.out] at hlk
            have HE0 : Hid (A = false → RLayOut w os qs R (.returned (.tuple #[.pointer none, .int .i64 4])) wr) := hd (fun e => HNO.out e wr hLr.bel)
            by_cases hb1 : x < 0
            · have hAf : A = false := by rw [← hQr, if_pos (by unfold badP; simp [hb1])]
              have HE := hd (HE0.out hAf)
              clear HX hLr hQr HNO HCO HCQ HRQ HFN HFR HE0 hAf hlk hmv
              go_wp2_with fail
              go_ret2
              exact HE.out
            have hb1' : decide (x < 0) = false := by simpa using hb1
            by_cases hb2 : x = ov
            · have hAf : A = false := by rw [← hQr, if_pos (by unfold badP; simp [hb2])]
              have HE := hd (HE0.out hAf)
              subst hb2
              clear HX hLr hQr HNO HCO HCQ HRQ HFN HFR HE0 hAf hlk hmv hb1
              go_wp2_with fail
              go_ret2
              exact HE.out
            have hb2' : (x == ov) = false := by simpa using hb2
            by_cases hb3 : (wt (qs.take i) x).isSome = true ∨ x ∈ (qAt qs i).take t
            · have hAf : A = false := by rw [← hQr, if_pos (by unfold badP; rcases hb3 with h | h <;> simp [h])]
              have HE := hd (HE0.out hAf)
              obtain rfl : mv = 1 := by rw [← hmv.out, metF_get, if_pos hb3]
              clear HX hLr hQr HNO HCO HCQ HRQ HFN HFR HE0 hAf hmv hb1 hb2 hb3
              go_wp2_with fail
              go_ret2
              exact HE.out
            · have hmn : metF (qs.take i) ((qAt qs i).take t) x = none := by unfold metF; rw [if_neg hb3]
              obtain rfl : mv = 0 := by rw [← hmv.out, hmn]; rfl
              have hbf : badP (qs.take i) ov ((qAt qs i).take t) x = false := by
                unfold badP
                have h5 : (wt (qs.take i) x).isSome = false := by
                  cases hh : (wt (qs.take i) x).isSome
                  · rfl
                  · exact absurd (.inl hh) hb3
                have h6 : ¬ x ∈ (qAt qs i).take t := fun h => hb3 (.inr h)
                simp [h5, h6, hb1, hb2]
              obtain ⟨w4, hst, hL4⟩ := hLr.meet htq hx.out hxf hmn (by omega)
              have HE : Hid (RLI w w4 b mm os qs i (t + 1) ∧ addQ (qs.take i) ov ((qAt qs i).take (t + 1)) ((qAt qs i).drop (t + 1)) = A) := hd (by
                rw [hbf] at hQr
                exact ⟨hL4, by simpa using hQr⟩)
              clear HX hLr hQr HNO HCO HCQ HRQ HFN HFR HE0 hmv hb1 hb2 hb3 hmn hbf hL4
              go_wp2_with fail
              go_roundg (gk - 1)
              case rel => exact ⟨t + 1, by omega, by go_num, HE⟩
              case measure => omega
          · have htl : t = ln := by omega
            subst htl
            obtain rfl : A = true := by rw [← hQr, List.drop_of_length_le (by rw [hLN.out]; omega)]; rfl
            have HLR := hd hLr
            clear HX hQr HNO HFN ht0 hLr
            go_upto_region 19 with fail
            obtain ⟨wi, rfl⟩ : ∃ W, W = wr := ⟨_, rfl⟩
            have hLr := HLR.out
            obtain ⟨ao, co, aq, cq, es, r1, r2, r3⟩ := hLr.ex
            have hol : (os.take i).length = i := by rw [List.length_take, hN1.out]; omega
            have hel : es.length = i := by rw [← qsOf_len, r2, List.length_take, HLQ.out]; omega
            have hdw : Below wi.heap.size wi wi.drew := (Below.refl _ wi).drew
            obtain ⟨ao', co', w2, A1, ⟨u1, z1⟩, z2, hI2, hM2, hW2⟩ := (r1.below hdw).pushO (by rw [hol]; omega) ov
            have f0 := r1.1.c0
            have y0 : (wi.alloc (.cells #[.int .i64 ov] 3)).cell? ⟨b, 0, none⟩ = some (.slice ao (os.take i).length co) := ((below_al wi _).cell (p := ⟨b, 0, none⟩) r1.1.blt).trans f0
            rw [hol] at A1 hI2 hM2 f0 y0
            obtain ⟨w3, hw3⟩ : ∃ W, Hid (w2.setCell ⟨b, 0, none⟩ (.slice ao' (i + 1) co') = W) := ⟨_, rfl⟩
            rw [hw3.out] at hI2 hM2
            have A1 : Hid (∀ ty, (Builtin.append_ #[33, 33] ty #[.slice ao i co, .slice (some ⟨wi.heap.size, 0, none⟩) 1 1]).run Try.prog (wi.alloc (.cells #[.int .i64 ov] 3)).drew = .ok (.slice ao' (i + 1) co') w2) := hd A1
            -- the second
            have hd3 : Below w3.heap.size w3 w3.drew := (Below.refl _ w3).drew
            have bE := below_al w3.drew (.cells #[] 3)
            have b3 := hI2.2.2
            have bE3 : Below w3.heap.size w3 (w3.drew.alloc (.cells #[] 3)) := hd3.trans bE
            have bEw := b3.trans (bE3.mono b3.size)
            obtain ⟨aa, ca, w4, A2, hR4, hM4, hN4⟩ := clone_at (W := w3.drew.alloc (.cells #[] 3)) (g := w3.heap.size) (c := (eAt ea i).2.1) (heap_alloc_new w3.drew _) (HRQ.out _ bEw) hLN.out (by omega)
            have A2 : Hid (∀ ty, (Builtin.append_ #[33, 33] ty #[.slice (some ⟨w3.heap.size, 0, none⟩) 0 0, .slice (eAt ea i).1 t (eAt ea i).2.1]).run Try.prog (w3.alloc (.cells #[] 3)).drew = .ok (.slice aa t ca) w4) := hd A2
            have b4 : Below w3.heap.size w3 w4 := bE3.trans (hM4.below (by have := bE.size; exact this) (fun k _ e => by rw [e]; exact Nat.le_refl _))
            have hqw : Qw w4 (aa, ca, qAt qs i) := by unfold Qw; rw [hLN.out]; exact hR4.ro
            obtain ⟨aq', cq', w5, A3, ⟨u2, z3⟩, z4, hI5, hM5, hW5⟩ := hI2.pushQ (by rw [hel]; omega) b4 hLN.out hqw (fun k hk => by
              rcases hN4 k hk with h | h
              · rw [h]; exact Nat.le_refl _
              · have := bE.size; exact Nat.le_trans this h)
            have f1 := hI2.1.c1
            have bE2 := below_al w3 (.cells #[] 3)
            have y1 : (w3.alloc (.cells #[] 3)).cell? ⟨b, 1, none⟩ = some (.slice aq es.length cq) := (bE2.cell (p := ⟨b, 1, none⟩) hI2.1.blt).trans f1
            have y2 : w4.cell? ⟨b, 1, none⟩ = some (.slice aq es.length cq) := (b4.cell (p := ⟨b, 1, none⟩) hI2.1.blt).trans f1
            have y3 : (w4.alloc (.cells #[.slice aa t ca] 33)).cell? ⟨b, 1, none⟩ = some (.slice aq es.length cq) := ((below_al w4 _).cell (p := ⟨b, 1, none⟩) (Nat.lt_of_lt_of_le hI2.1.blt b4.size)).trans y2
            rw [hel] at A3 hI5 hM5 f1 y1 y2 y3
            replace A3 := hd A3
            obtain ⟨g2a, o2a, eqa, q1⟩ := HCQ.out w3 b3
            cases eqa
            obtain ⟨g2b, o2b, eqb, q2⟩ := HCQ.out (w3.alloc (.cells #[] 3)) (b3.trans (bE2.mono b3.size))
            cases eqb
            have HE : Hid (RLI w (w5.setCell ⟨b, 1, none⟩ (.slice aq' (i + 1) cq')) b mm os qs (i + 1) 0 ∧ layF (qs.take (i + 1)) (os.drop (i + 1)) (qs.drop (i + 1)) = R) := hd (by
              refine ⟨?_, HFR.out⟩
              have hmm5 : Mod (lfp b ao aq es) wi (w5.setCell ⟨b, 1, none⟩ (.slice aq' (i + 1) cq')) := by
                refine ((Mod.of_below _ hdw).trans hM2 (fun _ h => .inl h)).trans hM5 (fun k hk => hW2 k hk)
              have := hLr
              rw [← hLN.out] at this
              exact this.next (by rw [hN1.out]; exact hlt) (by rw [HLQ.out]; exact hlt) (by rw [hov.out]; exact hI5) (by rw [qsOf_app, r2]; rfl) hmm5 r3 (fun e => by
                have hml := hLr.map.lt
                rcases hW5 mm e with h | h
                · rcases hW2 mm h with h | h
                  · exact r3 h
                  · exact absurd hml (Nat.not_lt.2 h)
                · exact absurd hml (Nat.not_lt.2 (Nat.le_trans hM2.size h))))
            clear HLR hLr r1 r2 r3 hol hel hdw hI2 hM2 hd3 bE b3 bE3 bEw hR4 hM4 hN4 b4 hqw hI5 hM5 bE2 HCO HCQ HRQ HFR d2 hW2 hW5
            go_cut [87, 88, 89, 90, 91, 92, 93, 94, 95, 96, 97, 98, 99] (fun v87 v88 v89 v90 v91 v92 v93 v94 v95 v96 v97 v98 v99 wy => wy = w3)
            case first =>
              go_region_law ((refine step_append_eq' A1.out (by with_reducible rfl) (by rfl) _ _ (by rfl) (by rfl) (by rfl) ?_))
              all_goals rw [hw3.out]
              all_goals go_wp2_with fail
              all_goals go_meet
              all_goals rfl
            case rest =>
              subst hcut
              clear A1 z1 z2 f0 y0 hw3
              go_upto_region 20 with fail
              go_region_law
                (first
                  | (refine step_append_eq' A2.out (by with_reducible rfl) (by rfl) _ _ (by rfl) (by rfl) (by rfl) ?_)
                  | (refine step_append_eq' A3.out (by with_reducible rfl) (by rfl) _ _ (by rfl) (by rfl) (by rfl) ?_))
              all_goals go_wp2_with fail
              all_goals go_roundg (n - (i + 1))
              all_goals first | exact ⟨i + 1, by omega, by go_num, HE⟩ | omega
end Go.Proofs.Ytdihbbpndijdoaa
