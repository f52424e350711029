/- straight. -/
import Derived.Test.YtdihbbpndijdoaaKM2
import Derived.Test.YtdihbbpndijdoaaKWF
namespace Go.Proofs.Ytdihbbpndijdoaa
open Go.RowKit Go.Maps

theorem qAt_take {qs : Qs} {k i : Nat} : qAt (qs.take k) i = if i < k then qAt qs i else [] := by
  unfold qAt
  rw [List.getD_eq_getElem?_getD, List.getD_eq_getElem?_getD, List.getElem?_take]
  split <;> rfl
theorem wt_take {os : List Int} {qs : Qs} (hG : GoodL os qs) {k : Nat} {x : Int} : wt (qs.take (k + 1)) x = if x ∈ qAt qs k then some k else wt (qs.take k) x := by
  have hO : ∀ m i j p, p ∈ qAt (qs.take m) i → p ∈ qAt (qs.take m) j → i = j := fun m i j p hi hj => by
    rw [qAt_take] at hi hj
    split at hi
    · split at hj
      · exact hG.once i j p hi hj
      · cases hj
    · cases hi
  by_cases e : x ∈ qAt qs k
  · rw [if_pos e]
    exact (wt_some (hO (k + 1))).2 (by rw [qAt_take, if_pos (Nat.lt_succ_self _)]; exact e)
  · rw [if_neg e]
    cases hw : wt (qs.take k) x with
    | none =>
      have hn := wt_none.1 hw
      refine wt_none.2 (fun j hj => ?_)
      rw [qAt_take] at hj
      split at hj
      · by_cases ej : j = k
        · subst ej; exact e hj
        · exact hn j (by rw [qAt_take, if_pos (by omega)]; exact hj)
      · cases hj
    | some j =>
      have hm := (wt_some (hO k)).1 hw
      refine (wt_some (hO (k + 1))).2 ?_
      rw [qAt_take] at hm ⊢
      split at hm
      · rw [if_pos (by omega)]; exact hm
      · cases hm
/-- What is laid into the map so far. -/
def nxT (os : List Int) (qs : Qs) (k i : Nat) (x : Int) : Option Int := if x ∈ (qAt qs k).take i then some (oAt os k) else nxF os (qs.take k) x
theorem nxT_next {os : List Int} {qs : Qs} (hG : GoodL os qs) {k n : Nat} (hn : (qAt qs k).length = n) (x : Int) : nxT os qs k n x = nxT os qs (k + 1) 0 x := by
  unfold nxT
  rw [List.take_zero, if_neg List.not_mem_nil, List.take_of_length_le (by omega)]
  unfold nxF
  rw [wt_take hG]
  split <;> rfl
theorem nxT_zero (os : List Int) (qs : Qs) (x : Int) : nxT os qs 0 0 x = none := by
  unfold nxT nxF
  simp [wt]
theorem nxT_end {os : List Int} {qs : Qs} {n : Nat} (hn : qs.length = n) (x : Int) : nxT os qs n 0 x = nxF os qs x := by
  unfold nxT
  rw [List.take_zero, if_neg List.not_mem_nil, List.take_of_length_le (by omega)]
theorem nxT_new {os : List Int} {qs : Qs} (hG : GoodL os qs) {k i : Nat} (hi : i < (qAt qs k).length) : nxT os qs k i ((qAt qs k).getD i 0) = none := by
  have hm : (qAt qs k).getD i 0 ∈ qAt qs k := by
    rw [List.getD_eq_getElem?_getD, List.getElem?_eq_getElem hi]; exact List.getElem_mem hi
  unfold nxT
  rw [if_neg]
  · unfold nxF
    rw [wt_none.2]
    · rfl
    · intro j hj
      rw [qAt_take] at hj
      split at hj
      · have := hG.once j k _ hj hm; omega
      · cases hj
  · intro h
    have hnd := hG.nd k
    obtain ⟨j, hj, e⟩ := List.getElem_of_mem h
    rw [List.length_take] at hj
    rw [List.getElem_take, List.getD_eq_getElem?_getD, List.getElem?_eq_getElem hi] at e
    exact List.pairwise_iff_getElem.1 hnd j i (by omega) hi (by omega) e
theorem nxT_put {os : List Int} {qs : Qs} {k i : Nat} (hi : i < (qAt qs k).length) (x : Int) : (if x = (qAt qs k).getD i 0 then some (oAt os k) else nxT os qs k i x) = nxT os qs k (i + 1) x := by
  unfold nxT
  have e : x ∈ (qAt qs k).take (i + 1) ↔ x ∈ (qAt qs k).take i ∨ x = (qAt qs k).getD i 0 := take_mem hi
  by_cases e1 : x = (qAt qs k).getD i 0
  · rw [if_pos e1, if_pos (e.2 (.inr e1))]
  · rw [if_neg e1]
    by_cases e2 : x ∈ (qAt qs k).take i
    · rw [if_pos e2, if_pos (e.2 (.inl e2))]
    · rw [if_neg e2, if_neg (fun h => by
        rcases e.1 h with h | h
        · exact e2 h
        · exact e1 h)]

set_option maxRecDepth 100000 in
set_option maxHeartbeats 4000000 in
theorem straight_any {w : World} {a1 a2 : Option Addr} {n c1 c2 : Nat} {os : List Int} {qs : Qs} {ea : List Qe} (hR1 : Rd w a1 (iC os)) (hR2 : RdQ w a2 ea) (hN1 : Hid (os.length = n)) (hq : qsOf ea = qs) (hG : GoodL os qs) (hr : Rise os qs) (ht : total qs < 1000000) :
    Calls Try.prog 20 #[.slice a1 n c1, .slice a2 n c2] w fun e w' => e = .returned (.bool true) ∧ Below w.heap.size w w' := by
  have hn8 : n ≤ 8 := by rw [← hN1.out]; exact hG.le
  have hel : ea.length = n := by rw [← qsOf_len, hq, hG.n, hN1.out]
  have HCO : Hid (∀ W i, Below w.heap.size w W → i < n → ∃ g o, a1 = some ⟨g, o, none⟩ ∧ W.cell? ⟨g, o + i, none⟩ = some (.int .i64 (oAt os i))) := hd (fun W i hb hi => by
    obtain ⟨g, o, e, h⟩ := (hR1.below hb).int i (by rw [hN1.out]; exact hi)
    refine ⟨g, o, e, ?_⟩
    rw [h]
    unfold oAt
    rw [List.getD_eq_getElem?_getD, List.getD_eq_getElem?_getD, List.getElem?_eq_getElem (by rw [hN1.out]; exact hi)]
    rfl)
  have HCQ : Hid (∀ W i, Below w.heap.size w W → i < n → (∃ g o, a2 = some ⟨g, o, none⟩ ∧ W.cell? ⟨g, o + i, none⟩ = some (.slice (eAt ea i).1 (qAt qs i).length (eAt ea i).2.1)) ∧ Rd W (eAt ea i).1 (iC (qAt qs i))) := hd (fun W i hb hi => by
    obtain ⟨g, o, e, h⟩ := (hR2.below hb).at' i (by rw [hel]; exact hi)
    rw [← hq, qAt_of]
    exact ⟨⟨g, o, e, h⟩, (hR2.below hb).qs i (by rw [hel]; exact hi)⟩)
  have HG := hd hG
  have HRI := hd hr
  have HTQ : Hid (∀ i, total (qs.take i) + (qAt qs i).length < 1000000) := hd (fun i => Nat.lt_of_le_of_lt (total_take' qs i) ht)
  have HQL : Hid (qs.length = n) := hd (by rw [hG.n, hN1.out])
  have hmm : (Instr.makeMap 57 none).run Try.prog w = .ok (.map (some w.heap.size)) (w.alloc (.map #[] 0)) := rfl
  obtain ⟨w1, hw1⟩ : ∃ W, Hid (w.alloc (.map #[] 0) = W) := ⟨_, rfl⟩
  have hm0 := MapAt.new w
  rw [hw1.out] at hmm hm0
  have hB1 : Below w.heap.size w w1 := by rw [← hw1.out]; exact below_al w _
  obtain ⟨mm, hM⟩ : ∃ m, Hid (w.heap.size = m) := ⟨_, rfl⟩
  rw [hM.out] at hmm hm0
  have HS : Hid (MapAt w1 mm (nxT os qs 0 0) (total (qs.take 0) + 0) ∧ Below w.heap.size w w1) := hd ⟨hm0.congr (fun p => (nxT_zero os qs p).symm), hB1⟩
  have HMG : Hid (w.heap.size ≤ mm) := hd (by rw [hM.out]; exact Nat.le_refl _)
  clear hR1 hR2 hq hG hr ht hel hm0 hB1
  go_enter Try.func20, Try.ntmps20
  go_wp2_with fail
  go_loopg [6, 7, 14, 15, 16, 17, 18, 19, 20, 21, 22, 23, 24, 25, 26, 27, 28, 29, 30, 31, 32, 33, 34, 35, 36, 37, 38, 39, 40] n (fun k v6 v7 v14 v15 v16 v17 v18 v19 v20 v21 v22 v23 v24 v25 v26 v27 v28 v29 v30 v31 v32 v33 v34 v35 v36 v37 v38 v39 v40 wr => ∃ i : Nat, i + k = n ∧ v6 = .int .i64 (i : Int) ∧ Hid (MapAt wr mm (nxT os qs i 0) (total (qs.take i) + 0) ∧ Below w.heap.size w wr))
  case atStart => exact ⟨0, by omega, by go_num, HS⟩
  case round =>
    obtain ⟨i, hik, rfl, HX⟩ := hrel
    clear HS hmm
    obtain ⟨hMp, hBr⟩ := HX.out
    by_cases h0 : gk = 0
    · subst h0
      have hi : i = n := by omega
      subst hi
      have HMP : Hid (MapAt wr mm (nxF os qs) (total qs)) := hd (by
        have := hMp.congr (fun x => nxT_end HQL.out x)
        rw [List.take_of_length_le (by rw [HQL.out]; omega)] at this
        exact this)
      have HBR := hd hBr
      have HLK : Hid (∀ p, Fit64 p → (Instr.lookup 57 (.map (some mm)) (.int .i64 p) true).run Try.prog wr = .ok (.tuple #[.int .i64 ((nxF os qs p).getD 0), .bool (nxF os qs p).isSome]) wr) := hd (fun p hp => HMP.out.look hp)
      obtain ⟨wm, rfl⟩ : ∃ W, W = wr := ⟨_, rfl⟩
      clear HX hMp hBr hik HCQ HTQ HMG HMP
      go_wp2_with fail
      go_loopg [8, 9, 10, 11, 12, 41, 42, 43, 44, 45, 46, 47, 48, 49, 50, 51, 52, 53, 54, 55, 56, 57, 58, 59, 60, 61, 62, 63, 64, 65, 66, 67, 68] i (fun k v8 v9 v10 v11 v12 v41 v42 v43 v44 v45 v46 v47 v48 v49 v50 v51 v52 v53 v54 v55 v56 v57 v58 v59 v60 v61 v62 v63 v64 v65 v66 v67 v68 wr => ∃ j : Nat, j + k = i ∧ v8 = .int .i64 (j : Int) ∧ wr = wm)
      case atStart => exact ⟨0, by omega, by go_num, rfl⟩
      case round =>
        obtain ⟨j, hjk, rfl, rfl⟩ := hrel
        by_cases h0 : gk = 0
        · subst h0
          have hj : j = i := by omega
          subst hj
          clear hjk HCO HLK HG HRI HQL
          go_wp2_with fail
          go_ret
          exact ⟨rfl, HBR.out⟩
        · have hlt : j < i := by omega
          obtain ⟨g, o, rfl, e1⟩ := HCO.out wr j HBR.out hlt
          obtain ⟨wo, rfl⟩ : ∃ W, W = wr := ⟨_, rfl⟩
          obtain ⟨ov, hov⟩ : ∃ ov, Hid (oAt os j = ov) := ⟨_, rfl⟩
          rw [hov.out] at e1
          clear h0
          go_wp2_with fail
          go_loopg [9, 10, 11, 12, 51, 52, 53, 54, 55, 56, 57, 58, 59, 60, 61, 62, 63, 64, 65, 66] i (fun k v9 v10 v11 v12 v51 v52 v53 v54 v55 v56 v57 v58 v59 v60 v61 v62 v63 v64 v65 v66 wr => ∃ (t kt : Nat) (p : Int), t + k = i ∧ t ≤ kt ∧ kt < i ∧ v10 = .int .i64 (t : Int) ∧ v9 = .int .i64 p ∧ wr = wo ∧ Hid (p = oAt os kt))
          case atStart => exact ⟨0, j, ov, by omega, by omega, hlt, by go_num, rfl, rfl, hd hov.out.symm⟩
          case round =>
            obtain ⟨t, kt, p, htk, htl, hkl, rfl, rfl, rfl, HP⟩ := hrel
            have hfp : Fit64 p := by
              have := HG.out.oFit kt
              rw [HP.out]
              exact ⟨by omega, this.2⟩
            have hlk := HLK.out p hfp
            have hle : (t : Int) ≤ (i : Int) + 1 := by omega
            cases hnx : nxF os qs p with
            | none =>
              rw [hnx] at hlk
              simp only [Option.getD_none, Option.isSome_none] at hlk
              clear HP hnx HCO HLK HG HRI HQL hfp
              go_wp2_with fail
              go_roundg (i - (j + 1))
              case rel => exact ⟨j + 1, by omega, by go_num, rfl⟩
              case measure => omega
            | some v =>
              rw [hnx] at hlk
              simp only [Option.getD_some, Option.isSome_some] at hlk
              rw [HP.out] at hnx
              obtain ⟨k2, hk1, hk2, hv⟩ := nxF_some HRI.out HG.out hnx
              rw [hN1.out] at hk2
              have HP2 := hd hv
              clear HP hnx HCO HLK HG HRI HQL hfp hv
              go_wp2_with fail
              go_roundg (gk - 1)
              case rel => exact ⟨t + 1, k2, v, by omega, by omega, hk2, by go_num, rfl, rfl, HP2⟩
              case measure => omega
    · have hlt : i < n := by omega
      obtain ⟨ln, hLN⟩ : ∃ ln, Hid ((qAt qs i).length = ln) := ⟨_, rfl⟩
      have hlnb := HTQ.out i
      rw [hLN.out] at hlnb
      obtain ⟨⟨g2, o2, rfl, d2⟩, -⟩ := HCQ.out wr i hBr hlt
      rw [hLN.out] at d2
      have HS2 := hd hMp
      have HSB := hd hBr
      obtain ⟨wo, rfl⟩ : ∃ W, W = wr := ⟨_, rfl⟩
      clear HX hMp hBr h0
      go_wp2_with fail
      go_loopg [7, 20, 21, 22, 23, 24, 25, 26, 27, 28, 29, 30, 31, 32, 33, 34, 35, 36, 37, 38, 39, 40] ln (fun k v7 v20 v21 v22 v23 v24 v25 v26 v27 v28 v29 v30 v31 v32 v33 v34 v35 v36 v37 v38 v39 v40 wr => ∃ t : Nat, t + k = ln ∧ v7 = .int .i64 (t : Int) ∧ Hid (MapAt wr mm (nxT os qs i t) (total (qs.take i) + t) ∧ Below w.heap.size w wr))
      case atStart => exact ⟨0, by omega, by go_num, hd ⟨HS2.out, HSB.out⟩⟩
      case round =>
        obtain ⟨t, htk, rfl, HX⟩ := hrel
        clear HS2 HSB d2
        obtain ⟨hMp, hBr⟩ := HX.out
        obtain ⟨⟨g2', o2', eg, d2⟩, hrd⟩ := HCQ.out wr i hBr hlt
        cases eg
        rw [hLN.out] at d2
        by_cases ht0 : t < ln
        · obtain ⟨gx, ox, hax, cx⟩ := hrd.int t (by rw [hLN.out]; exact ht0)
          rw [hax] at d2
          obtain ⟨g, o, rfl, e1⟩ := HCO.out wr i hBr hlt
          have hm : (qAt qs i).getD t 0 ∈ qAt qs i := by
            rw [List.getD_eq_getElem?_getD, List.getElem?_eq_getElem (by rw [hLN.out]; exact ht0)]; exact List.getElem_mem _
          have hfx := HG.out.wai i _ hm
          have hfo := HG.out.oFit i
          have hd1 : Below wr.heap.size wr wr.drew := (Below.refl _ wr).drew
          obtain ⟨w4, hst, hM4, hA4⟩ := (hMp.below hd1).store (p := (qAt qs i).getD t 0) (v := oAt os i) ⟨by omega, hfx.2⟩ ⟨by omega, hfo.2⟩ (by omega)
          rw [nxT_new HG.out (by rw [hLN.out]; exact ht0)] at hA4
          simp only [Option.isSome_none, Bool.false_eq_true, if_false] at hA4
          have HE : Hid (MapAt w4 mm (nxT os qs i (t + 1)) (total (qs.take i) + (t + 1)) ∧ Below w.heap.size w w4) := hd (by
            have b1 := hBr.trans (hd1.mono hBr.size)
            exact ⟨hA4.congr (fun x => nxT_put (by rw [hLN.out]; exact ht0) x), b1.trans (hM4.below b1.size (fun k _ e => by rw [e]; exact HMG.out))⟩)
          obtain ⟨x, hx⟩ : ∃ x, Hid ((qAt qs i).getD t 0 = x) := ⟨_, rfl⟩
          obtain ⟨ov, hov⟩ : ∃ ov, Hid (oAt os i = ov) := ⟨_, rfl⟩
          rw [hx.out, hov.out] at hst
          rw [hx.out] at cx
          rw [hov.out] at e1
          clear HX hMp hBr hrd hax hm hfx hfo hd1 hM4 hA4 HCO HCQ HTQ HG HRI HQL
          go_upto_region 8 with fail
          go_region
          all_goals go_wp2_with fail
          all_goals go_roundg (gk - 1)
          all_goals first | exact ⟨t + 1, by omega, by go_num, HE⟩ | omega
        · have htl : t = ln := by omega
          subst htl
          have HE : Hid (MapAt wr mm (nxT os qs (i + 1) 0) (total (qs.take (i + 1)) + 0) ∧ Below w.heap.size w wr) := hd (by
            refine ⟨?_, hBr⟩
            have h1 := hMp.congr (fun x => nxT_next HG.out hLN.out x)
            rw [take_qAt (by rw [HQL.out]; exact hlt), total_app, hLN.out]
            exact h1)
          clear HX hMp hBr hrd HCO HCQ HTQ HG HRI HQL ht0
          go_wp2_with fail
          go_roundg (n - (i + 1))
          case rel => exact ⟨i + 1, by omega, by go_num, HE⟩
          case measure => omega
end Go.Proofs.Ytdihbbpndijdoaa
