/- WheelOnce, where the list is not too long. -/
import Derived.Test.YtdpbkoohhnpjmaaWO2
namespace Go.Proofs.Ytdpbkoohhnpjmaa
open Go.RowKit Go.Sort Go.Shelf Go.Maps

theorem due_is {L : List Th} (hG : GoodW L) (id : Int) : (dueA id L).2 = isSet id L := by
  cases hs : isSet id L with
  | true =>
    obtain ⟨t, ht, rfl⟩ := isSet_iff.1 hs
    rw [dueA_some hG ht]
  | false => rw [dueA_none hs]

set_option maxRecDepth 100000 in
set_option maxHeartbeats 4000000 in
theorem once_short {w : World} {a0 a1 a2 : Option Addr} {c0 c1 c2 : Nat} {l : List (Int × Int)} {gone nows : List Int} (hR0 : Rd w a0 (wC l)) (hR1 : Rd w a1 (iC gone)) (hR2 : Rd w a2 (iC nows)) (h0 : l.length ≤ 1048576) (h1 : gone.length ≤ 100000000000000) (h2 : nows.length ≤ 100000000000000) (hf0 : ∀ x ∈ l, Fit2 x) (hf1 : ∀ x ∈ gone, Fit64 x) :
    Calls Try.prog 5 #[.slice a0 l.length c0, .slice a1 gone.length c1, .slice a2 nows.length c2] w fun e w' => e = .returned (.bool true) ∧ Below w.heap.size w w' := by
  have hnw := @wnew_any w
  have H0 := hd hR0
  have H1 := hd hR1
  have H2 := hd hR2
  have F0 := hd hf0
  have F1 := hd hf1
  obtain ⟨n0, hn0⟩ : ∃ n, Hid (l.length = n) := ⟨_, rfl⟩
  obtain ⟨n1, hn1⟩ : ∃ n, Hid (gone.length = n) := ⟨_, rfl⟩
  obtain ⟨n2, hn2⟩ : ∃ n, Hid (nows.length = n) := ⟨_, rfl⟩
  rw [hn0.out] at h0 ⊢
  rw [hn1.out] at h1 ⊢
  rw [hn2.out] at h2 ⊢
  have h0' : decide ((1048576 : Int) < (n0 : Int)) = false := by simp; omega
  clear hR0 hR1 hR2 hf0 hf1
  go_enter Try.func5, Try.ntmps5
  go_upto_region 6 with (go_at_call 7; refine hnw.mono ?_; rintro e0 w0 ⟨b, F, rfl, q1, q2, q3⟩)
  have HO0 : Hid (Once w (w0.alloc (.map #[] 0)) b w0.heap.size [] []) := hd (once_new q1 q2 q3)
  have hmm : (Instr.makeMap 42 none).run Try.prog w0 = .ok (.map (some w0.heap.size)) (w0.alloc (.map #[] 0)) := rfl
  obtain ⟨mb, hmb⟩ : ∃ m, Hid (w0.heap.size = m) := ⟨_, rfl⟩
  obtain ⟨ws, hws⟩ : ∃ W, Hid (w0.alloc (.map #[] 0) = W) := ⟨_, rfl⟩
  rw [hmb.out, hws.out] at hmm HO0
  clear hnw q1 q2 q3 hmb hws
  go_wp2_with fail
  go_loopg [9] n0 (fun k v9 wr => ∃ i : Nat, v9 = .int .i64 (i : Int) ∧ i + k = n0 ∧ Hid (Once w wr b mb (foldS (l.take i)) (foldS (l.take i)) ∧ SetSo (l.take i) (foldS (l.take i)) ∧ (foldS (l.take i)).length ≤ i))
  case atStart => exact ⟨0, rfl, by omega, hd ⟨HO0.out, SetSo.nil, Nat.le_refl _⟩⟩
  case round =>
    obtain ⟨i, rfl, hik, HH⟩ := hrel
    clear HO0 hmm
    by_cases hlt : i < n0
    · have hlt' : (i : Int) < (n0 : Int) := by omega
      obtain ⟨g, o, rfl, x0, x1⟩ := rd_pair (H0.out.below HH.out.1.bel) i (by rw [hn0.out]; exact hlt)
      have hgl : g < w.heap.size := by
        obtain ⟨g', o', e, hc⟩ := H0.out _ _ (wC_at l i (by rw [hn0.out]; exact hlt)).1
        cases e
        exact World.block_lt_of_cell? w _ hc
      have HT : Hid (l.take (i + 1) = l.take i ++ [tAt l i]) := hd (take_one l i (by rw [hn0.out]; exact hlt) (0, 0))
      have hfx : Fit2 (tAt l i) := F0.out _ (tAt_mem (by rw [hn0.out]; exact hlt))
      have HL : Hid ((foldS (l.take i)).length ≤ i) := hd HH.out.2.2
      generalize tAt l i = x at *
      obtain ⟨x1v, x2v⟩ := x
      simp only at x0 x1
      have HK : Hid (∀ W : World, Below w.heap.size w W → W.cell? ⟨g, o + i * 2, none⟩ = some (.int .i64 x1v) ∧ W.cell? ⟨g, o + i * 2 + 1, none⟩ = some (.int .i64 x2v)) := hd (fun W hb => ⟨by rw [hb.cell (p := ⟨g, o + i * 2, none⟩) hgl, ← HH.out.1.bel.cell (p := ⟨g, o + i * 2, none⟩) hgl]; exact x0, by rw [hb.cell (p := ⟨g, o + i * 2 + 1, none⟩) hgl, ← HH.out.1.bel.cell (p := ⟨g, o + i * 2 + 1, none⟩) hgl]; exact x1⟩)
      by_cases hv : 0 ≤ x1v ∧ 0 ≤ x2v
      · have hst := once_set (HH.out.1.below ((Below.refl _ wr).drew)) (hfx.fit hv) (by have := HL.out; omega)
        have HN : Hid (foldS (l.take (i + 1)) = setA x1v x2v (foldS (l.take i))) := hd (by rw [HT.out, foldS_snoc]; unfold stepS; rw [if_pos hv])
        have HS : Hid (SetSo (l.take (i + 1)) (foldS (l.take (i + 1)))) := hd (by rw [HT.out, foldS_snoc]; exact HH.out.2.1.step hfx)
        have HLN : Hid ((foldS (l.take (i + 1))).length ≤ i + 1) := hd (by rw [HT.out, foldS_snoc]; exact Nat.le_trans (step_len _) (by have := HL.out; omega))
        have HG := hd HH.out.2.1.good
        simp only at hst
        clear hv HH HT
        go_wp2_with fail
        go_region_held3 (fun w' => w'.cell? ⟨g, o + i * 2, none⟩ = some (.int .i64 x1v) ∧ w'.cell? ⟨g, o + i * 2 + 1, none⟩ = some (.int .i64 x2v)) (go_keep)
          (first
            | (go_at_call 13; refine hst.mono ?_; rintro e3 w3 ⟨rfl, hO3⟩
               obtain ⟨y0, y1⟩ := HK.out w3 hO3.bel
               have HO3 := hd hO3
               clear hO3))
        obtain ⟨w4, hrun, hO4⟩ := (HO3.out.below ((Below.refl _ w3).drew)).store HG.out (id := x1v) (due := x2v) hfx.1 hfx.2 (by have := HL.out; omega)
        have HO4 := hd hO4
        clear hO4 hst x0 x1
        go_wp2_with fail
        go_region
        all_goals clear hrun y0 y1
        all_goals go_wp2_with fail
        all_goals go_roundg (gk - 1)
        all_goals first
          | (case measure => omega)
          | (case rel => exact ⟨i + 1, by go_num, by omega, hd ⟨by rw [HN.out]; exact HO4.out, HS.out, HLN.out⟩⟩)
      · have hst := once_set_no (HH.out.1.below ((Below.refl _ wr).drew)) (id := x1v) (due := x2v) (by omega)
        have HN : Hid (foldS (l.take (i + 1)) = foldS (l.take i)) := hd (by rw [HT.out, foldS_snoc]; unfold stepS; rw [if_neg hv])
        have HS : Hid (SetSo (l.take (i + 1)) (foldS (l.take (i + 1)))) := hd (by rw [HT.out, foldS_snoc]; exact HH.out.2.1.step hfx)
        clear hv HH HT
        go_wp2_with fail
        go_region_held3 (fun w' => w'.cell? ⟨g, o + i * 2, none⟩ = some (.int .i64 x1v) ∧ w'.cell? ⟨g, o + i * 2 + 1, none⟩ = some (.int .i64 x2v)) (go_keep)
          (first
            | (go_at_call 13; refine hst.mono ?_; rintro e3 w3 ⟨rfl, hO3⟩
               obtain ⟨y0, y1⟩ := HK.out w3 hO3.bel
               have HO3 := hd hO3
               clear hO3))
        clear hst x0 x1
        go_wp2_with fail
        go_roundg (gk - 1)
        case measure => omega
        case rel => exact ⟨i + 1, by go_num, by omega, hd ⟨by rw [HN.out]; exact HO3.out, HS.out, by rw [HN.out]; have := HL.out; omega⟩⟩
    · have ein : i = n0 := by omega
      have HA : Hid (∃ L, Once w wr b mb L L ∧ SetSo l L ∧ L.length ≤ 1048576) := hd (by
        have ei : l.take i = l := List.take_of_length_le (by rw [hn0.out]; omega)
        have h3 := HH.out
        rw [ei] at h3
        exact ⟨_, h3.1, h3.2.1, by have := h3.2.2; omega⟩)
      obtain ⟨wo, hwo⟩ : ∃ W, Hid (W = wr) := ⟨_, rfl⟩
      rw [← hwo.out] at HA ⊢
      subst ein
      clear HH hlt hwo hik
      go_wp2_with fail
      go_loopg [10, 11, 12] n1 (fun k v10 v11 v12 wr => ∃ j : Nat, v10 = .int .i64 (j : Int) ∧ j + k = n1 ∧ Hid (∃ L, Once w wr b mb L L ∧ SetSo l L ∧ L.length ≤ 1048576))
      case atStart => exact ⟨0, rfl, by omega, HA⟩
      case round =>
        obtain ⟨j, rfl, hjk, HH⟩ := hrel
        clear HA
        obtain ⟨L, hO, hS, hL⟩ := HH.out
        by_cases hlt : j < n1
        · have hlt' : (j : Int) < (n1 : Int) := by omega
          obtain ⟨g, o, rfl, x0⟩ := rd_int (H1.out.below hO.bel) j (by rw [hn1.out]; exact hlt)
          have hgl : g < w.heap.size := by
            obtain ⟨g', o', e, hc⟩ := H1.out _ _ (iC_at gone j (by rw [hn1.out]; exact hlt))
            cases e
            exact World.block_lt_of_cell? w _ hc
          have hfx : Fit64 (gone.getD j 0) := F1.out _ (getD_mem (by rw [hn1.out]; exact hlt))
          generalize gone.getD j 0 = id at *
          have HK : Hid (∀ W : World, Below w.heap.size w W → W.cell? ⟨g, o + j, none⟩ = some (.int .i64 id)) := hd (fun W hb => by rw [hb.cell (p := ⟨g, o + j, none⟩) hgl, ← hO.bel.cell (p := ⟨g, o + j, none⟩) hgl]; exact x0)
          have hlk := hO.look hS.good hfx
          rw [due_is hS.good] at hlk
          have hcl := once_clear hO hfx (by omega)
          have HE : Hid (∀ W, Once w W b mb (clr id L) L → ∃ w2, (∀ ty, (Builtin.delete_ #[42, 3] ty #[.map (some mb), .int .i64 id]).run Try.prog W = .ok (.tuple #[]) w2) ∧ ∃ L, Once w w2 b mb L L ∧ SetSo l L ∧ L.length ≤ 1048576) := hd (fun W hW => by
            obtain ⟨w2, r1, r2⟩ := hW.drop hS.good hfx
            exact ⟨w2, r1, _, r2, hS.sub (hS.good.clr id) (fun t ht => (clr_mem.1 ht).1), Nat.le_trans (List.length_filter_le _ _) hL⟩)
          generalize isSet id L = B at *
          generalize (dueA id L).1 = d at *
          clear HH hO hS hL
          go_upto_region 16 with fail
          go_upto_region 18 with (first | (go_at_call 14; refine hcl.mono ?_; rintro e3 w3 ⟨rfl, hO3⟩; have y0 := HK.out w3 hO3.bel; obtain ⟨w4, hrun, hE4⟩ := HE.out w3 hO3; have HE4 := hd hE4; clear hO3 hE4))
          clear hlk hcl x0
          go_wp2_with fail
          go_roundg (gk - 1)
          case measure => omega
          case rel => exact ⟨j + 1, by go_num, by omega, HE4⟩
        · have ejn : j = n1 := by omega
          subst ejn
          have hln := once_len hO
          have hlm := fun ty => hO.len ty
          have HB0 : Hid (∃ L, Once w wr b mb L L ∧ SetSo l L ∧ L.length ≤ 1048576 ∧ (n2 + 1 = 0 → L = [])) := hd ⟨L, hO, hS, hL, fun e => by omega⟩
          generalize L.length = nL at hln hlm
          clear HH hO hS hL hlt hjk
          go_upto_region 21 with (first | (go_at_call 12; refine hln.mono ?_; rintro e3 wr ⟨rfl, rfl⟩))
          clear hln hlm
          obtain ⟨wp, hwp⟩ : ∃ W, Hid (W = wr) := ⟨_, rfl⟩
          rw [← hwp.out] at HB0 ⊢
          clear hwp
          go_wp2_with fail
          go_loopg [13, 14, 15, 16, 17, 18, 19, 20, 21, 22] (n2 + 1) (fun k v13 v14 v15 v16 v17 v18 v19 v20 v21 v22 wr => ∃ p : Nat, v13 = .int .i64 (p : Int) ∧ p + k = n2 + 1 ∧ Hid (∃ L, Once w wr b mb L L ∧ SetSo l L ∧ L.length ≤ 1048576 ∧ (k = 0 → L = [])))
          case atStart => exact ⟨0, rfl, by omega, HB0⟩
          case round =>
            obtain ⟨p, rfl, hpk, HH⟩ := hrel
            clear HB0
            obtain ⟨L, hO, hS, hL, hE⟩ := HH.out
            by_cases hk0 : gk = 0
            · have hpl : decide ((p : Int) ≤ (n2 : Int)) = false := by simp; omega
              have hpl' : (n2 : Int) < (p : Int) := by omega
              have hlm := fun ty => hO.len ty
              rw [hE hk0] at hlm
              simp only [List.length_nil] at hlm
              have hfx := fixed_any wr
              have HB := hd hO.bel
              clear HH hO hS hL hE hk0
              go_wp2_with (first | (go_at_call 6; refine hfx.mono ?_; rintro e3 w3 ⟨rfl, b3⟩))
              go_ret
              exact ⟨rfl, HB.out.trans (b3.mono HB.out.size)⟩
            · have hpl : (p : Int) ≤ (n2 : Int) := by omega
              obtain ⟨ko, hko⟩ : ∃ k, Hid (k = gk ∧ 1 ≤ k ∧ p + k = n2 + 1) := ⟨gk, hd ⟨rfl, by omega, hpk⟩⟩
              obtain ⟨now, hnow⟩ : ∃ now, Hid (now = if p < n2 then nows.getD p 0 else 9223372036854775807) := ⟨_, rfl⟩
              have HO := hd hO
              have HS := hd hS
              have HLL := hd hL
              clear HH hO hS hE
              go_upto_if 103 with fail
              go_cut [14] (fun v14 wy => v14 = .int .i64 now ∧ wy = wr)
              case first =>
                by_cases hpn : p < n2
                · have hpn' : (p : Int) < (n2 : Int) := by omega
                  obtain ⟨g, o, rfl, x0⟩ := rd_int (H2.out.below HO.out.bel) p (by rw [hn2.out]; exact hpn)
                  obtain rfl : now = nows.getD p 0 := by rw [hnow.out, if_pos hpn]
                  generalize nows.getD p 0 = nw at *
                  go_wp2_with fail
                  go_meet
                  case rel => exact ⟨rfl, rfl⟩
                · have hpn' : decide ((p : Int) < (n2 : Int)) = false := by simp; omega
                  have hpn'' : (n2 : Int) ≤ (p : Int) := by omega
                  obtain rfl : now = 9223372036854775807 := by rw [hnow.out, if_neg hpn]
                  go_wp2_with fail
                  go_meet
                  case rel => exact ⟨rfl, rfl⟩
              case rest =>
                obtain ⟨rfl, rfl⟩ := hcut
                have hpp := once_pop HO.out now (by omega)
                clear hL
                go_upto_region 28 with (first | (go_at_call 9; refine hpp.mono ?_; rintro e3 w3 ⟨out, L', a3, c3, rfl, hPs, hP3⟩))
                obtain ⟨N, hN⟩ : ∃ N, Hid (out.length = N) := ⟨_, rfl⟩
                have HP3 := hd hP3
                have HPS := hd hPs
                have HGL := hd HS.out.good
                have hNb : N ≤ 1048576 := by have h3 := hPs.len HS.out.good; have h4 := HLL.out; have h5 := hN.out; omega
                rw [hN.out]
                clear hP3 hPs hpp HO
                obtain ⟨w4, hw4⟩ : ∃ W, Hid (W = w3) := ⟨_, rfl⟩
                rw [← hw4.out] at HP3 ⊢
                clear hw4
                go_wp2_with fail
                go_loopg [16, 17, 18, 19] N (fun k v16 v17 v18 v19 wx => ∃ q : Nat, v16 = .int .i64 (q : Int) ∧ q + k = N ∧ Hid (Below w4.heap.size w4 wx))
                case atStart => exact ⟨0, rfl, by omega, hd (Below.refl _ _)⟩
                case round =>
                  obtain ⟨q, rfl, hqk, HBW⟩ := hrel
                  by_cases hqn : q < N
                  · have hqn' : (q : Int) < (N : Int) := by omega
                    have hmem := tAt_mem (O := out) (i := q) (by rw [hN.out]; exact hqn)
                    obtain ⟨g, rfl, x0⟩ := row_id (HP3.out.row.below HBW.out) q (by rw [hN.out]; exact hqn)
                    have htL := HPS.out.mem _ hmem
                    have hfit := HGL.out.fit _ htL.1
                    have hlk := (HP3.out.once.below HBW.out).look HGL.out hfit.id64
                    rw [dueA_some HGL.out htL.1] at hlk
                    have hd1 : decide (now < (tAt out q).1) = false := by simpa using htL.2
                    have hd2 : decide ((tAt out q).1 < 0) = false := by simpa using hfit.1.1
                    have hd3 : decide ((tAt out q).2 < 0) = false := by simpa using hfit.2.1
                    have hd4 : (tAt out q).1 ≤ now := htL.2
                    have hd5 : 0 ≤ (tAt out q).1 := hfit.1.1
                    have hd6 : 0 ≤ (tAt out q).2 := hfit.2.1
                    simp only at hlk
                    clear hmem htL hfit
                    by_cases hq0 : q = 0
                    · subst hq0
                      generalize tAt out 0 = t at *
                      obtain ⟨t1, t2⟩ := t
                      simp only at hlk x0 hd1 hd2 hd3 hd4 hd5 hd6
                      go_wp2_with fail
                      go_roundg (gk - 1)
                      case measure => omega
                      case rel => exact ⟨1, by go_num, by omega, HBW⟩
                    · obtain ⟨r, rfl⟩ : ∃ r, q = r + 1 := ⟨q - 1, by omega⟩
                      have hrn : r < N := by omega
                      have hmr := tAt_mem (O := out) (i := r) (by rw [hN.out]; exact hrn)
                      obtain ⟨g', e', y0⟩ := row_id (HP3.out.row.below HBW.out) r (by rw [hN.out]; exact hrn)
                      cases e'
                      have hps := past_any (c := c0) (H0.out.below (HP3.out.once.bel.trans (HBW.out.mono HP3.out.once.bel.size))) (by rw [hn0.out]; omega) (tAt out r).2
                      rw [HS.out.past _ (HPS.out.mem _ hmr).1, hn0.out] at hps
                      have hlt : ltT (tAt out r) (tAt out (r + 1)) := by
                        have h3 := HPS.out.rise HGL.out
                        have h4 := List.pairwise_iff_getElem.1 h3 r (r + 1) (by rw [hN.out]; omega) (by rw [hN.out]; omega) (by omega)
                        have e1 := tAt_get (O := out) (i := r) (by rw [hN.out]; omega)
                        have e2 := tAt_get (O := out) (i := r + 1) (by rw [hN.out]; omega)
                        rw [List.getElem?_eq_getElem (by rw [hN.out]; omega)] at e1 e2
                        rw [← Option.some.inj e1, ← Option.some.inj e2]
                        exact h4
                      generalize tAt out (r + 1) = t at *
                      generalize tAt out r = s at *
                      obtain ⟨t1, t2⟩ := t
                      obtain ⟨s1, s2⟩ := s
                      simp only at hlk x0 y0 hd1 hd2 hd3 hd4 hd5 hd6 hps
                      have HB5 : Hid (∀ n, Below w4.heap.size w4 (wr.drewN n)) := hd (fun n => below_drewN HBW.out n)
                      clear hmr hq0
                      by_cases hst : s1 < t1
                      · have k1 : decide (t1 < s1) = false := by simp; omega
                        have k2 : (s1 == t1) = false := by simp; omega
                        have k3 : s1 ≤ t1 := by omega
                        clear hlt
                        go_upto_region 36 with (first | (go_at_call 15; refine hps.mono ?_; rintro e5 wr ⟨rfl, rfl⟩))
                        go_quiet (fail)
                        go_wp2_with fail
                        go_roundg (gk - 1)
                        case measure => omega
                        case rel => exact ⟨r + 1 + 1, by go_num, by omega, hd (HB5.out _)⟩
                      · have hes : s1 = t1 ∧ s2 < t2 := by unfold ltT at hlt; simp only at hlt; omega
                        obtain ⟨rfl, h22⟩ := hes
                        have k1 : decide (s1 < s1) = false := by simp
                        have k2 : decide (t2 ≤ s2) = false := by simp; omega
                        clear hlt hst
                        go_upto_region 36 with (first | (go_at_call 15; refine hps.mono ?_; rintro e5 wr ⟨rfl, rfl⟩))
                        go_quiet (fail)
                        go_wp2_with fail
                        go_roundg (gk - 1)
                        case measure => omega
                        case rel => exact ⟨r + 1 + 1, by go_num, by omega, hd (HB5.out _)⟩
                  · have eqN : q = N := by omega
                    subst eqN
                    have HC0 : Hid (Once w wr b mb L' (clrs (out.take 0) L) ∧ Row wr 3 1 a3 out.length c3 (idC out)) := hd ⟨HP3.out.once.below HBW.out, HP3.out.row.below HBW.out⟩
                    have HNM := hd HP3.out.new
                    obtain ⟨w5, hw5⟩ : ∃ W, Hid (W = wr) := ⟨_, rfl⟩
                    rw [← hw5.out] at HC0 ⊢
                    clear hw5 HP3 HBW hqk hqn
                    go_wp2_with fail
                    go_loopg [20] q (fun k v20 wx => ∃ r : Nat, v20 = .int .i64 (r : Int) ∧ r + k = q ∧ Hid (Once w wx b mb L' (clrs (out.take r) L) ∧ Row wx 3 1 a3 out.length c3 (idC out)))
                    case atStart => exact ⟨0, rfl, by omega, HC0⟩
                    case round =>
                      obtain ⟨r, rfl, hrk, HC⟩ := hrel
                      clear HC0
                      by_cases hrn : r < q
                      · have hrn' : (r : Int) < (q : Int) := by omega
                        obtain ⟨g, rfl, x0⟩ := row_id HC.out.2 r (by rw [hN.out]; exact hrn)
                        have hfit := HGL.out.fit _ (HPS.out.mem _ (tAt_mem (O := out) (i := r) (by rw [hN.out]; exact hrn))).1
                        obtain ⟨w6, hrun, hO6, hM6⟩ := HC.out.1.drop2 (HGL.out.clrs _) hfit.id64
                        have HE : Hid (Once w w6 b mb L' (clrs (out.take (r + 1)) L) ∧ Row w6 3 1 (some ⟨g, 0, none⟩) out.length c3 (idC out)) := hd ⟨by
                          rw [take_one out r (by rw [hN.out]; exact hrn) (0, 0), clrs_snoc]
                          exact hO6, HC.out.2.mod hM6 (fun k hk e => HNM.out k hk e)⟩
                        generalize tAt out r = t at *
                        obtain ⟨t1, t2⟩ := t
                        simp only at x0 hrun
                        clear hO6 hM6 hfit HC
                        go_wp2_with fail
                        go_roundg (gk - 1)
                        case measure => omega
                        case rel => exact ⟨r + 1, by go_num, by omega, HE⟩
                      · have erq : r = q := by omega
                        subst erq
                        have HOF : Hid (Once w wr b mb L' L') := hd (by
                          have h3 := HC.out.1
                          rw [List.take_of_length_le (by rw [hN.out]; exact Nat.le_refl _), ← HPS.out.clrs] at h3
                          exact h3)
                        have hnx := once_next HOF.out
                        have hln := once_len HOF.out
                        have hlm := fun ty => HOF.out.len ty
                        have HGF : Hid (∃ L, Once w wr b mb L L ∧ SetSo l L ∧ L.length ≤ 1048576 ∧ (ko - 1 = 0 → L = [])) := hd ⟨L', HOF.out, HS.out.sub HOF.out.good HPS.out.sub, by have h3 := HPS.out.len HGL.out; have h4 := HLL.out; omega, fun e => by
                          have h3 := hko.out
                          have h4 : ¬ p < n2 := by omega
                          have h5 := HPS.out
                          rw [hnow.out, if_neg h4] at h5
                          exact h5.last HGL.out⟩
                        have HNX : Hid (∀ nn is, NextA L' nn is → (is = true → now < nn ∧ 0 < L'.length) ∧ (is = false → L'.length = 0)) := hd (fun nn is hA => by
                          rcases hA with ⟨h3, h4, h5⟩ | ⟨s, h3, h4, h5⟩
                          · exact ⟨(fun e => by rw [h5] at e; cases e), (fun _ => by rw [h3]; rfl)⟩
                          · refine ⟨fun _ => ⟨?_, List.length_pos_of_mem h3.1⟩, (fun e => by rw [h5] at e; cases e)⟩
                            rcases HPS.out.left with h6 | ⟨s', h6, h7⟩
                            · rw [h6] at h3; exact absurd h3.1 List.not_mem_nil
                            · rw [h4, h3.uniq h6]; exact h7)
                        generalize L'.length = nF at *
                        clear HC HOF hrk hrn HNM
                        go_upto_region 43 with (first | (go_at_call 16; refine hnx.mono ?_; rintro e7 wr ⟨⟨nn, is, rfl, hA⟩, rfl⟩; obtain ⟨hA1, hA2⟩ := HNX.out nn is hA))
                        clear hnx hA HNX
                        cases is with
                        | true =>
                          obtain ⟨j1, j2⟩ := hA1 rfl
                          have j3 : decide (nn ≤ now) = false := by simp; omega
                          have j4 : (0 : Int) < (nF : Int) := by omega
                          clear hA1 hA2
                          go_wp2_with (first | (go_at_call 12; refine hln.mono ?_; rintro e8 wr ⟨rfl, rfl⟩))
                          go_roundg (ko - 1)
                          case measure => have := hko.out; omega
                          case rel => exact ⟨p + 1, by go_num, by have := hko.out; omega, HGF⟩
                        | false =>
                          have j2 := hA2 rfl
                          subst j2
                          clear hA1 hA2
                          go_wp2_with (first | (go_at_call 12; refine hln.mono ?_; rintro e8 wr ⟨rfl, rfl⟩))
                          go_roundg (ko - 1)
                          case measure => have := hko.out; omega
                          case rel => exact ⟨p + 1, by go_num, by have := hko.out; omega, HGF⟩
end Go.Proofs.Ytdpbkoohhnpjmaa
