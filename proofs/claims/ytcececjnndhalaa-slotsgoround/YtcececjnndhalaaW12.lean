/- SlotsGoRound returns true. -/
import Derived.Test.YtcececjnndhalaaW11
import Derived.Test.YtcececjnndhalaaM2
import Derived.Deep.RegionWith
import Derived.Deep.Cut
import Derived.Deep.CutRange
namespace Go.Proofs.Ytcececjnndhalaa
open Go.RowKit

set_option maxRecDepth 100000 in
set_option maxHeartbeats 4000000 in
theorem slotsGoRound_walk (ad : Option Addr) (cap : Nat) (l : List Int) (P p from0 : Int) (w : World) (hC : Cells w ad (iCells l)) (hnone : ad = none → cap = 0)
    (ha : from0 < 9223372036854775808) (ha' : -9223372036854775808 ≤ from0) :
    Calls Try.prog 4 #[.slice ad l.length cap, .int .i64 P, .int .i64 p, .int .i64 from0] w fun e w' => e = .returned (.bool true) ∧ Below w.heap.size w w' := by
  have hfx := fixed_any w
  by_cases hlong : 1048576 < l.length
  · clear hC
    go_enter Try.func4, Try.ntmps4
    go_wp2_with fail
    refine hfx.mono ?_
    rintro e w1 ⟨rfl, hb1⟩
    go_wp2_with fail
    refine (long_yes ad l.length cap w1 hlong).mono ?_
    rintro e w2 ⟨rfl, rfl⟩
    go_wp2
    go_ret
    exact ⟨rfl, hb1⟩
  · obtain ⟨i0, hi, hz0, hz1, hz2⟩ := info_parts info3
    have hlen : l.length ≤ 1048576 := by omega
    have hll : Hid ((iCells l).length = l.length) := iCells_len l
    have hn0 : ad = none → l.length = 0 ∧ cap = 0 := fun e => ⟨cells_none (w := w) (by rw [← e]; exact hC), hnone e⟩
    have hC0 : Hid (Cells w ad (iCells l)) := hC
    clear hC hnone hlong
    go_enter Try.func4, Try.ntmps4
    go_wp2_with fail
    refine hfx.mono ?_
    rintro e w1 ⟨rfl, hb1⟩
    go_wp2_with fail
    refine (long_no ad l.length cap w1 hlen).mono ?_
    rintro e w2 ⟨rfl, rfl⟩
    have hbw := hb1.alloc hb1.size
    go_wp2_with (first | (at_builtin; refine wpList_append_any _ rfl _ _ 22 rfl w2.heap.size 3 i0 (.int .i64 0) 1 8 Try.underlying22 hi hz0 hz1 hz2 rfl (by decide) _ _ _ rfl (World.ownsRow_made w2 #[] 0 (Nat.le_refl _) (Nat.zero_le _) (by simp)) ad l.length cap (iCells l) rfl (by rw [hll.out, Nat.mul_one]) hn0 (cells_any hC0.out (hbw _)) (iCells_one l) (by unfold maxLen; omega) (by omega) (by simp) ?_; intro v' w3 hown hgrow; obtain ⟨a4, cap4, rfl, hC4⟩ := copy_owns (n := l.length) (l := l) (by simpa using hown)) | fail)
    have hb3 : Below w.heap.size w w3 := by
      refine (hbw _).grown hgrow ?_ ?_
      · have := hb1.size; simp; omega
      · intro k hk
        cases hk
        exact hb1.size
    have hC5 := hC0.out.kept hb3
    clear hgrow hown hbw hb1 hll hn0
    rcases new_either l P with ok | ⟨er, k, her, hno⟩
    · have hnew := new_yes a4 cap4 l P w3 hC4 ok
      have hpos := ok.pos
      have h64 := ok.len
      clear ok
      refine hnew.mono ?_
      rintro e w4 ⟨sb, lb, cp, rfl, hS, hb4, _, _⟩
      have hb5 : Below w.heap.size w w4 := hb3.trans (hb4.mono hb3.size)
      have hC6 := hC5.kept hb4
      clear hb3 hb4 hnew hC4 hfx hC5 hC0
      obtain ⟨tb, toff, rfl, hct⟩ := hC6 (iCells_ne l 0 hpos)
      clear hC6
      obtain ⟨G, hG⟩ := isGap_some (l := l) p hpos
      have hgap := gap_any sb lb cp l w4 hS p G hG
      have hG64 : G ≤ 64 := by rcases hG with ⟨h1, _⟩ | ⟨_, _, h1, _⟩ <;> omega
      have hG : Hid (IsGap l p G) := hG
      go_upto_if 56 with fail
      go_cut [3, 56] from 56 to 59 (fun s3 s56 wx => ∃ Z : Nat, s3 = .int .i64 Z ∧ Z < 9223372036854775808 ∧ wx = w4)
      case first =>
        by_cases hneg : from0 < 0
        · go_wp2_with fail
          go_meet
          case rel => exact ⟨(-(from0 + 1)).toNat, by congr 1; omega, by omega, rfl⟩
        · have hneg' : 0 ≤ from0 := by omega
          have hnegd : decide (from0 < 0) = false := by simp; omega
          go_wp2_with fail
          go_meet
          case rel => exact ⟨from0.toNat, by congr 1; omega, by omega, rfl⟩
      case rest =>
        obtain ⟨Z, rfl, hZ, rfl⟩ := hcut
        clear ha ha'
        have eF : (Z : Int) % 1152921504606846976 = ((Z % 1152921504606846976 : Nat) : Int) := by simp
        have hF : Z % 1152921504606846976 < 1152921504606846976 := Nat.mod_lt _ (by decide)
        generalize Z % 1152921504606846976 = F at *
        go_wp2_with fail
        refine hgap.mono ?_
        rintro e w5 ⟨rfl, n5, rfl⟩
        go_wp2_with fail
        obtain ⟨wz, hwz⟩ : ∃ W, Hid (W = wc.drewN n5) := ⟨_, rfl⟩
        rw [← hwz.out]
        have hbz : Below w.heap.size w wz := by rw [hwz.out]; exact below_drewN hb5 n5
        have hSz : Sl wz sb lb cp l := by rw [hwz.out]; exact hS.drewN n5
        have hctz : ∀ i u, (iCells l)[i]? = some u → wz.cell? ⟨tb, toff + i, none⟩ = some u := fun i u hu => by
          rw [hwz.out]
          have h1 := hct i u hu
          exact ((below_drewN (Below.refl wc.heap.size wc) n5).cell (World.block_lt_of_cell? wc _ h1)).trans h1
        clear hwz hgap hS hct hb5
        obtain ⟨K3, hK3⟩ : ∃ K3, Hid (K3 = 3 * l.length) := ⟨_, rfl⟩
        obtain ⟨T, hT⟩ : ∃ T, Hid (T = F + K3) := ⟨_, rfl⟩
        have e3 : (3 : Int) * (l.length : Int) = (K3 : Int) := by rw [hK3.out]; omega
        have eT : (F : Int) + (K3 : Int) = (T : Int) := by rw [hT.out]; omega
        have hK192 : K3 ≤ 192 := by rw [hK3.out]; omega
        have hTF : T ≤ 1152921504606847168 := by rw [hT.out]; omega
        have hFT : F ≤ T := by rw [hT.out]; omega
        go_loopw [14, 16, 17, 18] (fun v14 v16 v17 v18 wr => ∃ n row L t : Nat, F ≤ t ∧ t ≤ T ∧ n + F ≤ t ∧ row + F ≤ t ∧ L + F ≤ t ∧ v14 = .int .i64 n ∧ v16 = .int .i64 row ∧ v17 = .int .i64 L ∧ v18 = .int .i64 t ∧ Hid (n + ahead l p F = ahead l p t) ∧ Hid (RunInv l p F t row L) ∧ Below wz.heap.size wz wr) (fun _ _ _ v18 _ => T - (intOf v18).toNat)
        case atStart => exact ⟨0, 0, 0, F, Nat.le_refl _, hFT, by omega, by omega, by omega, rfl, rfl, rfl, rfl, by show _ = _; simp, RunInv.start l p F, Below.refl _ _⟩
        case round =>
          obtain ⟨n, row, L, t, hFt, htT, hn1, hr1, hL1, rfl, rfl, rfl, rfl, hn, hrun, hbr⟩ := hrel
          have hSr : Sl wr sb lb cp l := hSz.kept hbr
          by_cases hlt : t < T
          · have hlt' : (t : Int) < (T : Int) := by omega
            have hm := Nat.mod_lt t hpos
            have how := owner_any sb lb cp l wr hSr t (by omega)
            have em : (t : Int) % (l.length : Int) = ((t % l.length : Nat) : Int) := by simp
            have tz : ((l.length : Int) == 0) = false := by rw [beq_eq_false_iff_ne]; omega
            obtain ⟨x, hx⟩ : ∃ x, Hid (ownN l t = x) := ⟨_, rfl⟩
            have hx' : l.getD (t % l.length) 0 = x := hx.out
            have hcx := hctz (t % l.length) _ (iCells_at l _ hm)
            rw [hx'] at hcx
            rw [hx.out] at how
            have hsucc : Hid (ahead l p (t + 1) = ahead l p t + (if ownN l t = p then 1 else 0)) := ahead_succ l p t hpos
            have hcnt := fun W (hW : Sl W sb lb cp l) => count_any sb lb cp l W hW p F t (by omega) (by omega)
            rw [show countN l p F t = n by
              have := hn.out
              unfold countN
              rw [Int.toNat_natCast, Int.toNat_natCast]
              omega] at hcnt
            clear hx'
            generalize t % l.length = tm at *
            go_wp2_with fail
            refine how.mono ?_
            rintro e w6 ⟨rfl, n6, rfl⟩
            obtain ⟨wq, hwq⟩ : ∃ W, Hid (W = wr.drewN n6) := ⟨_, rfl⟩
            rw [← hwq.out]
            have hbq : Below wz.heap.size wz wq := by rw [hwq.out]; exact below_drewN hbr n6
            have hSq : Sl wq sb lb cp l := hSz.kept hbq
            have hcq : wq.cell? ⟨tb, toff + tm, none⟩ = some (.int .i64 x) := (hbq.cell (World.block_lt_of_cell? wz _ hcx)).trans hcx
            have hoq := fun m => owner_any sb lb cp l (wq.drewN m) (hSq.drewN m) t (by omega)
            rw [hx.out] at hoq
            have hcnq := fun m => hcnt (wq.drewN m) (hSq.drewN m)
            clear how hcnt hcx hwq hbr hSr
            by_cases he : ownN l t = p
            · have hN : IsNth l p F n t := ⟨hFt, he, by have := hn.out; omega⟩
              have hnq := fun m => nth_any sb lb cp l (wq.drewN m) (hSq.drewN m) p F n t (by omega) (by omega) hN
              rw [nthR_near (by omega)] at hnq
              have H1 : Hid (n + 1 + ahead l p F = ahead l p (t + 1)) := by
                show _ = _
                rw [hsucc.out, if_pos he]
                have := hn.out
                omega
              have H2 : Hid (RunInv l p F (t + 1) 0 L) := hrun.out.yes he
              have t1 : (x == p) = true := by rw [← hx.out, beq_iff_eq]; exact he
              clear hN he hn hrun hsucc hx
              go_wp2_with fail
              go_quiet (first | with_reducible exact Calls.quiet_of (hoq _) | with_reducible exact Calls.quiet_of (hcnq _))
              go_wp2_with fail
              refine (hnq _).mono ?_
              rintro e w7 ⟨rfl, n7, rfl⟩
              go_wp2_with fail
              exact ⟨⟨n + 1, 0, L, t + 1, by omega, by omega, by omega, by omega, by omega, by go_num, rfl, rfl, by go_num, H1, H2, below_drewN hbq _⟩, by simp [intOf]; omega⟩
            · have H1 : Hid (n + ahead l p F = ahead l p (t + 1)) := by
                show _ = _
                rw [hsucc.out, if_neg he]
                have := hn.out
                omega
              have H2 : Hid (RunInv l p F (t + 1) (row + 1) (max L (row + 1))) := hrun.out.no he
              have t1 : (x == p) = false := by rw [← hx.out, beq_eq_false_iff_ne]; exact he
              clear he hn hrun hsucc hx
              by_cases hmx : L < row + 1
              · rw [Hid, Nat.max_eq_right (Nat.le_of_lt hmx)] at H2
                have H2 : Hid _ := H2
                have hmx' : (L : Int) < (row : Int) + 1 := by omega
                have hmxn : L ≤ row := by omega
                go_wp2_with fail
                go_quiet (first | with_reducible exact Calls.quiet_of (hoq _) | with_reducible exact Calls.quiet_of (hcnq _))
                go_wp2_with fail
                exact ⟨⟨n, row + 1, row + 1, t + 1, by omega, by omega, by omega, by omega, by omega, rfl, by go_num, by go_num, by go_num, H1, H2, below_drewN hbq _⟩, by simp [intOf]; omega⟩
              · rw [Hid, Nat.max_eq_left (by omega)] at H2
                have H2 : Hid _ := H2
                have hmx' : (row : Int) + 1 ≤ (L : Int) := by omega
                go_wp2_with fail
                go_quiet (first | with_reducible exact Calls.quiet_of (hoq _) | with_reducible exact Calls.quiet_of (hcnq _))
                go_wp2_with fail
                exact ⟨⟨n, row + 1, L, t + 1, by omega, by omega, by omega, by omega, by omega, rfl, by go_num, by go_num, by go_num, H1, H2, below_drewN hbq _⟩, by simp [intOf]; omega⟩
          · have et : t = T := by omega
            have hltd : decide ((t : Int) < (T : Int)) = false := by simp; omega
            have hge : (T : Int) ≤ (t : Int) := by omega
            have hrt : Hid (RunInv l p F (F + 3 * l.length) row L) := by
              have := hrun.out
              rw [et, hT.out, hK3.out] at this
              exact this
            have hn3 : Hid (n = 3 * cnt l p) := by
              have h1 := hn.out
              have h2 := ahead_round l p hpos F 3
              rw [et, hT.out, hK3.out] at h1
              show _ = _
              omega
            by_cases hc0 : cnt l p = 0
            · have hab := fun W (hW : Sl W sb lb cp l) => nth_absent sb lb cp l W hW p F 0 hc0
              have hG0 : G = 0 := by
                rcases hG.out with ⟨h1, _⟩ | ⟨h1, _⟩
                · exact h1
                · omega
              have tG : ((G : Int) == 0) = true := by rw [beq_iff_eq]; omega
              have tn : ((n : Int) == 0) = true := by rw [beq_iff_eq]; have := hn3.out; omega
              have hbw := hbz.trans (hbr.mono hbz.size)
              clear hG0 hc0 hn3 hrt hn hrun et hctz hG
              go_wp2_with fail
              refine (hab _ hSr).mono ?_
              rintro e w8 ⟨rfl, rfl⟩
              go_wp2
              go_ret
              exact ⟨rfl, hbw⟩
            · have hGp : 0 < G := by
                rcases hG.out with ⟨_, h1⟩ | ⟨_, h1, _⟩
                · exact absurd h1 hc0
                · exact h1
              have tG : ((G : Int) == 0) = false := by rw [beq_eq_false_iff_ne]; omega
              have hnp : 0 < n := by have := hn3.out; omega
              have hnp' : (0 : Int) < (n : Int) := by omega
              have hLG := hrt.out.done hpos hG.out hGp
              have tL : ((L : Int) + 1 == (G : Int)) = true := by rw [beq_iff_eq]; omega
              have hbw := hbz.trans (hbr.mono hbz.size)
              clear hLG hc0 hn3 hrt hn hrun et hctz hG
              go_wp2
              go_ret
              exact ⟨rfl, hbw⟩
    · have hnew := new_no a4 cap4 l P w3 hC4 er k hno
      have t1 : ((er : Int) == 0) = false := by rw [beq_eq_false_iff_ne]; omega
      have t2 : ((er : Int) != 0) = true := by simp; omega
      refine hnew.mono ?_
      rintro e w4 ⟨rfl, rfl⟩
      go_wp2
      go_ret
      exact ⟨rfl, hb3⟩
end Go.Proofs.Ytcececjnndhalaa
