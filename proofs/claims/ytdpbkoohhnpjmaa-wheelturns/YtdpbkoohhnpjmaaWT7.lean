/- WheelTurns' walk. -/
import Derived.Test.YtdpbkoohhnpjmaaWT6
namespace Go.Proofs.Ytdpbkoohhnpjmaa
open Go.RowKit Go.Sort Go.Shelf Go.Maps

def FitO (x : Op4) : Prop := Fit64 x.id ∧ Fit64 x.at'

set_option maxRecDepth 100000 in
set_option maxHeartbeats 4000000 in
theorem wheelTurns_walk {w : World} {a0 : Option Addr} {c0 : Nat} {sc : List Op4} (hR : Rd w a0 (opC sc)) (hN : sc.length < 4398046511104) (hf : ∀ x ∈ sc, FitO x) :
    Calls Try.prog 4 #[.slice a0 sc.length c0] w fun e w' => e = .returned (.bool true) ∧ Below w.heap.size w w' := by
  have hnw := @wnew_any w
  have HR := hd hR
  have HF := hd hf
  obtain ⟨N, hNN⟩ : ∃ N, Hid (sc.length = N) := ⟨_, rfl⟩
  rw [hNN.out] at hN ⊢
  clear hR hf
  go_enter Try.func4, Try.ntmps4
  go_upto_region 3 with (go_at_call 7; refine hnw.mono ?_; rintro e0 w1 ⟨b, F, rfl, q1, q2, q3⟩)
  have HM0 := hd (many_first q1 q2 q3)
  obtain ⟨ws, hws⟩ : ∃ W, Hid ((((w1.alloc (.cells #[.pointer (some ⟨b, 0, none⟩)] 24)).alloc (.cells #[.slice none 0 0] 30)).alloc (.cells #[.pointer (some ⟨w1.heap.size + 1, 0, none⟩)] 27)) = W) := ⟨_, rfl⟩
  rw [hws.out] at HM0 ⊢
  clear hnw q1 q2 q3 hws
  go_wp2_with fail
  go_loopg [3, 4, 5, 6, 7] (N + 1) (fun k v3 v4 v5 v6 v7 wr => ∃ (n : Nat) (a1 : Option Addr) (c1 : Nat) (a2 : Option Addr) (c2 i : Nat), v3 = .slice a1 n c1 ∧ v4 = .slice a2 n c2 ∧ v5 = .int .i64 (i : Int) ∧ i + k = N + 1 ∧ 1 ≤ k ∧ 1 ≤ n ∧ n ≤ 1000 ∧ Hid (ManyAt w wr n a1 c1 a2 c2 i))
  case atStart => exact ⟨1, _, 1, _, 1, 0, rfl, rfl, rfl, by omega, by omega, by omega, by omega, HM0⟩
  case round =>
    obtain ⟨n, a1, c1, a2, c2, i, rfl, rfl, rfl, hik, hk1, hn1, hn2, HM⟩ := hrel
    clear HM0
    obtain ⟨B1, B2, Ls, F, hM⟩ := HM.out
    have hiN : (i : Int) ≤ (N : Int) := by omega
    obtain ⟨m, rfl⟩ : ∃ m, n = m + 1 := ⟨n - 1, by omega⟩
    obtain ⟨g1, rfl, x1⟩ := hM.cell1 m (by omega)
    by_cases hlt : i < N
    · have hne : ((i : Int) == (N : Int)) = false := by simp; omega
      have hlt' : (i : Int) < (N : Int) := by omega
      obtain ⟨go, oo, rfl, y0, y1, y2, y3⟩ := rd_op (HR.out.below hM.bel) i (by rw [hNN.out]; exact hlt)
      have hfo : FitO (oAt sc i) := HF.out _ (oAt_mem (by rw [hNN.out]; exact hlt))
      generalize oAt sc i = op at *
      obtain ⟨kd, on, id, at'⟩ := op
      simp only at y0 y1 y2 y3
      have hfo1 : Fit64 id := hfo.1
      have hfo2 : Fit64 at' := hfo.2
      have HMM := hd hM
      clear HM hM hfo
      go_upto_region 10 with fail
      obtain ⟨w2, hw2⟩ : ∃ W, Hid (wr.alloc (.cells #[.int .i64 kd, .int .i64 on, .int .i64 id, .int .i64 at'] 33) = W) := ⟨_, rfl⟩
      obtain ⟨G, hG⟩ : ∃ G, Hid (wr.heap.size = G) := ⟨_, rfl⟩
      have HB2 : Hid (Below wr.heap.size wr w2) := hd (by rw [← hw2.out]; exact below_al wr _)
      have HX : Hid (OpBox w2 G kd on id at') := hd ⟨by rw [← hw2.out, ← hG.out]; exact heap_alloc_new wr _⟩
      rw [hw2.out, hG.out]
      obtain ⟨z0, z1, z2, z3⟩ := HX.out.cells
      have HM2 := hd (HMM.out.below HB2.out)
      clear y0 y1 y2 y3 x1 hw2
      obtain ⟨q, hq, hz⟩ := rem_at on (n := m + 1) (by omega)
      have hcast : ((m + 1 : Nat) : Int) = (m : Int) + 1 := by omega
      rw [hcast] at hz
      clear hcast
      go_upto_if 42 with fail
      go_cut [7] (fun v7 wy => v7 = .int .i64 (q : Int) ∧ wy = w2)
      case first =>
        rcases hz with ⟨hz1, hz2⟩ | ⟨hz1, hz2⟩
        · have hz3 : decide (on.tmod ((m : Int) + 1) < 0) = false := by simp; omega
          rw [hz3]
          go_wp2_with fail
          go_meet
          case rel => exact ⟨by first | rfl | rw [hz2], rfl⟩
        · have hz3 : decide (on.tmod ((m : Int) + 1) < 0) = true := by simp; omega
          rw [hz3]
          have hzb : -2000 < on.tmod ((m : Int) + 1) := by omega
          go_wp2_with fail
          go_meet
          case rel => exact ⟨by first | rfl | (rw [← hz2]), rfl⟩
      case rest =>
        obtain ⟨rfl, rfl⟩ := hcut
        clear hz
        by_cases hkd : kd = 1
        · have hkd' : (kd == 1) = true := by simp [hkd]
          by_cases hfull : m + 1 < 1000
          · have hfull' : ((m : Int) + 1) < 1000 := by omega
            have hnw := @wnew_any wc
            clear hkd
            go_upto_region 15 with fail
            have hpush := fun (W : World) (hb : Below wc.heap.size wc W) (b' : Nat) => push_any (w := W) (T := 26) (e := 24) (z := .pointer none) (size := 1) (bytes := 8) Try.underlying26 infoPW rfl (HM2.out.row1.below hb) (by unfold maxLen; omega) (by omega) [.pointer (some ⟨b', 0, none⟩)] rfl (by simp [Value.oneCell'])
            go_upto_region 16 with (first
              | (go_at_call 7; refine hnw.mono ?_; rintro e3 w3 ⟨b', F0, rfl, k1, k2, k3⟩; obtain ⟨a1', c1', w4, hap, R1, M1, N1⟩ := hpush w3 k3 b'; replace hap := hd hap)
              | (at_builtin; refine wpList_append_run rfl _ _ _ rfl _ _ _ _ rfl rfl hap.out ?_))
            have hrow2 : Row (w4.alloc (.cells #[.slice none 0 0] 30)) 27 1 a2 (m + 1) c2 (pC B2) := ((HM2.out.row2.below k3).mod M1 (fun k hk e => (HM2.out.r1 k e).2.1 hk)).below (below_al _ _)
            obtain ⟨a2', c2', w5, hap2, R2, M2, N2⟩ := push_any (T := 31) (e := 27) (z := .pointer none) (size := 1) (bytes := 8) Try.underlying31 infoPR rfl hrow2 (by unfold maxLen; omega) (by omega) [.pointer (some ⟨w4.heap.size, 0, none⟩)] rfl (by simp [Value.oneCell'])
            have HE : Hid (ManyAt w w5 (m + 1 + 1) a1' c1' a2' c2' (i + 1)) := hd (by
              obtain ⟨F', hF'⟩ := HM2.out.grow k1 k2 k3 R1 M1 N1 R2 M2 N2
              exact ⟨_, _, _, _, hF'.more (by omega)⟩)
            have hsz4 : (w4.alloc (.cells #[.slice none 0 0] 30)).heap.size = w4.heap.size + 1 := by simp
            rw [hsz4] at hap2
            replace hap2 := hd hap2
            clear k1 k2 k3 R1 M1 N1 R2 M2 N2 hap hrow2 hnw hpush hsz4
            go_wp2_with (first | (at_builtin; refine wpList_append_run rfl _ _ _ rfl _ _ _ _ rfl rfl hap2.out ?_))
            go_roundg (gk - 1)
            case measure => omega
            case rel => exact ⟨m + 1 + 1, a1', c1', a2', c2', i + 1, rfl, rfl, by go_num, by omega, by omega, by omega, by omega, HE⟩
          · have hfull' : decide (((m : Int) + 1) < 1000) = false := by simp; omega
            have hfull'' : (1000 : Int) ≤ (m : Int) + 1 := by omega
            have HE : Hid (ManyAt w wc (m + 1) (some ⟨g1, 0, none⟩) c1 a2 c2 (i + 1)) := hd ⟨_, _, _, _, HM2.out.more (by omega)⟩
            clear hkd hfull
            go_wp2_with fail
            go_roundg (gk - 1)
            case measure => omega
            case rel => exact ⟨m + 1, _, c1, a2, c2, i + 1, rfl, rfl, by go_num, by omega, by omega, by omega, by omega, HE⟩
        · have hkd' : (kd == 1) = false := by simpa using hkd
          have hq' : (q : Int) < (m : Int) + 1 := by omega
          obtain ⟨g1', e1, x1⟩ := HM2.out.cell1 q hq
          cases e1
          obtain ⟨g2, rfl, x2⟩ := HM2.out.cell2 q hq
          have hPr := HM2.out.each q hq
          have hlen := HM2.out.len q hq
          have hst := step_any (on := on) (kd := kd) (hPr.below ((Below.refl _ wc).drew)) (by omega) hfo1 hfo2
          have HK : Hid (∀ w3, StepOut wc.drew (nAt B1 q) (nAt B2 q) (F q) (lAt Ls q) w3 → (w3.cell? ⟨g1, q, none⟩ = some (.pointer (some ⟨nAt B1 q, 0, none⟩)) ∧ w3.cell? ⟨g2, q, none⟩ = some (.pointer (some ⟨nAt B2 q, 0, none⟩)) ∧ w3.cell? ⟨G, 0, none⟩ = some (.int .i64 kd) ∧ w3.cell? ⟨G, 1, none⟩ = some (.int .i64 on) ∧ w3.cell? ⟨G, 2, none⟩ = some (.int .i64 id) ∧ w3.cell? ⟨G, 3, none⟩ = some (.int .i64 at')) ∧ ManyAt w w3 (m + 1) (some ⟨g1, 0, none⟩) c1 (some ⟨g2, 0, none⟩) c2 (i + 1)) := hd (fun w3 ho => by
            obtain ⟨L', hl', hO⟩ := ho
            have hmd := hO.1
            have hGF : ¬ F q G := fun hf => by have h3 := (HMM.out.each q hq).lt G hf; have h4 := hG.out; omega
            have hbx := ((HX.out.below ((Below.refl _ wc).drew)).mod hmd hGF).cells
            have e1 : ¬ F q g1 := (HM2.out.r1 g1 rfl).2.2 q hq
            have e2 : ¬ F q g2 := (HM2.out.r2 g2 rfl).2 q hq
            obtain ⟨F', hF'⟩ := (HM2.out.below ((Below.refl _ wc).drew)).step hq hO (t := i + 1) (by omega) (by omega)
            exact ⟨⟨(hmd.cell (p := ⟨g1, q, none⟩) (HM2.out.row1.lt g1 rfl) e1).trans x1, (hmd.cell (p := ⟨g2, q, none⟩) (HM2.out.row2.lt g2 rfl) e2).trans x2, hbx⟩, _, _, _, _, hF'⟩)
          generalize nAt B1 q = p1 at *
          generalize nAt B2 q = p2 at *
          clear hPr hlen hkd HMM
          go_upto_region 17 with fail
          go_region_held3 (fun w' => w'.cell? ⟨g1, q, none⟩ = some (.pointer (some ⟨p1, 0, none⟩)) ∧ w'.cell? ⟨g2, q, none⟩ = some (.pointer (some ⟨p2, 0, none⟩)) ∧ w'.cell? ⟨G, 0, none⟩ = some (.int .i64 kd) ∧ w'.cell? ⟨G, 1, none⟩ = some (.int .i64 on) ∧ w'.cell? ⟨G, 2, none⟩ = some (.int .i64 id) ∧ w'.cell? ⟨G, 3, none⟩ = some (.int .i64 at')) (go_keep)
            (first
              | (go_at_call 8; refine hst.mono ?_; rintro e3 w3 ⟨rfl, ho3⟩
                 obtain ⟨⟨k0, k1, k2, k3, k4, k5⟩, hE3⟩ := HK.out w3 ho3
                 have HE3 := hd hE3
                 clear ho3 hE3))
          clear k0 k1 k2 k3 k4 k5 hst
          go_wp2_with fail
          go_roundg (gk - 1)
          case measure => omega
          case rel => exact ⟨m + 1, _, c1, _, c2, i + 1, rfl, rfl, by go_num, by omega, by omega, by omega, by omega, HE3⟩
    · have ein : i = N := by omega
      subst ein
      have HMM := hd hM
      clear HM hM
      obtain ⟨wo, hwo⟩ : ∃ W, Hid (W = wr) := ⟨_, rfl⟩
      rw [← hwo.out] at HMM x1 ⊢
      clear hwo hlt hik hk1
      go_wp2_with fail
      have HL0 : Hid (∃ Ls F, Many w wo (m + 1) (some ⟨g1, 0, none⟩) c1 a2 c2 i B1 B2 Ls F) := hd ⟨_, _, HMM.out⟩
      clear HMM x1
      go_loopg [8, 9] (m + 1) (fun k v8 v9 wr => ∃ j : Nat, v8 = .int .i64 (j : Int) ∧ j + k = m + 1 ∧ Hid (∃ Ls F, Many w wr (m + 1) (some ⟨g1, 0, none⟩) c1 a2 c2 i B1 B2 Ls F))
      case atStart => exact ⟨0, rfl, by omega, HL0⟩
      case round =>
        obtain ⟨j, rfl, hjk, HM⟩ := hrel
        clear HL0
        obtain ⟨Ls', F', hM⟩ := HM.out
        by_cases hjm : j < m + 1
        · have hjm' : (j : Int) < (m : Int) + 1 := by omega
          obtain ⟨g1', e1, x1⟩ := hM.cell1 j hjm
          cases e1
          obtain ⟨g2, rfl, x2⟩ := hM.cell2 j hjm
          obtain ⟨F1, F2, hW, hRf, hdis, hFF, hFl⟩ := hM.each j hjm
          have hlen := hM.len j hjm
          have hGd := hd hW.good
          have hs1 := wpop_any hW 9223372036854775807 (by omega)
          have e1 : ¬ F' j g1 := (hM.r1 g1 rfl).2.2 j hjm
          have e2 : ¬ F' j g2 := (hM.r2 g2 rfl).2 j hjm
          have l1 := hM.row1.lt g1 rfl
          have l2 := hM.row2.lt g2 rfl
          have HMM := hd hM
          have HRF := hd hRf
          obtain ⟨p1, hp1⟩ : ∃ p, Hid (nAt B1 j = p) := ⟨_, rfl⟩
          obtain ⟨p2, hp2⟩ : ∃ p, Hid (nAt B2 j = p) := ⟨_, rfl⟩
          rw [hp1.out] at x1 hs1
          rw [hp2.out] at x2 HRF
          clear HM hM hW hRf
          go_upto_region 23 with (first | (go_at_call 9; refine hs1.mono ?_; rintro e3 w2 ⟨out, L', a, c, rfl, hPs, hP⟩))
          have hnil : L' = [] := hPs.last hGd.out
          subst hnil
          have hR2 : Rf w2 p2 F2 (lAt Ls' j) := HRF.out.mod hP.mod (fun k hk hf => hdis k hf hk)
          have y2 : w2.cell? ⟨g2, j, none⟩ = some (.pointer (some ⟨p2, 0, none⟩)) := (hP.mod.cell (p := ⟨g2, j, none⟩) l2 (fun hf => e2 (hFF g2 (.inl hf)))).trans x2
          have hs2 := rpop_any hR2 hGd.out 9223372036854775807 (by omega)
          have HP := hd hP
          have HPS := hd hPs
          have holen : out.length + 0 = (lAt Ls' j).length := hPs.len hGd.out
          obtain ⟨M, hMn⟩ : ∃ M, Hid (out.length = M) := ⟨_, rfl⟩
          have hMb : M ≤ 8796093022208 := by have := hMn.out; omega
          rw [hMn.out]
          have hs2' : Calls Try.prog 11 #[.pointer (some ⟨p2, 0, none⟩), .int .i64 9223372036854775807] w2 fun e w' => ∃ a2 c2, e = .returned (.slice a2 M c2) ∧ RPopTo w2 p2 F2 w' out [] a2 c2 := hs2.mono (by
            rintro e4 w3 ⟨out2, L2, a3, c3, rfl, hPs2, hP2⟩
            obtain ⟨rfl, rfl⟩ := HPS.out.det hPs2
            exact ⟨a3, c3, by rw [hMn.out], hP2⟩)
          have hsame : ∀ (w3 : World) a3 c3, RPopTo w2 p2 F2 w3 out [] a3 c3 → Calls Try.prog 10 #[.slice a M c, .slice a3 M c3] w3 fun e w' => e = .returned (.bool true) ∧ Below w3.heap.size w3 w' := fun w3 a3 c3 hR => by
            have r1 := HP.out.row.mod hR.mod (fun k hk hf => by have h3 := HP.out.new k hk; have h4 := hFl k (hFF k (.inr hf)); omega)
            have r2 := hR.row
            rw [hMn.out] at r1 r2
            exact same_any r1 r2 hMb
          have HC : Hid (∀ (w3 w4 : World) a3 c3, RPopTo w2 p2 F2 w3 out [] a3 c3 → Below w3.heap.size w3 w4 → w4.cell? ⟨g1, j, none⟩ = some (.pointer (some ⟨p1, 0, none⟩)) ∧ (Calls Try.prog 12 #[.pointer (some ⟨p1, 0, none⟩)] w4 fun e w' => e = .returned (.int .i64 0) ∧ w' = w4) ∧ ∃ Ls F, Many w w4 (m + 1) (some ⟨g1, 0, none⟩) c1 (some ⟨g2, 0, none⟩) c2 i B1 B2 Ls F) := hd (fun w3 w4 a3 c3 hR hb => by
            obtain ⟨G1, g1w, n1, d1⟩ := HP.out.wh
            obtain ⟨G2, g2w, n2, d2⟩ := hR.wh
            have hG1 : ∀ k, G1 k → ¬ F2 k := fun k hk hf => by
              rcases n1 k hk with h3 | h3
              · exact hdis k h3 hf
              · have := hFl k (hFF k (.inr hf)); omega
            have hW4 := (g1w.mod hR.mod hG1).below hb
            have hO : PrOut wr p1 p2 (F' j) [] w4 := PrOut.join2 hdis hFF hFl HP.out.mod g1w n1 ⟨hR.mod, G2, g2w, n2⟩ hb (Mod.refl (fun _ => False) _) (fun k hk => hk.elim)
            rw [← hp1.out, ← hp2.out] at hO
            obtain ⟨F'', hF''⟩ := HMM.out.step hjm hO (t := i) (Nat.le_refl _) (Nat.zero_le _)
            have l1' : g1 < w2.heap.size := Nat.lt_of_lt_of_le l1 HP.out.mod.size
            refine ⟨?_, wlen_any hW4, _, _, hF''⟩
            rw [hb.cell (p := ⟨g1, j, none⟩) (Nat.lt_of_lt_of_le l1' hR.mod.size), hR.mod.cell (p := ⟨g1, j, none⟩) l1' (fun hf => e1 (hFF g1 (.inr hf))), HP.out.mod.cell (p := ⟨g1, j, none⟩) l1 (fun hf => e1 (hFF g1 (.inl hf)))]
            exact x1)
          clear hs1 hs2 hR2 hP hPs HP HPS HRF HMM hFF hFl hdis hlen holen x2 e1 e2
          go_wp2_with (first
            | (go_at_call 11; refine hs2'.mono ?_; rintro e4 w3 ⟨a3, c3, rfl, hP2⟩)
            | (go_at_call 10; refine (hsame _ _ _ hP2).mono ?_; rintro e5 w4 ⟨rfl, b5⟩; obtain ⟨y1, hl4, hE4⟩ := HC.out _ _ _ _ hP2 b5; have HE4 := hd hE4; clear hE4)
            | (go_at_call 12; refine hl4.mono ?_; rintro e6 w4 ⟨rfl, rfl⟩))
          go_roundg (gk - 1)
          case measure => omega
          case rel => exact ⟨j + 1, by go_num, by omega, HE4⟩
        · have ejm : j = m + 1 := by omega
          subst ejm
          have hfx := fixed_any wr
          have HB := hd hM.bel
          clear HM hM
          go_wp2_with (first | (go_at_call 6; refine hfx.mono ?_; rintro e3 w3 ⟨rfl, b3⟩))
          go_ret
          exact ⟨rfl, HB.out.trans (b3.mono HB.out.size)⟩
end Go.Proofs.Ytdpbkoohhnpjmaa
