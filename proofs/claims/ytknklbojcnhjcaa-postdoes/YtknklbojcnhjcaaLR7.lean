/- The document's side: May. -/
import Derived.Test.YtknklbojcnhjcaaLR6
namespace Go.Proofs.Ytknklbojcnhjcaa
open Go.RowKit

theorem nodup_of {ws : List (Int × Int)} (h : ∀ i j, j < i → i < ws.length → (ws.getD j (0, 0)).1 ≠ (ws.getD i (0, 0)).1) : (ws.map (·.1)).Nodup := by
  rw [List.nodup_iff_pairwise_ne, List.pairwise_iff_getElem]
  intro j i hj hi hji
  have hi' : i < ws.length := by simpa using hi
  have hj' : j < ws.length := by simpa using hj
  have := h i j hji hi'
  simpa [List.getD_eq_getElem?_getD, List.getElem?_eq_getElem hi', List.getElem?_eq_getElem hj'] using this
theorem not_nodup_of {ws : List (Int × Int)} {i j : Nat} (hji : j < i) (hi : i < ws.length) (h : (ws.getD j (0, 0)).1 = (ws.getD i (0, 0)).1) : ¬ (ws.map (·.1)).Nodup := fun hn => by
  rw [List.nodup_iff_pairwise_ne, List.pairwise_iff_getElem] at hn
  refine hn j i (by simp; omega) (by simpa using hi) hji ?_
  have hj' : j < ws.length := by omega
  simpa [List.getD_eq_getElem?_getD, List.getElem?_eq_getElem hi, List.getElem?_eq_getElem hj'] using h

set_option maxRecDepth 100000 in
set_option maxHeartbeats 2000000 in
theorem rmay_any {room : Int} {vs : List Int} {ws : List (Int × Int)} {tk dr : Int} {a1 a2 : Option Addr} {c1 c2 : Nat} {w : World} (hA : AL w vs ws a1 a2) (hw : ws.length ≤ 8000000000000) (B : Bool) (hB : B = true ↔ MayL room vs ws tk dr) :
    Calls Try.prog 48 #[.int .i64 room, .agg #[.slice a1 vs.length c1, .slice a2 ws.length c2, .int .i64 tk, .int .i64 dr]] w fun e w' => e = .returned (.bool B) ∧ Below w.heap.size w w' := by
  have hb0 := below_al w (.cells #[.slice a1 vs.length c1, .slice a2 ws.length c2, .int .i64 tk, .int .i64 dr] 29)
  have HX := hd (box4_new w 29 (.slice a1 vs.length c1) (.slice a2 ws.length c2) (.int .i64 tk) (.int .i64 dr))
  have HR := hd (hA.below hb0).r2
  have HB0 := hd hb0
  have HB := hd hB
  have HNE : Hid (¬ ((vs.length : Int) ≤ room ∧ (ws.length = 0 ∨ room ≤ (vs.length : Int)) ∧ (ws.map (·.1)).Nodup) → B = false) := hd (fun h => by
    cases hb : B
    · rfl
    · obtain ⟨h1, h2, h3, _⟩ := HB.out.1 hb
      exact absurd ⟨h1, h2, h3⟩ h)
  have HCE : Hid ((vs.length : Int) ≤ room → (ws.length = 0 ∨ room ≤ (vs.length : Int)) → (ws.map (·.1)).Nodup → B = (decide (0 ≤ tk ∧ tk ≤ 65535) && decide (0 ≤ dr ∧ dr ≤ 65535))) := hd (fun h1 h2 h3 => by
    rw [Bool.eq_iff_iff, HB.out, Bool.and_eq_true, decide_eq_true_iff, decide_eq_true_iff]
    exact ⟨fun h => h.2.2.2, fun h => ⟨h1, h2, h3, h⟩⟩)
  clear hA hB hb0 HB
  obtain ⟨N, hN⟩ : ∃ N, Hid (vs.length = N) := ⟨_, rfl⟩
  obtain ⟨M, hM⟩ : ∃ M, Hid (ws.length = M) := ⟨_, rfl⟩
  rw [hN.out, hM.out] at HB0 HCE HNE HX HR ⊢
  rw [hM.out] at hw
  obtain ⟨p0, p1, p2, p3⟩ := HX.out.cells
  by_cases g1 : room < (N : Int)
  · have e1 : B = false := HNE.out (fun h => by omega)
    subst e1
    go_enter Try.func48, Try.ntmps48
    go_wp2_with fail
    go_ret
    exact ⟨rfl, HB0.out⟩
  · have g1' : decide (room < (N : Int)) = false := by simpa using g1
    by_cases g2 : 0 < M ∧ (N : Int) < room
    · obtain ⟨g2, g3⟩ := g2
      have g2' : (0 : Int) < (M : Int) := by omega
      have e1 : B = false := HNE.out (fun h => by omega)
      subst e1
      go_enter Try.func48, Try.ntmps48
      go_wp2_with fail
      go_ret
      exact ⟨rfl, HB0.out⟩
    · have HCE2 : Hid ((ws.map (·.1)).Nodup → B = (decide (0 ≤ tk ∧ tk ≤ 65535) && decide (0 ≤ dr ∧ dr ≤ 65535))) := hd (HCE.out (by omega) (by omega))
      have HNE2 : Hid (¬ (ws.map (·.1)).Nodup → B = false) := hd (fun h => HNE.out (fun h' => h h'.2.2))
      clear HCE HNE
      by_cases g4 : 0 < M
      · have g4' : (0 : Int) < (M : Int) := by omega
        have g5 : decide ((N : Int) < room) = false := by simp; omega
        go_enter Try.func48, Try.ntmps48
        go_upto_region 3 with fail
        obtain ⟨W, hW⟩ : ∃ W, Hid (w.alloc (.cells #[.slice a1 N c1, .slice a2 M c2, .int .i64 tk, .int .i64 dr] 29) = W) := ⟨_, rfl⟩
        obtain ⟨G, hG⟩ : ∃ G, Hid (w.heap.size = G) := ⟨_, rfl⟩
        rw [hW.out] at HX HR HB0 ⊢
        rw [hG.out] at HX
        rw [hG.out]
        clear p0 p1 p2 p3
        go_wp2_with fail
        go_loopg [5] M (fun k v5 wr => ∃ i : Nat, v5 = .int .i64 i ∧ i + k = M ∧ Hid ((∃ n, wr = W.drewN n) ∧ ∀ x y, y < x → x < i → (ws.getD y (0, 0)).1 ≠ (ws.getD x (0, 0)).1))
        case atStart => exact ⟨0, rfl, by omega, hd ⟨⟨0, rfl⟩, fun x y _ h => absurd h (Nat.not_lt_zero x)⟩⟩
        case round =>
          obtain ⟨i, rfl, hik, HH⟩ := hrel
          obtain ⟨n, hn⟩ := HH.out.1
          have HND := hd HH.out.2
          have X := HX.out.drewN n
          have hbW : Hid (Below w.heap.size w wr) := hd (by rw [hn]; exact HB0.out.trans ((below_drewN (below_same W) n).mono HB0.out.size))
          rw [← hn] at X
          obtain ⟨p0, p1, p2, p3⟩ := X.cells
          replace hn := hd hn
          by_cases hlt : i < M
          · have hlt' : (i : Int) < (M : Int) := by omega
            clear HH hbW X
            go_upto_region 6 with fail
            clear p0 p1 p2 p3
            go_wp2_with fail
            go_loopg [6] i (fun k v6 wr => ∃ j : Nat, v6 = .int .i64 j ∧ j + k = i ∧ Hid ((∃ n, wr = W.drewN n) ∧ ∀ y, y < j → (ws.getD y (0, 0)).1 ≠ (ws.getD i (0, 0)).1))
            case atStart => exact ⟨0, rfl, by omega, hd ⟨⟨n, hn.out⟩, fun y h => absurd h (Nat.not_lt_zero y)⟩⟩
            case round =>
              obtain ⟨j, rfl, hjk, HJ⟩ := hrel
              clear hn
              obtain ⟨n2, hn2⟩ := HJ.out.1
              have X := HX.out.drewN n2
              have R := HR.out.drewN n2
              have hbW : Hid (Below w.heap.size w wr) := hd (by rw [hn2]; exact HB0.out.trans ((below_drewN (below_same W) n2).mono HB0.out.size))
              rw [← hn2] at X R
              obtain ⟨-, p1, -, -⟩ := X.cells
              replace hn2 := hd hn2
              by_cases hlt2 : j < i
              · have hlt2' : (j : Int) < (i : Int) := by omega
                have hjM : (j : Int) < (M : Int) := by omega
                obtain ⟨bb, oo, rfl, x0, -⟩ := rd_w R j (by have := hM.out; omega)
                obtain ⟨bb', oo', ee, y0, -⟩ := rd_w R i (by have := hM.out; omega)
                cases ee
                obtain ⟨z1, hz1⟩ : ∃ z, Hid ((ws.getD j (0, 0)).1 = z) := ⟨_, rfl⟩
                obtain ⟨z2, hz2⟩ : ∃ z, Hid ((ws.getD i (0, 0)).1 = z) := ⟨_, rfl⟩
                rw [hz1.out] at x0
                rw [hz2.out] at y0
                clear X R
                by_cases hz : z1 = z2
                · have hE : Hid (B = false) := hd (HNE2.out (not_nodup_of hlt2 (by have := hM.out; omega) (by rw [hz1.out, hz2.out]; exact hz)))
                  have hz' : (z1 == z2) = true := by simp [hz]
                  clear hz
                  go_wp2_with fail
                  go_quiet (fail)
                  go_wp2_with fail
                  go_ret
                  exact ⟨by rw [hE.out]; rfl, below_drewN hbW.out _⟩
                · have hz' : (z1 == z2) = false := by simp [hz]
                  have HZ : Hid ((ws.getD j (0, 0)).1 ≠ (ws.getD i (0, 0)).1) := hd (by rw [hz1.out, hz2.out]; exact hz)
                  clear hz hbW
                  go_wp2_with fail
                  go_quiet (fail)
                  go_wp2_with fail
                  go_roundg (gk - 1)
                  case measure => omega
                  case rel => exact ⟨j + 1, by go_num, by omega, hd ⟨⟨n2 + nq, by rw [hn2.out, drewN_add]⟩, fun y hy => by
                    by_cases ey : y = j
                    · rw [ey]; exact HZ.out
                    · exact HJ.out.2 y (by omega)⟩⟩
              · have hltd2 : decide ((j : Int) < (i : Int)) = false := by simp; omega
                have HJ2 := hd HJ.out.2
                clear X R hbW HJ
                go_wp2_with fail
                go_roundg (M - (i + 1))
                case measure => omega
                case rel => exact ⟨i + 1, by go_num, by omega, hd ⟨⟨n2, hn2.out⟩, fun x y hxy hx => by
                  by_cases ex : x = i
                  · rw [ex]; exact HJ2.out y (by omega)
                  · exact HND.out x y hxy (by omega)⟩⟩
          · have hltd : decide ((i : Int) < (M : Int)) = false := by simp; omega
            have hE : Hid (B = (decide (0 ≤ tk ∧ tk ≤ 65535) && decide (0 ≤ dr ∧ dr ≤ 65535))) := hd (HCE2.out (nodup_of (fun x y hxy hx => HND.out x y hxy (by have := hM.out; omega))))
            clear HH X HND
            go_upto_region 11 with fail
            by_cases t0 : 0 ≤ tk
            · by_cases t1 : tk ≤ 65535
              · by_cases t2 : 0 ≤ dr
                · by_cases t3 : dr ≤ 65535
                  · have hE2 : Hid (B = true) := hd (by rw [hE.out]; simp; omega)
                    go_wp2_with fail
                    go_ret
                    exact ⟨by rw [hE2.out]; rfl, hbW.out⟩
                  · have hE2 : Hid (B = false) := hd (by rw [hE.out]; simp; omega)
                    have t3' : decide (dr ≤ 65535) = false := by simpa using t3
                    go_wp2_with fail
                    go_ret
                    exact ⟨by rw [hE2.out]; rfl, hbW.out⟩
                · have hE2 : Hid (B = false) := hd (by rw [hE.out]; simp; omega)
                  have t2' : decide (0 ≤ dr) = false := by simpa using t2
                  go_wp2_with fail
                  go_ret
                  exact ⟨by rw [hE2.out]; rfl, hbW.out⟩
              · have hE2 : Hid (B = false) := hd (by rw [hE.out]; simp; omega)
                have t1' : decide (tk ≤ 65535) = false := by simpa using t1
                go_wp2_with fail
                go_ret
                exact ⟨by rw [hE2.out]; rfl, hbW.out⟩
            · have hE2 : Hid (B = false) := hd (by rw [hE.out]; simp; omega)
              have t0' : decide (0 ≤ tk) = false := by simpa using t0
              go_wp2_with fail
              go_ret
              exact ⟨by rw [hE2.out]; rfl, hbW.out⟩
      · have g4' : decide (0 < M) = false := by simpa using g4
        go_enter Try.func48, Try.ntmps48
        go_upto_region 3 with fail
        obtain ⟨W, hW⟩ : ∃ W, Hid (w.alloc (.cells #[.slice a1 N c1, .slice a2 M c2, .int .i64 tk, .int .i64 dr] 29) = W) := ⟨_, rfl⟩
        obtain ⟨G, hG⟩ : ∃ G, Hid (w.heap.size = G) := ⟨_, rfl⟩
        rw [hW.out] at HX HR HB0 ⊢
        rw [hG.out] at HX
        rw [hG.out]
        clear p0 p1 p2 p3
        go_wp2_with fail
        go_loopg [5] M (fun k v5 wr => ∃ i : Nat, v5 = .int .i64 i ∧ i + k = M ∧ Hid ((∃ n, wr = W.drewN n) ∧ ∀ x y, y < x → x < i → (ws.getD y (0, 0)).1 ≠ (ws.getD x (0, 0)).1))
        case atStart => exact ⟨0, rfl, by omega, hd ⟨⟨0, rfl⟩, fun x y _ h => absurd h (Nat.not_lt_zero x)⟩⟩
        case round =>
          obtain ⟨i, rfl, hik, HH⟩ := hrel
          obtain ⟨n, hn⟩ := HH.out.1
          have HND := hd HH.out.2
          have X := HX.out.drewN n
          have hbW : Hid (Below w.heap.size w wr) := hd (by rw [hn]; exact HB0.out.trans ((below_drewN (below_same W) n).mono HB0.out.size))
          rw [← hn] at X
          obtain ⟨p0, p1, p2, p3⟩ := X.cells
          replace hn := hd hn
          have hltd : decide ((i : Int) < (M : Int)) = false := by simp; omega
          have hE : Hid (B = (decide (0 ≤ tk ∧ tk ≤ 65535) && decide (0 ≤ dr ∧ dr ≤ 65535))) := hd (HCE2.out (nodup_of (fun x y hxy hx => HND.out x y hxy (by have := hM.out; omega))))
          clear HH X HND
          go_upto_region 11 with fail
          by_cases t0 : 0 ≤ tk
          · by_cases t1 : tk ≤ 65535
            · by_cases t2 : 0 ≤ dr
              · by_cases t3 : dr ≤ 65535
                · have hE2 : Hid (B = true) := hd (by rw [hE.out]; simp; omega)
                  go_wp2_with fail
                  go_ret
                  exact ⟨by rw [hE2.out]; rfl, hbW.out⟩
                · have hE2 : Hid (B = false) := hd (by rw [hE.out]; simp; omega)
                  have t3' : decide (dr ≤ 65535) = false := by simpa using t3
                  go_wp2_with fail
                  go_ret
                  exact ⟨by rw [hE2.out]; rfl, hbW.out⟩
              · have hE2 : Hid (B = false) := hd (by rw [hE.out]; simp; omega)
                have t2' : decide (0 ≤ dr) = false := by simpa using t2
                go_wp2_with fail
                go_ret
                exact ⟨by rw [hE2.out]; rfl, hbW.out⟩
            · have hE2 : Hid (B = false) := hd (by rw [hE.out]; simp; omega)
              have t1' : decide (tk ≤ 65535) = false := by simpa using t1
              go_wp2_with fail
              go_ret
              exact ⟨by rw [hE2.out]; rfl, hbW.out⟩
          · have hE2 : Hid (B = false) := hd (by rw [hE.out]; simp; omega)
            have t0' : decide (0 ≤ tk) = false := by simpa using t0
            go_wp2_with fail
            go_ret
            exact ⟨by rw [hE2.out]; rfl, hbW.out⟩
end Go.Proofs.Ytknklbojcnhjcaa
