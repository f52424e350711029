/- stands, Lay, New. -/
import Derived.Test.YtknklbojcnhjcaaLWA
namespace Go.Proofs.Ytknklbojcnhjcaa
open Go.RowKit

/-- Two lists that can be read. -/
structure AL (w : World) (vs : List Int) (ws : List (Int × Int)) (a1 a2 : Option Addr) : Prop where
  r1 : Rd w a1 (iC vs)
  r2 : Rd w a2 (wC ws)
theorem AL.below {w w' : World} {vs : List Int} {ws : List (Int × Int)} {a1 a2 : Option Addr} (h : AL w vs ws a1 a2) (hb : Below w.heap.size w w') : AL w' vs ws a1 a2 :=
  ⟨h.r1.below hb, h.r2.below hb⟩
theorem Row.al {w : World} {e1 e2 : TypeId} {vs : List Int} {ws : List (Int × Int)} {a1 a2 : Option Addr} {n1 c1 n2 c2 : Nat} (h1 : Row w e1 1 a1 n1 c1 (iC vs)) (h2 : Row w e2 2 a2 n2 c2 (wC ws)) : AL w vs ws a1 a2 := ⟨h1.rd, h2.rd⟩

theorem box4 (w : World) (v0 v1 v2 v3 : Value) (t : TypeId) : (w.alloc (.cells #[v0, v1, v2, v3] t)).cell? ⟨w.heap.size, 0, none⟩ = some v0 ∧ (w.alloc (.cells #[v0, v1, v2, v3] t)).cell? ⟨w.heap.size, 1, none⟩ = some v1 ∧ (w.alloc (.cells #[v0, v1, v2, v3] t)).cell? ⟨w.heap.size, 2, none⟩ = some v2 ∧ (w.alloc (.cells #[v0, v1, v2, v3] t)).cell? ⟨w.heap.size, 3, none⟩ = some v3 := by
  refine ⟨?_, ?_, ?_, ?_⟩ <;> (rw [cell_of_row _ _ _ _ _ _ (heap_alloc_new w _)]; rfl)

set_option maxRecDepth 100000 in
set_option maxHeartbeats 2000000 in
theorem mstands_any {room : Int} {vs : List Int} {ws : List (Int × Int)} {tk dr : Int} {a1 a2 : Option Addr} {c1 c2 : Nat} {w : World} (hA : AL w vs ws a1 a2) (hw : ws.length ≤ 8000000000000) (hf : ∀ x ∈ ws, Fit64 x.1) (B : Bool) (hB : B = true ↔ MayL room vs ws tk dr) :
    Calls Try.prog 45 #[.int .i64 room, .agg #[.slice a1 vs.length c1, .slice a2 ws.length c2, .int .i64 tk, .int .i64 dr]] w fun e w' => e = .returned (.bool B) ∧ Below w.heap.size w w' := by
  have hb0 := below_al w (.cells #[.slice a1 vs.length c1, .slice a2 ws.length c2, .int .i64 tk, .int .i64 dr] 29)
  obtain ⟨q0, q1, q2, q3⟩ := box4 w (.slice a1 vs.length c1) (.slice a2 ws.length c2) (.int .i64 tk) (.int .i64 dr) 29
  have hA0 := hA.below hb0
  obtain ⟨T, hT⟩ : ∃ T : Bool, T = !decide (ws.map (·.1)).Nodup := ⟨_, rfl⟩
  have htw := twice_any (cap := c2) hA0.r2 hw hf T hT
  have HT : Hid (T = false ↔ (ws.map (·.1)).Nodup) := hd (by rw [hT]; simp)
  obtain ⟨K1, hK1⟩ : ∃ K1 : Bool, K1 = decide (0 ≤ tk ∧ tk ≤ 65535) := ⟨_, rfl⟩
  obtain ⟨K2, hK2⟩ : ∃ K2 : Bool, K2 = decide (0 ≤ dr ∧ dr ≤ 65535) := ⟨_, rfl⟩
  have hc1 := fun W => counts_any tk W K1 hK1
  have hc2 := fun W => counts_any dr W K2 hK2
  have HK1 : Hid (K1 = true ↔ (0 ≤ tk ∧ tk ≤ 65535)) := hd (by rw [hK1]; simp)
  have HK2 : Hid (K2 = true ↔ (0 ≤ dr ∧ dr ≤ 65535)) := hd (by rw [hK2]; simp)
  have HB := hd hB
  have HB0 := hd hb0
  have HCE : Hid ((vs.length : Int) ≤ room → (ws.length = 0 ∨ room ≤ (vs.length : Int)) → (ws.map (·.1)).Nodup → B = (K1 && K2)) := hd (fun h1 h2 h3 => by
    rw [Bool.eq_iff_iff, HB.out, Bool.and_eq_true, HK1.out, HK2.out]
    exact ⟨fun h => h.2.2.2, fun h => ⟨h1, h2, h3, h⟩⟩)
  have HNE : Hid (¬ ((vs.length : Int) ≤ room ∧ (ws.length = 0 ∨ room ≤ (vs.length : Int)) ∧ (ws.map (·.1)).Nodup) → B = false) := hd (fun h => by
    cases hb : B
    · rfl
    · obtain ⟨h1, h2, h3, _⟩ := HB.out.1 hb
      exact absurd ⟨h1, h2, h3⟩ h)
  clear hA hA0 hT hK1 hK2 hB hb0 hf HK1 HK2 HB
  obtain ⟨N, hN⟩ : ∃ N, Hid (vs.length = N) := ⟨_, rfl⟩
  obtain ⟨M, hM⟩ : ∃ M, Hid (ws.length = M) := ⟨_, rfl⟩
  have hnil : Hid (M = 0 → (ws.map (·.1)).Nodup) := hd (fun h => by rw [List.eq_nil_of_length_eq_zero (hM.out.trans h)]; simp)
  rw [hN.out, hM.out] at HB0 HCE HNE q0 q1 q2 q3 htw ⊢
  rw [hM.out] at hw
  by_cases g1 : room < (N : Int)
  · have e1 : B = false := HNE.out (fun h => by omega)
    subst e1
    go_enter Try.func45, Try.ntmps45
    go_wp2_with fail
    go_ret
    exact ⟨rfl, HB0.out⟩
  · have g1' : decide (room < (N : Int)) = false := by simpa using g1
    by_cases g2 : 0 < M
    · have g2' : (0 : Int) < (M : Int) := by omega
      by_cases g3 : (N : Int) < room
      · have e1 : B = false := HNE.out (fun h => by omega)
        subst e1
        clear HCE HNE hnil
        go_enter Try.func45, Try.ntmps45
        go_wp2_with fail
        go_ret
        exact ⟨rfl, HB0.out⟩
      · have g3' : decide ((N : Int) < room) = false := by simpa using g3
        cases hTT : T with
        | true =>
          have e1 : B = false := HNE.out (fun h => by have := HT.out.2 h.2.2; rw [hTT] at this; cases this)
          rw [hTT] at htw
          subst e1
          clear HCE HNE hnil HT hTT
          go_enter Try.func45, Try.ntmps45
          go_wp2_with (first | (go_at_call 67; refine htw.mono ?_; rintro e2 w2 ⟨rfl, b2⟩))
          go_ret
          exact ⟨rfl, HB0.out.trans (b2.mono HB0.out.size)⟩
        | false =>
          have e1 : B = (K1 && K2) := HCE.out (by omega) (.inr (by omega)) (HT.out.1 hTT)
          rw [hTT] at htw
          rw [e1]
          clear HCE HNE hnil HT hTT e1
          go_enter Try.func45, Try.ntmps45
          go_upto_region 5 with (first | (go_at_call 67; refine htw.mono ?_; rintro e2 w2 ⟨rfl, b2⟩))
          have q2' := (b2.cell (p := ⟨w.heap.size, 2, none⟩) (by simp)).trans q2
          have q3' := (b2.cell (p := ⟨w.heap.size, 3, none⟩) (by simp)).trans q3
          have B2 := hd (HB0.out.trans (b2.mono HB0.out.size))
          clear htw b2 q0 q1 q2 q3
          have hd1 := hc1 w2
          have hd2 := hc2 w2
          clear hc1 hc2
          cases K1
          · go_wp2_with (first | (go_at_call 68; refine hd1.mono ?_; rintro e2 w2 ⟨rfl, rfl⟩))
            go_ret
            exact ⟨rfl, B2.out⟩
          · go_wp2_with (first | (go_at_call 68; first | (with_reducible refine hd1.mono ?_; rintro e2 w2 ⟨rfl, rfl⟩; clear hd1) | (with_reducible refine hd2.mono ?_; rintro e2 w2 ⟨rfl, rfl⟩)))
            go_ret
            exact ⟨by first | rfl | simp, B2.out⟩
    · have g2' : decide (0 < M) = false := by simpa using g2
      have e1 : B = (K1 && K2) := HCE.out (by omega) (.inl (by omega)) (hnil.out (by omega))
      rw [e1]
      clear HCE HNE htw hnil HT e1 g2
      go_enter Try.func45, Try.ntmps45
      go_upto_region 5 with fail
      obtain ⟨w2, hw2⟩ : ∃ W, Hid (w.alloc (.cells #[.slice a1 N c1, .slice a2 M c2, .int .i64 tk, .int .i64 dr] 29) = W) := ⟨_, rfl⟩
      rw [hw2.out] at HB0 q0 q1 q2 q3 ⊢
      have hd1 := hc1 w2
      have hd2 := hc2 w2
      clear hc1 hc2
      cases K1
      · go_wp2_with (first | (go_at_call 68; refine hd1.mono ?_; rintro e2 w2 ⟨rfl, rfl⟩))
        go_ret
        exact ⟨rfl, HB0.out⟩
      · go_wp2_with (first | (go_at_call 68; first | (with_reducible refine hd1.mono ?_; rintro e2 w2 ⟨rfl, rfl⟩; clear hd1) | (with_reducible refine hd2.mono ?_; rintro e2 w2 ⟨rfl, rfl⟩)))
        go_ret
        exact ⟨by first | rfl | simp, HB0.out⟩
end Go.Proofs.Ytknklbojcnhjcaa
