/- The insertion sort that gives up. -/
import Derived.Test.YtaikeeidjfcijaaS9
namespace Go.Proofs.Ytaikeeidjfcijaa
open Go.RowKit Go.Sort

section
variable {d : Array Nat} {a b i j s : Nat}
theorem ss_go (h : i < b) (hl : ltN d[i]! d[i - 1]! = false) : scanSorted ltN d b i = scanSorted ltN d b (i + 1) := by rw [scanSorted, if_pos (by simp [h, hl])]
theorem ss_stop (h : ¬ i < b ∨ ltN d[i]! d[i - 1]! = true) : scanSorted ltN d b i = i := by
  rw [scanSorted, if_neg]
  rcases h with h | h
  · simp; omega
  · simp [h]
theorem sd_go (h : 1 ≤ j) (hl : ltN d[j]! d[j - 1]! = true) : shiftDown ltN j d = shiftDown ltN (j - 1) (swp d j (j - 1)) := by
  obtain ⟨k, rfl⟩ : ∃ k, j = k + 1 := ⟨j - 1, by omega⟩
  rw [Nat.add_sub_cancel] at hl ⊢
  rw [shiftDown, if_neg (by rw [hl]; decide)]
theorem sd_stop (h : ¬ 1 ≤ j ∨ ltN d[j]! d[j - 1]! = false) : shiftDown ltN j d = d := by
  cases j with
  | zero => rfl
  | succ k =>
    rcases h with h | h
    · omega
    · rw [Nat.add_sub_cancel] at h
      rw [shiftDown, if_pos (by rw [h]; rfl)]
theorem su_go (h : j < b) (hl : ltN d[j]! d[j - 1]! = true) : shiftUp ltN b j d = shiftUp ltN b (j + 1) (swp d j (j - 1)) := by
  rw [shiftUp, if_pos h, if_neg (by rw [hl]; decide)]
theorem su_stop (h : ¬ j < b ∨ ltN d[j]! d[j - 1]! = false) : shiftUp ltN b j d = d := by
  rw [shiftUp]
  split
  · rename_i hj
    rcases h with h | h
    · omega
    · rw [if_pos (by rw [h]; rfl)]
  · rfl
theorem pi_done (h : scanSorted ltN d b i = b) : partialIns ltN a b (s + 1) i d = (d, true) := by
  simp only [partialIns, h]; rw [if_pos trivial]
theorem pi_short {i2 : Nat} (h : scanSorted ltN d b i = i2) (h1 : i2 ≠ b) (h2 : b - a < 50) : partialIns ltN a b (s + 1) i d = (d, false) := by
  simp only [partialIns, h]; rw [if_neg h1, if_pos h2]
theorem pi_step {i2 : Nat} {d2 d3 : Array Nat} (h : scanSorted ltN d b i = i2) (h1 : i2 ≠ b) (h2 : ¬ b - a < 50) (e2 : (if i2 - a ≥ 2 then shiftDown ltN (i2 - 1) (swp d i2 (i2 - 1)) else swp d i2 (i2 - 1)) = d2) (e3 : (if b - i2 ≥ 2 then shiftUp ltN b (i2 + 1) d2 else d2) = d3) : partialIns ltN a b (s + 1) i d = partialIns ltN a b s i2 d3 := by
  simp only [partialIns, h]; rw [if_neg h1, if_neg h2, e2, e3]
end

set_option maxRecDepth 100000 in
set_option maxHeartbeats 32000000 in
theorem partial_any (g n cap a b : Nat) (d : Array Nat) (w : World) (hR : Row w g n cap d) (hab : a < b) (hb : b ≤ n) (hn : n ≤ 4000000) :
    Calls Try.prog 44 #[.slice (some ⟨g, 0, none⟩) n cap, .int .i64 a, .int .i64 b] w fun e w' => e = .returned (.bool (partialInsertionSort ltN d a b).2) ∧ Now w g n cap (partialInsertionSort ltN d a b).1 w' := by
  have hN0 := Now.refl hR
  have HD : Hid (partialInsertionSort ltN d a b = partialIns ltN a b 5 (a + 1) d) := rfl
  clear hR
  go_enter Try.func44, Try.ntmps44
  go_wp2
  go_loopw [7, 8] (fun vi vt wr => ∃ (i t : Nat) (dk : Array Nat), vi = .int .i64 i ∧ vt = .int .i64 t ∧ t ≤ 5 ∧ a + 1 ≤ i ∧ i ≤ b ∧ Now w g n cap dk wr ∧ Hid (partialIns ltN a b (5 - t) i dk = partialIns ltN a b 5 (a + 1) d)) (fun _ vt _ => 5 - (intOf vt).toNat)
  case atStart => exact ⟨a + 1, 0, d, by go_num, rfl, by omega, by omega, by omega, hN0, rfl⟩
  case round =>
    clear hN0
    obtain ⟨i, t, dk, rfl, rfl, ht5, hai, hib, hN0, HO⟩ := hrel
    by_cases ht : t < 5
    · have ht' : (t : Int) < 5 := by omega
      have es : 5 - t = (5 - (t + 1)) + 1 := by omega
      obtain ⟨G, HG⟩ : ∃ G : Nat → Nat, Hid (∀ t, G t = dk[t]!) := ⟨fun t => dk[t]!, fun _ => rfl⟩
      go_wp2
      go_loopw [7] (fun vi wr => ∃ (i' : Nat), vi = .int .i64 i' ∧ i ≤ i' ∧ i' ≤ b ∧ Now w g n cap dk wr ∧ Hid (scanSorted ltN dk b i' = scanSorted ltN dk b i)) (fun vi _ => b - (intOf vi).toNat)
      case atStart => exact ⟨i, rfl, Nat.le_refl _, hib, hN0, rfl⟩
      case round =>
        clear hN0
        obtain ⟨i2, rfl, hii, hi2, hN, HU⟩ := hrel
        by_cases hlt : i2 < b
        · have hlt' : (i2 : Int) < (b : Int) := by omega
          have hne' : ((i2 : Int) == (b : Int)) = false := by rw [beq_eq_false_iff_ne]; omega
          have i2n : (i2 : Int) < (n : Int) := by omega
          have i21 : (1 : Int) ≤ (i2 : Int) := by omega
          have hcw : ∀ t, t < n → wr.cell? ⟨g, t, none⟩ = some (.int .u64 (G t : Nat)) := fun t ht => by rw [HG.out]; exact hN.row.cell t ht
          have x0 := hcw i2 (by omega)
          have x1 := hcw (i2 - 1) (by omega)
          go_wp2_with fail
          go_quiet (first | (go_at_call 45; refine Calls.quiet_of_same (less_any _ _ _)))
          cases hl : ltN (G i2) (G (i2 - 1))
          · go_wp2
            go_roundw
            case rel => exact ⟨i2 + 1, by go_num, by omega, by omega, hN.drewN _, by show _ = _; rw [← HU.out, ss_go hlt (by rw [← HG.out, ← HG.out, hl])]⟩
            case measure => simp [intOf]; omega
          · have HS : Hid (scanSorted ltN dk b i = i2) := HU.out.symm.trans (ss_stop (.inr (by rw [← HG.out, ← HG.out, hl])))
            clear HU
            revert nq; intro nq1
            obtain ⟨wr2, hw2⟩ : ∃ W, Hid (W = wr.drewN nq1) := ⟨_, rfl⟩
            rw [← hw2.out]
            have hN2 : Now w g n cap dk wr2 := by rw [hw2.out]; exact hN.drewN _
            clear hN hcw x0 x1
            by_cases h50 : b - a < 50
            · have h50' : (b : Int) - (a : Int) < 50 := by omega
              go_wp2
              go_ret
              have HE : partialInsertionSort ltN d a b = (dk, false) := by rw [HD.out, ← HO.out, es, pi_short HS.out (by omega) h50]
              rw [HE]
              exact ⟨rfl, hN2⟩
            · have h50' : decide ((b : Int) - (a : Int) < 50) = false := decide_eq_false (by omega)
              have h50'' : 50 ≤ (b : Int) - (a : Int) := by omega
              have z0 : wr2.cell? ⟨g, i2, none⟩ = some (.int .u64 (G i2 : Nat)) := by rw [HG.out]; exact hN2.row.cell i2 (by omega)
              have z1 : wr2.cell? ⟨g, i2 - 1, none⟩ = some (.int .u64 (G (i2 - 1) : Nat)) := by rw [HG.out]; exact hN2.row.cell (i2 - 1) (by omega)
              have f0 := hN2.row.free i2
              have f1 := hN2.row.free (i2 - 1)
              obtain ⟨d1, hd1⟩ : ∃ d1, Hid (d1 = swp dk i2 (i2 - 1)) := ⟨_, rfl⟩
              have hN3 := (hN2.drewN 1).swap i2 (i2 - 1)
              rw [← hd1.out, ← HG.out, ← HG.out] at hN3
              go_wp2_with fail
              go_region
              clear z0 z1 f0 f1 hN2 hw2
              by_cases hl2 : 2 ≤ i2 - a
              · have hl2' : (2 : Int) ≤ (i2 : Int) - (a : Int) := by omega
                go_wp2
                go_loopw [9] (fun vj wr => ∃ (j : Nat) (dj : Array Nat), vj = .int .i64 j ∧ j ≤ i2 - 1 ∧ Now w g n cap dj wr ∧ Hid (shiftDown ltN j dj = shiftDown ltN (i2 - 1) d1)) (fun vj _ => (intOf vj).toNat)
                case atStart => exact ⟨i2 - 1, d1, by congr 1; omega, Nat.le_refl _, hN3, rfl⟩
                case round =>
                  clear hN3
                  obtain ⟨j, dj, rfl, hji, hN, HJ⟩ := hrel
                  by_cases hj1 : 1 ≤ j
                  · have hj1' : (1 : Int) ≤ (j : Int) := by omega
                    have hjn : (j : Int) < (n : Int) := by omega
                    obtain ⟨K, HK⟩ : ∃ G : Nat → Nat, Hid (∀ t, G t = dj[t]!) := ⟨fun t => dj[t]!, fun _ => rfl⟩
                    have x0 : wr.cell? ⟨g, j, none⟩ = some (.int .u64 (K j : Nat)) := by rw [HK.out]; exact hN.row.cell j (by omega)
                    have x1 : wr.cell? ⟨g, j - 1, none⟩ = some (.int .u64 (K (j - 1) : Nat)) := by rw [HK.out]; exact hN.row.cell (j - 1) (by omega)
                    have f0 := hN.row.free j
                    have f1 := hN.row.free (j - 1)
                    go_wp2_with fail
                    go_quiet (first | (go_at_call 45; refine Calls.quiet_of_same (less_any _ _ _)))
                    cases hk : ltN (K j) (K (j - 1))
                    · have E2 : Hid ((if i2 - a ≥ 2 then shiftDown ltN (i2 - 1) (swp dk i2 (i2 - 1)) else swp dk i2 (i2 - 1)) = dj) := by
                        show _ = _
                        rw [if_pos hl2, ← hd1.out, ← HJ.out, sd_stop (.inr (by rw [← HK.out, ← HK.out, hk]))]
                      have hN4 := hN.drewN nq
                      clear x0 x1 f0 f1 HJ hN
                      obtain ⟨d2, hd2⟩ : ∃ d2, d2 = dj := ⟨_, rfl⟩
                      rw [← hd2] at E2 hN4
                      by_cases hr2 : 2 ≤ b - i2
                      · have hr2' : (2 : Int) ≤ (b : Int) - (i2 : Int) := by omega
                        go_wp2
                        go_loopw [10] (fun vj wr => ∃ (j : Nat) (dj : Array Nat), vj = .int .i64 j ∧ i2 + 1 ≤ j ∧ j ≤ b ∧ Now w g n cap dj wr ∧ Hid (shiftUp ltN b j dj = shiftUp ltN b (i2 + 1) d2)) (fun vj _ => b - (intOf vj).toNat)
                        case atStart => exact ⟨i2 + 1, d2, by go_num, Nat.le_refl _, by omega, hN4, rfl⟩
                        case round =>
                          clear hN4
                          obtain ⟨r, dr, rfl, hri, hrb, hN5, HQ⟩ := hrel
                          by_cases hrlt : r < b
                          · have hrlt' : (r : Int) < (b : Int) := by omega
                            have hrn : (r : Int) < (n : Int) := by omega
                            have hr1 : (1 : Int) ≤ (r : Int) := by omega
                            obtain ⟨M, HM⟩ : ∃ G : Nat → Nat, Hid (∀ t, G t = dr[t]!) := ⟨fun t => dr[t]!, fun _ => rfl⟩
                            have x0 : wr.cell? ⟨g, r, none⟩ = some (.int .u64 (M r : Nat)) := by rw [HM.out]; exact hN5.row.cell r (by omega)
                            have x1 : wr.cell? ⟨g, r - 1, none⟩ = some (.int .u64 (M (r - 1) : Nat)) := by rw [HM.out]; exact hN5.row.cell (r - 1) (by omega)
                            have f0 := hN5.row.free r
                            have f1 := hN5.row.free (r - 1)
                            go_wp2_with fail
                            go_quiet (first | (go_at_call 45; refine Calls.quiet_of_same (less_any _ _ _)))
                            cases hm : ltN (M r) (M (r - 1))
                            · have E3 : Hid ((if b - i2 ≥ 2 then shiftUp ltN b (i2 + 1) d2 else d2) = dr) := by
                                show _ = _
                                rw [if_pos hr2, ← HQ.out, su_stop (.inr (by rw [← HM.out, ← HM.out, hm]))]
                              go_wp2
                              exact ⟨⟨i2, t + 1, dr, by go_num, by go_num, by omega, by omega, by omega, hN5.drewN _, by show _ = _; rw [← HO.out, es, pi_step HS.out (by omega) h50 E2.out E3.out]⟩, by simp [intOf]; omega⟩
                            · have hN6 := (hN5.drewN (nq + 1)).swap r (r - 1)
                              rw [← HM.out, ← HM.out] at hN6
                              go_wp2_with fail
                              go_region
                              all_goals go_wp2
                              exact ⟨⟨r + 1, swp dr r (r - 1), by go_num, by omega, by omega, hN6, by show _ = _; rw [← HQ.out, su_go hrlt (by rw [← HM.out, ← HM.out, hm])]⟩, by simp [intOf]; omega⟩
                          · have hrlt' : decide ((r : Int) < (b : Int)) = false := decide_eq_false (by omega)
                            have hrge : (b : Int) ≤ (r : Int) := by omega
                            have E3 : Hid ((if b - i2 ≥ 2 then shiftUp ltN b (i2 + 1) d2 else d2) = dr) := by
                              show _ = _
                              rw [if_pos hr2, ← HQ.out, su_stop (.inl hrlt)]
                            go_wp2
                            exact ⟨⟨i2, t + 1, dr, by go_num, by go_num, by omega, by omega, by omega, hN5, by show _ = _; rw [← HO.out, es, pi_step HS.out (by omega) h50 E2.out E3.out]⟩, by simp [intOf]; omega⟩
                      · have hr2' : decide ((2 : Int) ≤ (b : Int) - (i2 : Int)) = false := decide_eq_false (by omega)
                        have hr2'' : (b : Int) - (i2 : Int) < 2 := by omega
                        have E3 : Hid ((if b - i2 ≥ 2 then shiftUp ltN b (i2 + 1) d2 else d2) = d2) := by
                          show _ = _
                          rw [if_neg (by omega)]
                        go_wp2
                        exact ⟨⟨i2, t + 1, d2, by go_num, by go_num, by omega, by omega, by omega, hN4, by show _ = _; rw [← HO.out, es, pi_step HS.out (by omega) h50 E2.out E3.out]⟩, by simp [intOf]; omega⟩
                    · have hN4 := (hN.drewN (nq + 1)).swap j (j - 1)
                      rw [← HK.out, ← HK.out] at hN4
                      go_wp2_with fail
                      go_region
                      all_goals go_wp2
                      exact ⟨⟨j - 1, swp dj j (j - 1), by congr 1; omega, by omega, hN4, by show _ = _; rw [← HJ.out, sd_go hj1 (by rw [← HK.out, ← HK.out, hk])]⟩, by simp [intOf]; omega⟩
                  · have hj1' : decide ((1 : Int) ≤ (j : Int)) = false := decide_eq_false (by omega)
                    have hj1'' : (j : Int) < 1 := by omega
                    have E2 : Hid ((if i2 - a ≥ 2 then shiftDown ltN (i2 - 1) (swp dk i2 (i2 - 1)) else swp dk i2 (i2 - 1)) = dj) := by
                      show _ = _
                      rw [if_pos hl2, ← hd1.out, ← HJ.out, sd_stop (.inl hj1)]
                    have hN4 := hN
                    clear HJ hN
                    obtain ⟨d2, hd2⟩ : ∃ d2, d2 = dj := ⟨_, rfl⟩
                    rw [← hd2] at E2 hN4
                    by_cases hr2 : 2 ≤ b - i2
                    · have hr2' : (2 : Int) ≤ (b : Int) - (i2 : Int) := by omega
                      go_wp2
                      go_loopw [10] (fun vj wr => ∃ (j : Nat) (dj : Array Nat), vj = .int .i64 j ∧ i2 + 1 ≤ j ∧ j ≤ b ∧ Now w g n cap dj wr ∧ Hid (shiftUp ltN b j dj = shiftUp ltN b (i2 + 1) d2)) (fun vj _ => b - (intOf vj).toNat)
                      case atStart => exact ⟨i2 + 1, d2, by go_num, Nat.le_refl _, by omega, hN4, rfl⟩
                      case round =>
                        clear hN4
                        obtain ⟨r, dr, rfl, hri, hrb, hN5, HQ⟩ := hrel
                        by_cases hrlt : r < b
                        · have hrlt' : (r : Int) < (b : Int) := by omega
                          have hrn : (r : Int) < (n : Int) := by omega
                          have hr1 : (1 : Int) ≤ (r : Int) := by omega
                          obtain ⟨M, HM⟩ : ∃ G : Nat → Nat, Hid (∀ t, G t = dr[t]!) := ⟨fun t => dr[t]!, fun _ => rfl⟩
                          have x0 : wr.cell? ⟨g, r, none⟩ = some (.int .u64 (M r : Nat)) := by rw [HM.out]; exact hN5.row.cell r (by omega)
                          have x1 : wr.cell? ⟨g, r - 1, none⟩ = some (.int .u64 (M (r - 1) : Nat)) := by rw [HM.out]; exact hN5.row.cell (r - 1) (by omega)
                          have f0 := hN5.row.free r
                          have f1 := hN5.row.free (r - 1)
                          go_wp2_with fail
                          go_quiet (first | (go_at_call 45; refine Calls.quiet_of_same (less_any _ _ _)))
                          cases hm : ltN (M r) (M (r - 1))
                          · have E3 : Hid ((if b - i2 ≥ 2 then shiftUp ltN b (i2 + 1) d2 else d2) = dr) := by
                              show _ = _
                              rw [if_pos hr2, ← HQ.out, su_stop (.inr (by rw [← HM.out, ← HM.out, hm]))]
                            go_wp2
                            exact ⟨⟨i2, t + 1, dr, by go_num, by go_num, by omega, by omega, by omega, hN5.drewN _, by show _ = _; rw [← HO.out, es, pi_step HS.out (by omega) h50 E2.out E3.out]⟩, by simp [intOf]; omega⟩
                          · have hN6 := (hN5.drewN (nq + 1)).swap r (r - 1)
                            rw [← HM.out, ← HM.out] at hN6
                            go_wp2_with fail
                            go_region
                            all_goals go_wp2
                            exact ⟨⟨r + 1, swp dr r (r - 1), by go_num, by omega, by omega, hN6, by show _ = _; rw [← HQ.out, su_go hrlt (by rw [← HM.out, ← HM.out, hm])]⟩, by simp [intOf]; omega⟩
                        · have hrlt' : decide ((r : Int) < (b : Int)) = false := decide_eq_false (by omega)
                          have hrge : (b : Int) ≤ (r : Int) := by omega
                          have E3 : Hid ((if b - i2 ≥ 2 then shiftUp ltN b (i2 + 1) d2 else d2) = dr) := by
                            show _ = _
                            rw [if_pos hr2, ← HQ.out, su_stop (.inl hrlt)]
                          go_wp2
                          exact ⟨⟨i2, t + 1, dr, by go_num, by go_num, by omega, by omega, by omega, hN5, by show _ = _; rw [← HO.out, es, pi_step HS.out (by omega) h50 E2.out E3.out]⟩, by simp [intOf]; omega⟩
                    · have hr2' : decide ((2 : Int) ≤ (b : Int) - (i2 : Int)) = false := decide_eq_false (by omega)
                      have hr2'' : (b : Int) - (i2 : Int) < 2 := by omega
                      have E3 : Hid ((if b - i2 ≥ 2 then shiftUp ltN b (i2 + 1) d2 else d2) = d2) := by
                        show _ = _
                        rw [if_neg (by omega)]
                      go_wp2
                      exact ⟨⟨i2, t + 1, d2, by go_num, by go_num, by omega, by omega, by omega, hN4, by show _ = _; rw [← HO.out, es, pi_step HS.out (by omega) h50 E2.out E3.out]⟩, by simp [intOf]; omega⟩
              · have hl2' : decide ((2 : Int) ≤ (i2 : Int) - (a : Int)) = false := decide_eq_false (by omega)
                have hl2'' : (i2 : Int) - (a : Int) < 2 := by omega
                have E2 : Hid ((if i2 - a ≥ 2 then shiftDown ltN (i2 - 1) (swp dk i2 (i2 - 1)) else swp dk i2 (i2 - 1)) = d1) := by
                  show _ = _
                  rw [if_neg (by omega), ← hd1.out]
                have hN4 := hN3
                clear hN3
                obtain ⟨d2, hd2⟩ : ∃ d2, d2 = d1 := ⟨_, rfl⟩
                rw [← hd2] at E2 hN4
                by_cases hr2 : 2 ≤ b - i2
                · have hr2' : (2 : Int) ≤ (b : Int) - (i2 : Int) := by omega
                  go_wp2
                  go_loopw [10] (fun vj wr => ∃ (j : Nat) (dj : Array Nat), vj = .int .i64 j ∧ i2 + 1 ≤ j ∧ j ≤ b ∧ Now w g n cap dj wr ∧ Hid (shiftUp ltN b j dj = shiftUp ltN b (i2 + 1) d2)) (fun vj _ => b - (intOf vj).toNat)
                  case atStart => exact ⟨i2 + 1, d2, by go_num, Nat.le_refl _, by omega, hN4, rfl⟩
                  case round =>
                    clear hN4
                    obtain ⟨r, dr, rfl, hri, hrb, hN5, HQ⟩ := hrel
                    by_cases hrlt : r < b
                    · have hrlt' : (r : Int) < (b : Int) := by omega
                      have hrn : (r : Int) < (n : Int) := by omega
                      have hr1 : (1 : Int) ≤ (r : Int) := by omega
                      obtain ⟨M, HM⟩ : ∃ G : Nat → Nat, Hid (∀ t, G t = dr[t]!) := ⟨fun t => dr[t]!, fun _ => rfl⟩
                      have x0 : wr.cell? ⟨g, r, none⟩ = some (.int .u64 (M r : Nat)) := by rw [HM.out]; exact hN5.row.cell r (by omega)
                      have x1 : wr.cell? ⟨g, r - 1, none⟩ = some (.int .u64 (M (r - 1) : Nat)) := by rw [HM.out]; exact hN5.row.cell (r - 1) (by omega)
                      have f0 := hN5.row.free r
                      have f1 := hN5.row.free (r - 1)
                      go_wp2_with fail
                      go_quiet (first | (go_at_call 45; refine Calls.quiet_of_same (less_any _ _ _)))
                      cases hm : ltN (M r) (M (r - 1))
                      · have E3 : Hid ((if b - i2 ≥ 2 then shiftUp ltN b (i2 + 1) d2 else d2) = dr) := by
                          show _ = _
                          rw [if_pos hr2, ← HQ.out, su_stop (.inr (by rw [← HM.out, ← HM.out, hm]))]
                        go_wp2
                        exact ⟨⟨i2, t + 1, dr, by go_num, by go_num, by omega, by omega, by omega, hN5.drewN _, by show _ = _; rw [← HO.out, es, pi_step HS.out (by omega) h50 E2.out E3.out]⟩, by simp [intOf]; omega⟩
                      · have hN6 := (hN5.drewN (nq + 1)).swap r (r - 1)
                        rw [← HM.out, ← HM.out] at hN6
                        go_wp2_with fail
                        go_region
                        all_goals go_wp2
                        exact ⟨⟨r + 1, swp dr r (r - 1), by go_num, by omega, by omega, hN6, by show _ = _; rw [← HQ.out, su_go hrlt (by rw [← HM.out, ← HM.out, hm])]⟩, by simp [intOf]; omega⟩
                    · have hrlt' : decide ((r : Int) < (b : Int)) = false := decide_eq_false (by omega)
                      have hrge : (b : Int) ≤ (r : Int) := by omega
                      have E3 : Hid ((if b - i2 ≥ 2 then shiftUp ltN b (i2 + 1) d2 else d2) = dr) := by
                        show _ = _
                        rw [if_pos hr2, ← HQ.out, su_stop (.inl hrlt)]
                      go_wp2
                      exact ⟨⟨i2, t + 1, dr, by go_num, by go_num, by omega, by omega, by omega, hN5, by show _ = _; rw [← HO.out, es, pi_step HS.out (by omega) h50 E2.out E3.out]⟩, by simp [intOf]; omega⟩
                · have hr2' : decide ((2 : Int) ≤ (b : Int) - (i2 : Int)) = false := decide_eq_false (by omega)
                  have hr2'' : (b : Int) - (i2 : Int) < 2 := by omega
                  have E3 : Hid ((if b - i2 ≥ 2 then shiftUp ltN b (i2 + 1) d2 else d2) = d2) := by
                    show _ = _
                    rw [if_neg (by omega)]
                  go_wp2
                  exact ⟨⟨i2, t + 1, d2, by go_num, by go_num, by omega, by omega, by omega, hN4, by show _ = _; rw [← HO.out, es, pi_step HS.out (by omega) h50 E2.out E3.out]⟩, by simp [intOf]; omega⟩
        · have eib : i2 = b := by omega
          have hlt' : decide ((i2 : Int) < (b : Int)) = false := decide_eq_false (by omega)
          have heq' : ((i2 : Int) == (b : Int)) = true := by rw [beq_iff_eq]; omega
          have HS : Hid (scanSorted ltN dk b i = b) := HU.out.symm.trans ((ss_stop (.inl hlt)).trans eib)
          clear eib HU
          go_wp2_with fail
          go_quiet (first | (go_at_call 45; refine Calls.quiet_of_same (less_any _ _ _)))
          go_wp2
          go_ret
          have HE : partialInsertionSort ltN d a b = (dk, true) := by rw [HD.out, ← HO.out, es, pi_done HS.out]
          rw [HE]
          exact ⟨rfl, hN.drewN _⟩
    · have et : t = 5 := by omega
      have ht' : decide ((t : Int) < 5) = false := decide_eq_false (by omega)
      have ht'' : (5 : Int) ≤ (t : Int) := by omega
      go_wp2
      go_ret
      have HE : partialInsertionSort ltN d a b = (dk, false) := by rw [HD.out, ← HO.out, et]; rfl
      rw [HE]
      exact ⟨rfl, hN0⟩
end Go.Proofs.Ytaikeeidjfcijaa
