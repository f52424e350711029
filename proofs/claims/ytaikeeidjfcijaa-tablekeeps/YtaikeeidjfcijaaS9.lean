/- The partition of a row of labels. -/
import Derived.Test.YtaikeeidjfcijaaS8
namespace Go.Proofs.Ytaikeeidjfcijaa
open Go.RowKit Go.Sort

theorem part_stop {a i j i2 j2 : Nat} {d : Array Nat} (hu : scanUp (fun x => ltN x d[a]!) d j i = i2) (hd : scanDown (fun x => !ltN x d[a]!) d i2 j = j2) (h : j2 < i2) : partLoop ltN a i j d = (j2, d) := by
  rw [partLoop.eq_def]
  simp only [hu, hd]
  rw [if_pos h]
theorem part_go {a i j i2 j2 : Nat} {d : Array Nat} (hu : scanUp (fun x => ltN x d[a]!) d j i = i2) (hd : scanDown (fun x => !ltN x d[a]!) d i2 j = j2) (h : i2 ≤ j2) (h1 : i ≤ i2) (h2 : j2 ≤ j) (h3 : 1 ≤ j2) : partLoop ltN a i j d = partLoop ltN a (i2 + 1) (j2 - 1) (swp d i2 j2) := by
  rw [partLoop.eq_def]
  simp only [hu, hd]
  rw [if_neg (by omega), dif_pos (by omega)]
theorem partn_true {a b pivot i2 j2 : Nat} {d d0 : Array Nat} (h0 : d0 = swp d a pivot) (hu : scanUp (fun x => ltN x d0[a]!) d0 (b - 1) (a + 1) = i2) (hd : scanDown (fun x => !ltN x d0[a]!) d0 i2 (b - 1) = j2) (h : j2 < i2) : partition ltN d a b pivot = (j2, true, swp d0 j2 a) := by
  subst h0
  unfold partition
  simp only [hu, hd]
  rw [if_pos h]
theorem partn_false {a b pivot i2 j2 : Nat} {d d0 : Array Nat} (h0 : d0 = swp d a pivot) (hu : scanUp (fun x => ltN x d0[a]!) d0 (b - 1) (a + 1) = i2) (hd : scanDown (fun x => !ltN x d0[a]!) d0 i2 (b - 1) = j2) (h : i2 ≤ j2) {r : Nat} {e : Array Nat} (hr : partLoop ltN a (i2 + 1) (j2 - 1) (swp d0 i2 j2) = (r, e)) : partition ltN d a b pivot = (r, false, swp e r a) := by
  subst h0
  unfold partition
  simp only [hu, hd]
  rw [if_neg (by omega)]
  simp only [hr]

set_option maxRecDepth 100000 in
set_option maxHeartbeats 32000000 in
theorem part_any (g n cap a b pivot : Nat) (d : Array Nat) (w : World) (hR : Row w g n cap d) (hab : a < b) (hb : b ≤ n) (hn : n ≤ 4000000) (hpa : a ≤ pivot) (hpb : pivot < b) :
    Calls Try.prog 47 #[.slice (some ⟨g, 0, none⟩) n cap, .int .i64 a, .int .i64 b, .int .i64 pivot] w fun e w' => e = .returned (.tuple #[.int .i64 ((partition ltN d a b pivot).1 : Nat), .bool (partition ltN d a b pivot).2.1]) ∧ Now w g n cap (partition ltN d a b pivot).2.2 w' := by
  obtain ⟨G0, HG0⟩ : ∃ G : Nat → Nat, Hid (∀ t, G t = d[t]!) := ⟨fun t => d[t]!, fun _ => rfl⟩
  have y0 : w.cell? ⟨g, a, none⟩ = some (.int .u64 (G0 a : Nat)) := by rw [HG0.out]; exact hR.cell a (by omega)
  have y1 : w.cell? ⟨g, pivot, none⟩ = some (.int .u64 (G0 pivot : Nat)) := by rw [HG0.out]; exact hR.cell pivot (by omega)
  have e0 := hR.free a
  have e1 := hR.free pivot
  have an : (a : Int) < (n : Int) := by omega
  have pn : (pivot : Int) < (n : Int) := by omega
  obtain ⟨d0, hd0⟩ : ∃ d0, Hid (d0 = swp d a pivot) := ⟨_, rfl⟩
  have hN0 := ((Now.refl hR).drewN 1).swap a pivot
  rw [← hd0.out, ← HG0.out, ← HG0.out] at hN0
  clear hR
  rcases Nat.lt_or_ge a pivot with hap | hap
  · go_enter Try.func47, Try.ntmps47
    go_wp2_with fail
    go_region
    clear y0 y1 e0 e1
    obtain ⟨G, HG⟩ : ∃ G : Nat → Nat, Hid (∀ t, G t = d0[t]!) := ⟨fun t => d0[t]!, fun _ => rfl⟩
    go_wp2
    go_loopw [10] (fun vi wr => ∃ (i' : Nat), vi = .int .i64 i' ∧ (a + 1) ≤ i' ∧ i' ≤ (b - 1) + 1 ∧ Now w g n cap d0 wr ∧ Hid (scanUp (fun x => ltN x d0[a]!) d0 (b - 1) i' = scanUp (fun x => ltN x d0[a]!) d0 (b - 1) (a + 1))) (fun vi _ => ((b - 1) + 1 : Nat) - (intOf vi).toNat)
    case atStart => exact ⟨(a + 1), by go_num, Nat.le_refl _, by omega, hN0, rfl⟩
    case round =>
      clear hN0
      obtain ⟨i2, rfl, hii, hi2, hN, HU⟩ := hrel
      have hcw : ∀ t, t < n → wr.cell? ⟨g, t, none⟩ = some (.int .u64 (G t : Nat)) := fun t ht => by rw [HG.out]; exact hN.row.cell t ht
      have x0 := hcw a (by omega)
      by_cases hle : i2 ≤ (b - 1)
      · have hle' : (i2 : Int) ≤ ((b : Int) - 1) := by omega
        have i2n : (i2 : Int) < (n : Int) := by omega
        have x1 := hcw i2 (by omega)
        go_wp2_with fail
        go_quiet (first | (go_at_call 45; refine Calls.quiet_of_same (less_any _ _ _)))
        cases hl : ltN (G i2) (G a)
        · have HU2 : Hid (scanUp (fun x => ltN x d0[a]!) d0 (b - 1) (a + 1) = i2) := HU.out.symm.trans (up_stop (.inr (by show ltN d0[i2]! d0[a]! = false; rw [← HG.out, ← HG.out, hl])))
          have hNN := hN.drewN nq
          clear HU
          go_wp2
          go_loopw [11] (fun vj wr => ∃ (j' : Nat), vj = .int .i64 j' ∧ j' ≤ (b - 1) ∧ i2 ≤ j' + 1 ∧ Now w g n cap d0 wr ∧ Hid (scanDown (fun x => !ltN x d0[a]!) d0 i2 j' = scanDown (fun x => !ltN x d0[a]!) d0 i2 (b - 1))) (fun vj _ => (intOf vj).toNat)
          case atStart => exact ⟨(b - 1), by (congr 1; omega), Nat.le_refl _, hi2, hNN, rfl⟩
          case round =>
            clear hNN hN hcw x0 x1
            obtain ⟨j2, rfl, hjj, hj2, hN, HV⟩ := hrel
            have hcw : ∀ t, t < n → wr.cell? ⟨g, t, none⟩ = some (.int .u64 (G t : Nat)) := fun t ht => by rw [HG.out]; exact hN.row.cell t ht
            have x0 := hcw a (by omega)
            by_cases hle2 : i2 ≤ j2
            · have hle2' : (i2 : Int) ≤ (j2 : Int) := by omega
              have j2n : (j2 : Int) < (n : Int) := by omega
              have j21 : (1 : Int) ≤ (j2 : Int) := by omega
              have x1 := hcw j2 (by omega)
              go_wp2_with fail
              go_quiet (first | (go_at_call 45; refine Calls.quiet_of_same (less_any _ _ _)))
              cases hl2 : ltN (G j2) (G a)
              · go_wp2
                go_roundw
                case rel => exact ⟨j2 - 1, by congr 1; omega, by omega, by omega, hN.drewN _, by show _ = _; rw [← HV.out, down_go hle2 (by omega) (by show (!ltN d0[j2]! d0[a]!) = true; rw [← HG.out, ← HG.out, hl2]; rfl)]⟩
                case measure => simp [intOf]; omega
              · have HV2 : Hid (scanDown (fun x => !ltN x d0[a]!) d0 i2 (b - 1) = j2) := HV.out.symm.trans (down_stop (.inr (by show (!ltN d0[j2]! d0[a]!) = false; rw [← HG.out, ← HG.out, hl2]; rfl)))
                clear HV
                revert nq; intro nq1
                obtain ⟨wr2, hw2⟩ : ∃ W, Hid (W = wr.drewN nq1) := ⟨_, rfl⟩
                rw [← hw2.out]
                have hN2 : Now w g n cap d0 wr2 := by rw [hw2.out]; exact hN.drewN _
                have z0 : wr2.cell? ⟨g, i2, none⟩ = some (.int .u64 (G i2 : Nat)) := by rw [HG.out]; exact hN2.row.cell i2 (by omega)
                have z1 : wr2.cell? ⟨g, j2, none⟩ = some (.int .u64 (G j2 : Nat)) := by rw [HG.out]; exact hN2.row.cell j2 (by omega)
                have f0 := hN2.row.free i2
                have f1 := hN2.row.free j2
                have i2n' : (i2 : Int) < (n : Int) := by omega
                have hN3 := (hN2.drewN 1).swap i2 j2
                rw [← HG.out, ← HG.out] at hN3
                clear hcw x0 x1 hN
                have hlt : i2 < j2 := by
                  rcases Nat.lt_or_ge i2 j2 with h | h
                  · exact h
                  · have eij : i2 = j2 := by omega
                    rw [← eij, hl] at hl2
                    cases hl2
                go_wp2_with fail
                go_region
                go_wp2
                have HU1 := HU2
                have HV1 := HV2
                have hle1 := hle2
                have hlt1 := hlt
                obtain ⟨i1, hi1⟩ : ∃ i1, i1 = i2 := ⟨_, rfl⟩
                obtain ⟨j1, hj1⟩ : ∃ j1, j1 = j2 := ⟨_, rfl⟩
                rw [← hi1] at HU1 HV1 hle1 hlt1
                rw [← hj1] at HV1 hle1 hlt1
                have hb1 : a + 1 ≤ i1 ∧ j1 < b := by omega
                go_loopw [10, 11] (fun vi vj wr => ∃ (i j : Nat) (dk : Array Nat), vi = .int .i64 i ∧ vj = .int .i64 j ∧ a + 1 ≤ i ∧ i ≤ j + 1 ∧ j < b ∧ Now w g n cap dk wr ∧ Hid (partLoop ltN a i j dk = partLoop ltN a (i1 + 1) (j1 - 1) (swp d0 i1 j1))) (fun vi vj _ => (intOf vj + 1 - intOf vi).toNat)
                case atStart => exact ⟨i2 + 1, j2 - 1, swp d0 i2 j2, by go_num, by congr 1; omega, by omega, by omega, by omega, hN3, by rw [hi1, hj1]; rfl⟩
                case round =>
                  clear hN3 hN2 z0 z1 f0 f1 HU2 HV2 hl hl2 HG hii hi2 hle hle' i2n hjj hj2 hle2 hle2' j2n j21 hi1 hj1 hlt i2n' hw2
                  obtain ⟨i, j, dk, rfl, rfl, hai, hij, hjb, hN0, HO⟩ := hrel
                  obtain ⟨G, HG⟩ : ∃ G : Nat → Nat, Hid (∀ t, G t = dk[t]!) := ⟨fun t => dk[t]!, fun _ => rfl⟩
                  go_wp2
                  go_loopw [10] (fun vi wr => ∃ (i' : Nat), vi = .int .i64 i' ∧ i ≤ i' ∧ i' ≤ j + 1 ∧ Now w g n cap dk wr ∧ Hid (scanUp (fun x => ltN x dk[a]!) dk j i' = scanUp (fun x => ltN x dk[a]!) dk j i)) (fun vi _ => (j + 1 : Nat) - (intOf vi).toNat)
                  case atStart => exact ⟨i, by go_num, Nat.le_refl _, by omega, hN0, rfl⟩
                  case round =>
                    clear hN0
                    obtain ⟨i2, rfl, hii, hi2, hN, HU⟩ := hrel
                    have hcw : ∀ t, t < n → wr.cell? ⟨g, t, none⟩ = some (.int .u64 (G t : Nat)) := fun t ht => by rw [HG.out]; exact hN.row.cell t ht
                    have x0 := hcw a (by omega)
                    by_cases hle : i2 ≤ j
                    · have hle' : (i2 : Int) ≤ (j : Int) := by omega
                      have i2n : (i2 : Int) < (n : Int) := by omega
                      have x1 := hcw i2 (by omega)
                      go_wp2_with fail
                      go_quiet (first | (go_at_call 45; refine Calls.quiet_of_same (less_any _ _ _)))
                      cases hl : ltN (G i2) (G a)
                      · have HU2 : Hid (scanUp (fun x => ltN x dk[a]!) dk j i = i2) := HU.out.symm.trans (up_stop (.inr (by show ltN dk[i2]! dk[a]! = false; rw [← HG.out, ← HG.out, hl])))
                        have hNN := hN.drewN nq
                        clear HU
                        go_wp2
                        go_loopw [11] (fun vj wr => ∃ (j' : Nat), vj = .int .i64 j' ∧ j' ≤ j ∧ i2 ≤ j' + 1 ∧ Now w g n cap dk wr ∧ Hid (scanDown (fun x => !ltN x dk[a]!) dk i2 j' = scanDown (fun x => !ltN x dk[a]!) dk i2 j)) (fun vj _ => (intOf vj).toNat)
                        case atStart => exact ⟨j, by go_num, Nat.le_refl _, hi2, hNN, rfl⟩
                        case round =>
                          clear hNN hN hcw x0 x1
                          obtain ⟨j2, rfl, hjj, hj2, hN, HV⟩ := hrel
                          have hcw : ∀ t, t < n → wr.cell? ⟨g, t, none⟩ = some (.int .u64 (G t : Nat)) := fun t ht => by rw [HG.out]; exact hN.row.cell t ht
                          have x0 := hcw a (by omega)
                          by_cases hle2 : i2 ≤ j2
                          · have hle2' : (i2 : Int) ≤ (j2 : Int) := by omega
                            have j2n : (j2 : Int) < (n : Int) := by omega
                            have j21 : (1 : Int) ≤ (j2 : Int) := by omega
                            have x1 := hcw j2 (by omega)
                            go_wp2_with fail
                            go_quiet (first | (go_at_call 45; refine Calls.quiet_of_same (less_any _ _ _)))
                            cases hl2 : ltN (G j2) (G a)
                            · go_wp2
                              go_roundw
                              case rel => exact ⟨j2 - 1, by congr 1; omega, by omega, by omega, hN.drewN _, by show _ = _; rw [← HV.out, down_go hle2 (by omega) (by show (!ltN dk[j2]! dk[a]!) = true; rw [← HG.out, ← HG.out, hl2]; rfl)]⟩
                              case measure => simp [intOf]; omega
                            · have HV2 : Hid (scanDown (fun x => !ltN x dk[a]!) dk i2 j = j2) := HV.out.symm.trans (down_stop (.inr (by show (!ltN dk[j2]! dk[a]!) = false; rw [← HG.out, ← HG.out, hl2]; rfl)))
                              clear HV
                              revert nq; intro nq1
                              obtain ⟨wr2, hw2⟩ : ∃ W, Hid (W = wr.drewN nq1) := ⟨_, rfl⟩
                              rw [← hw2.out]
                              have hN2 : Now w g n cap dk wr2 := by rw [hw2.out]; exact hN.drewN _
                              have z0 : wr2.cell? ⟨g, i2, none⟩ = some (.int .u64 (G i2 : Nat)) := by rw [HG.out]; exact hN2.row.cell i2 (by omega)
                              have z1 : wr2.cell? ⟨g, j2, none⟩ = some (.int .u64 (G j2 : Nat)) := by rw [HG.out]; exact hN2.row.cell j2 (by omega)
                              have f0 := hN2.row.free i2
                              have f1 := hN2.row.free j2
                              have i2n' : (i2 : Int) < (n : Int) := by omega
                              have hN3 := (hN2.drewN 1).swap i2 j2
                              rw [← HG.out, ← HG.out] at hN3
                              clear hcw x0 x1 hN
                              have hlt : i2 < j2 := by
                                rcases Nat.lt_or_ge i2 j2 with h | h
                                · exact h
                                · have eij : i2 = j2 := by omega
                                  rw [← eij, hl] at hl2
                                  cases hl2
                              go_wp2_with fail
                              go_region
                              all_goals go_wp2
                              exact ⟨⟨i2 + 1, j2 - 1, swp dk i2 j2, by go_num, by congr 1; omega, by omega, by omega, by omega, hN3, by show _ = _; rw [← HO.out, part_go HU2.out HV2.out hle2 hii hjj (by omega)]⟩, by simp [intOf]; omega⟩
                          · have hle2' : decide ((i2 : Int) ≤ (j2 : Int)) = false := decide_eq_false (by omega)
                            have hgt : (j2 : Int) < (i2 : Int) := by omega
                            have HV2 : Hid (scanDown (fun x => !ltN x dk[a]!) dk i2 j = j2) := HV.out.symm.trans (down_stop (.inl hle2))
                            clear HV
                            have j2n : (j2 : Int) < (n : Int) := by omega
                            go_wp2_with fail
                            go_quiet (first | (go_at_call 45; refine Calls.quiet_of_same (less_any _ _ _)))
                            revert nq; intro nq1
                            obtain ⟨wr2, hw2⟩ : ∃ W, Hid (W = wr.drewN nq1) := ⟨_, rfl⟩
                            rw [← hw2.out]
                            have hN2 : Now w g n cap dk wr2 := by rw [hw2.out]; exact hN.drewN _
                            have z0 : wr2.cell? ⟨g, a, none⟩ = some (.int .u64 (G a : Nat)) := by rw [HG.out]; exact hN2.row.cell a (by omega)
                            have z1 : wr2.cell? ⟨g, j2, none⟩ = some (.int .u64 (G j2 : Nat)) := by rw [HG.out]; exact hN2.row.cell j2 (by omega)
                            have f0 := hN2.row.free a
                            have f1 := hN2.row.free j2
                            have hN3 := (hN2.drewN 1).swap j2 a
                            rw [← HG.out, ← HG.out] at hN3
                            clear hcw x0 hN
                            have HE : Hid (partition ltN d a b pivot = (j2, false, swp dk j2 a)) := by show _ = _; exact partn_false hd0.out HU1.out HV1.out hle1 (HO.out.symm.trans (part_stop HU2.out HV2.out (by omega)))
                            rcases Nat.lt_or_ge a j2 with haj | haj
                            · go_wp2_with fail
                              go_region
                              all_goals go_wp2
                              all_goals (go_ret2; rw [HE.out]; exact ⟨rfl, hN3⟩)
                            · have eaj : a = j2 := by omega
                              subst eaj
                              go_wp2_with fail
                              go_region
                              all_goals go_wp2
                              all_goals (go_ret2; rw [HE.out]; exact ⟨rfl, hN3⟩)
                      · go_wp2
                        go_roundw
                        case rel => exact ⟨i2 + 1, by go_num, by omega, by omega, hN.drewN _, by show _ = _; rw [← HU.out, up_go hle (by show ltN dk[i2]! dk[a]! = true; rw [← HG.out, ← HG.out, hl])]⟩
                        case measure => simp [intOf]; omega
                    · have hle' : decide ((i2 : Int) ≤ (j : Int)) = false := decide_eq_false (by omega)
                      have HU2 : Hid (scanUp (fun x => ltN x dk[a]!) dk j i = i2) := HU.out.symm.trans (up_stop (.inl hle))
                      clear HU
                      go_wp2_with fail
                      go_quiet (first | (go_at_call 45; refine Calls.quiet_of_same (less_any _ _ _)))
                      have hNN := hN.drewN nq
                      go_wp2
                      go_loopw [11] (fun vj wr => ∃ (j' : Nat), vj = .int .i64 j' ∧ j' ≤ j ∧ i2 ≤ j' + 1 ∧ Now w g n cap dk wr ∧ Hid (scanDown (fun x => !ltN x dk[a]!) dk i2 j' = scanDown (fun x => !ltN x dk[a]!) dk i2 j)) (fun vj _ => (intOf vj).toNat)
                      case atStart => exact ⟨j, by go_num, Nat.le_refl _, hi2, hNN, rfl⟩
                      case round =>
                        clear hNN hN hcw x0
                        obtain ⟨j2, rfl, hjj, hj2, hN, HV⟩ := hrel
                        have hcw : ∀ t, t < n → wr.cell? ⟨g, t, none⟩ = some (.int .u64 (G t : Nat)) := fun t ht => by rw [HG.out]; exact hN.row.cell t ht
                        have x0 := hcw a (by omega)
                        by_cases hle2 : i2 ≤ j2
                        · exact absurd hle2 (by omega)
                        · have hle2' : decide ((i2 : Int) ≤ (j2 : Int)) = false := decide_eq_false (by omega)
                          have hgt : (j2 : Int) < (i2 : Int) := by omega
                          have HV2 : Hid (scanDown (fun x => !ltN x dk[a]!) dk i2 j = j2) := HV.out.symm.trans (down_stop (.inl hle2))
                          clear HV
                          have j2n : (j2 : Int) < (n : Int) := by omega
                          go_wp2_with fail
                          go_quiet (first | (go_at_call 45; refine Calls.quiet_of_same (less_any _ _ _)))
                          revert nq; intro nq1
                          obtain ⟨wr2, hw2⟩ : ∃ W, Hid (W = wr.drewN nq1) := ⟨_, rfl⟩
                          rw [← hw2.out]
                          have hN2 : Now w g n cap dk wr2 := by rw [hw2.out]; exact hN.drewN _
                          have z0 : wr2.cell? ⟨g, a, none⟩ = some (.int .u64 (G a : Nat)) := by rw [HG.out]; exact hN2.row.cell a (by omega)
                          have z1 : wr2.cell? ⟨g, j2, none⟩ = some (.int .u64 (G j2 : Nat)) := by rw [HG.out]; exact hN2.row.cell j2 (by omega)
                          have f0 := hN2.row.free a
                          have f1 := hN2.row.free j2
                          have hN3 := (hN2.drewN 1).swap j2 a
                          rw [← HG.out, ← HG.out] at hN3
                          clear hcw x0 hN
                          have HE : Hid (partition ltN d a b pivot = (j2, false, swp dk j2 a)) := by show _ = _; exact partn_false hd0.out HU1.out HV1.out hle1 (HO.out.symm.trans (part_stop HU2.out HV2.out (by omega)))
                          rcases Nat.lt_or_ge a j2 with haj | haj
                          · go_wp2_with fail
                            go_region
                            all_goals go_wp2
                            all_goals (go_ret2; rw [HE.out]; exact ⟨rfl, hN3⟩)
                          · have eaj : a = j2 := by omega
                            subst eaj
                            go_wp2_with fail
                            go_region
                            all_goals go_wp2
                            all_goals (go_ret2; rw [HE.out]; exact ⟨rfl, hN3⟩)
            · have hle2' : decide ((i2 : Int) ≤ (j2 : Int)) = false := decide_eq_false (by omega)
              have hgt : (j2 : Int) < (i2 : Int) := by omega
              have HV2 : Hid (scanDown (fun x => !ltN x d0[a]!) d0 i2 (b - 1) = j2) := HV.out.symm.trans (down_stop (.inl hle2))
              clear HV
              have j2n : (j2 : Int) < (n : Int) := by omega
              go_wp2_with fail
              go_quiet (first | (go_at_call 45; refine Calls.quiet_of_same (less_any _ _ _)))
              revert nq; intro nq1
              obtain ⟨wr2, hw2⟩ : ∃ W, Hid (W = wr.drewN nq1) := ⟨_, rfl⟩
              rw [← hw2.out]
              have hN2 : Now w g n cap d0 wr2 := by rw [hw2.out]; exact hN.drewN _
              have z0 : wr2.cell? ⟨g, a, none⟩ = some (.int .u64 (G a : Nat)) := by rw [HG.out]; exact hN2.row.cell a (by omega)
              have z1 : wr2.cell? ⟨g, j2, none⟩ = some (.int .u64 (G j2 : Nat)) := by rw [HG.out]; exact hN2.row.cell j2 (by omega)
              have f0 := hN2.row.free a
              have f1 := hN2.row.free j2
              have hN3 := (hN2.drewN 1).swap j2 a
              rw [← HG.out, ← HG.out] at hN3
              clear hcw x0 hN
              have HE : Hid (partition ltN d a b pivot = (j2, true, swp d0 j2 a)) := by show _ = _; exact partn_true hd0.out HU2.out HV2.out (by omega)
              rcases Nat.lt_or_ge a j2 with haj | haj
              · go_wp2_with fail
                go_region
                all_goals go_wp2
                all_goals (go_ret2; rw [HE.out]; exact ⟨rfl, hN3⟩)
              · have eaj : a = j2 := by omega
                subst eaj
                go_wp2_with fail
                go_region
                all_goals go_wp2
                all_goals (go_ret2; rw [HE.out]; exact ⟨rfl, hN3⟩)
        · go_wp2
          go_roundw
          case rel => exact ⟨i2 + 1, by go_num, by omega, by omega, hN.drewN _, by show _ = _; rw [← HU.out, up_go hle (by show ltN d0[i2]! d0[a]! = true; rw [← HG.out, ← HG.out, hl])]⟩
          case measure => simp [intOf]; omega
      · have hle' : decide ((i2 : Int) ≤ ((b : Int) - 1)) = false := decide_eq_false (by omega)
        have HU2 : Hid (scanUp (fun x => ltN x d0[a]!) d0 (b - 1) (a + 1) = i2) := HU.out.symm.trans (up_stop (.inl hle))
        clear HU
        go_wp2_with fail
        go_quiet (first | (go_at_call 45; refine Calls.quiet_of_same (less_any _ _ _)))
        have hNN := hN.drewN nq
        go_wp2
        go_loopw [11] (fun vj wr => ∃ (j' : Nat), vj = .int .i64 j' ∧ j' ≤ (b - 1) ∧ i2 ≤ j' + 1 ∧ Now w g n cap d0 wr ∧ Hid (scanDown (fun x => !ltN x d0[a]!) d0 i2 j' = scanDown (fun x => !ltN x d0[a]!) d0 i2 (b - 1))) (fun vj _ => (intOf vj).toNat)
        case atStart => exact ⟨(b - 1), by (congr 1; omega), Nat.le_refl _, hi2, hNN, rfl⟩
        case round =>
          clear hNN hN hcw x0
          obtain ⟨j2, rfl, hjj, hj2, hN, HV⟩ := hrel
          have hcw : ∀ t, t < n → wr.cell? ⟨g, t, none⟩ = some (.int .u64 (G t : Nat)) := fun t ht => by rw [HG.out]; exact hN.row.cell t ht
          have x0 := hcw a (by omega)
          by_cases hle2 : i2 ≤ j2
          · exact absurd hle2 (by omega)
          · have hle2' : decide ((i2 : Int) ≤ (j2 : Int)) = false := decide_eq_false (by omega)
            have hgt : (j2 : Int) < (i2 : Int) := by omega
            have HV2 : Hid (scanDown (fun x => !ltN x d0[a]!) d0 i2 (b - 1) = j2) := HV.out.symm.trans (down_stop (.inl hle2))
            clear HV
            have j2n : (j2 : Int) < (n : Int) := by omega
            go_wp2_with fail
            go_quiet (first | (go_at_call 45; refine Calls.quiet_of_same (less_any _ _ _)))
            revert nq; intro nq1
            obtain ⟨wr2, hw2⟩ : ∃ W, Hid (W = wr.drewN nq1) := ⟨_, rfl⟩
            rw [← hw2.out]
            have hN2 : Now w g n cap d0 wr2 := by rw [hw2.out]; exact hN.drewN _
            have z0 : wr2.cell? ⟨g, a, none⟩ = some (.int .u64 (G a : Nat)) := by rw [HG.out]; exact hN2.row.cell a (by omega)
            have z1 : wr2.cell? ⟨g, j2, none⟩ = some (.int .u64 (G j2 : Nat)) := by rw [HG.out]; exact hN2.row.cell j2 (by omega)
            have f0 := hN2.row.free a
            have f1 := hN2.row.free j2
            have hN3 := (hN2.drewN 1).swap j2 a
            rw [← HG.out, ← HG.out] at hN3
            clear hcw x0 hN
            have HE : Hid (partition ltN d a b pivot = (j2, true, swp d0 j2 a)) := by show _ = _; exact partn_true hd0.out HU2.out HV2.out (by omega)
            rcases Nat.lt_or_ge a j2 with haj | haj
            · go_wp2_with fail
              go_region
              all_goals go_wp2
              all_goals (go_ret2; rw [HE.out]; exact ⟨rfl, hN3⟩)
            · have eaj : a = j2 := by omega
              subst eaj
              go_wp2_with fail
              go_region
              all_goals go_wp2
              all_goals (go_ret2; rw [HE.out]; exact ⟨rfl, hN3⟩)
  · have eap : a = pivot := by omega
    subst eap
    go_enter Try.func47, Try.ntmps47
    go_wp2_with fail
    go_region
    clear y0 y1 e0 e1
    obtain ⟨G, HG⟩ : ∃ G : Nat → Nat, Hid (∀ t, G t = d0[t]!) := ⟨fun t => d0[t]!, fun _ => rfl⟩
    go_wp2
    go_loopw [10] (fun vi wr => ∃ (i' : Nat), vi = .int .i64 i' ∧ (a + 1) ≤ i' ∧ i' ≤ (b - 1) + 1 ∧ Now w g n cap d0 wr ∧ Hid (scanUp (fun x => ltN x d0[a]!) d0 (b - 1) i' = scanUp (fun x => ltN x d0[a]!) d0 (b - 1) (a + 1))) (fun vi _ => ((b - 1) + 1 : Nat) - (intOf vi).toNat)
    case atStart => exact ⟨(a + 1), by go_num, Nat.le_refl _, by omega, hN0, rfl⟩
    case round =>
      clear hN0
      obtain ⟨i2, rfl, hii, hi2, hN, HU⟩ := hrel
      have hcw : ∀ t, t < n → wr.cell? ⟨g, t, none⟩ = some (.int .u64 (G t : Nat)) := fun t ht => by rw [HG.out]; exact hN.row.cell t ht
      have x0 := hcw a (by omega)
      by_cases hle : i2 ≤ (b - 1)
      · have hle' : (i2 : Int) ≤ ((b : Int) - 1) := by omega
        have i2n : (i2 : Int) < (n : Int) := by omega
        have x1 := hcw i2 (by omega)
        go_wp2_with fail
        go_quiet (first | (go_at_call 45; refine Calls.quiet_of_same (less_any _ _ _)))
        cases hl : ltN (G i2) (G a)
        · have HU2 : Hid (scanUp (fun x => ltN x d0[a]!) d0 (b - 1) (a + 1) = i2) := HU.out.symm.trans (up_stop (.inr (by show ltN d0[i2]! d0[a]! = false; rw [← HG.out, ← HG.out, hl])))
          have hNN := hN.drewN nq
          clear HU
          go_wp2
          go_loopw [11] (fun vj wr => ∃ (j' : Nat), vj = .int .i64 j' ∧ j' ≤ (b - 1) ∧ i2 ≤ j' + 1 ∧ Now w g n cap d0 wr ∧ Hid (scanDown (fun x => !ltN x d0[a]!) d0 i2 j' = scanDown (fun x => !ltN x d0[a]!) d0 i2 (b - 1))) (fun vj _ => (intOf vj).toNat)
          case atStart => exact ⟨(b - 1), by (congr 1; omega), Nat.le_refl _, hi2, hNN, rfl⟩
          case round =>
            clear hNN hN hcw x0 x1
            obtain ⟨j2, rfl, hjj, hj2, hN, HV⟩ := hrel
            have hcw : ∀ t, t < n → wr.cell? ⟨g, t, none⟩ = some (.int .u64 (G t : Nat)) := fun t ht => by rw [HG.out]; exact hN.row.cell t ht
            have x0 := hcw a (by omega)
            by_cases hle2 : i2 ≤ j2
            · have hle2' : (i2 : Int) ≤ (j2 : Int) := by omega
              have j2n : (j2 : Int) < (n : Int) := by omega
              have j21 : (1 : Int) ≤ (j2 : Int) := by omega
              have x1 := hcw j2 (by omega)
              go_wp2_with fail
              go_quiet (first | (go_at_call 45; refine Calls.quiet_of_same (less_any _ _ _)))
              cases hl2 : ltN (G j2) (G a)
              · go_wp2
                go_roundw
                case rel => exact ⟨j2 - 1, by congr 1; omega, by omega, by omega, hN.drewN _, by show _ = _; rw [← HV.out, down_go hle2 (by omega) (by show (!ltN d0[j2]! d0[a]!) = true; rw [← HG.out, ← HG.out, hl2]; rfl)]⟩
                case measure => simp [intOf]; omega
              · have HV2 : Hid (scanDown (fun x => !ltN x d0[a]!) d0 i2 (b - 1) = j2) := HV.out.symm.trans (down_stop (.inr (by show (!ltN d0[j2]! d0[a]!) = false; rw [← HG.out, ← HG.out, hl2]; rfl)))
                clear HV
                revert nq; intro nq1
                obtain ⟨wr2, hw2⟩ : ∃ W, Hid (W = wr.drewN nq1) := ⟨_, rfl⟩
                rw [← hw2.out]
                have hN2 : Now w g n cap d0 wr2 := by rw [hw2.out]; exact hN.drewN _
                have z0 : wr2.cell? ⟨g, i2, none⟩ = some (.int .u64 (G i2 : Nat)) := by rw [HG.out]; exact hN2.row.cell i2 (by omega)
                have z1 : wr2.cell? ⟨g, j2, none⟩ = some (.int .u64 (G j2 : Nat)) := by rw [HG.out]; exact hN2.row.cell j2 (by omega)
                have f0 := hN2.row.free i2
                have f1 := hN2.row.free j2
                have i2n' : (i2 : Int) < (n : Int) := by omega
                have hN3 := (hN2.drewN 1).swap i2 j2
                rw [← HG.out, ← HG.out] at hN3
                clear hcw x0 x1 hN
                have hlt : i2 < j2 := by
                  rcases Nat.lt_or_ge i2 j2 with h | h
                  · exact h
                  · have eij : i2 = j2 := by omega
                    rw [← eij, hl] at hl2
                    cases hl2
                go_wp2_with fail
                go_region
                go_wp2
                have HU1 := HU2
                have HV1 := HV2
                have hle1 := hle2
                have hlt1 := hlt
                obtain ⟨i1, hi1⟩ : ∃ i1, i1 = i2 := ⟨_, rfl⟩
                obtain ⟨j1, hj1⟩ : ∃ j1, j1 = j2 := ⟨_, rfl⟩
                rw [← hi1] at HU1 HV1 hle1 hlt1
                rw [← hj1] at HV1 hle1 hlt1
                have hb1 : a + 1 ≤ i1 ∧ j1 < b := by omega
                go_loopw [10, 11] (fun vi vj wr => ∃ (i j : Nat) (dk : Array Nat), vi = .int .i64 i ∧ vj = .int .i64 j ∧ a + 1 ≤ i ∧ i ≤ j + 1 ∧ j < b ∧ Now w g n cap dk wr ∧ Hid (partLoop ltN a i j dk = partLoop ltN a (i1 + 1) (j1 - 1) (swp d0 i1 j1))) (fun vi vj _ => (intOf vj + 1 - intOf vi).toNat)
                case atStart => exact ⟨i2 + 1, j2 - 1, swp d0 i2 j2, by go_num, by congr 1; omega, by omega, by omega, by omega, hN3, by rw [hi1, hj1]; rfl⟩
                case round =>
                  clear hN3 hN2 z0 z1 f0 f1 HU2 HV2 hl hl2 HG hii hi2 hle hle' i2n hjj hj2 hle2 hle2' j2n j21 hi1 hj1 hlt i2n' hw2
                  obtain ⟨i, j, dk, rfl, rfl, hai, hij, hjb, hN0, HO⟩ := hrel
                  obtain ⟨G, HG⟩ : ∃ G : Nat → Nat, Hid (∀ t, G t = dk[t]!) := ⟨fun t => dk[t]!, fun _ => rfl⟩
                  go_wp2
                  go_loopw [10] (fun vi wr => ∃ (i' : Nat), vi = .int .i64 i' ∧ i ≤ i' ∧ i' ≤ j + 1 ∧ Now w g n cap dk wr ∧ Hid (scanUp (fun x => ltN x dk[a]!) dk j i' = scanUp (fun x => ltN x dk[a]!) dk j i)) (fun vi _ => (j + 1 : Nat) - (intOf vi).toNat)
                  case atStart => exact ⟨i, by go_num, Nat.le_refl _, by omega, hN0, rfl⟩
                  case round =>
                    clear hN0
                    obtain ⟨i2, rfl, hii, hi2, hN, HU⟩ := hrel
                    have hcw : ∀ t, t < n → wr.cell? ⟨g, t, none⟩ = some (.int .u64 (G t : Nat)) := fun t ht => by rw [HG.out]; exact hN.row.cell t ht
                    have x0 := hcw a (by omega)
                    by_cases hle : i2 ≤ j
                    · have hle' : (i2 : Int) ≤ (j : Int) := by omega
                      have i2n : (i2 : Int) < (n : Int) := by omega
                      have x1 := hcw i2 (by omega)
                      go_wp2_with fail
                      go_quiet (first | (go_at_call 45; refine Calls.quiet_of_same (less_any _ _ _)))
                      cases hl : ltN (G i2) (G a)
                      · have HU2 : Hid (scanUp (fun x => ltN x dk[a]!) dk j i = i2) := HU.out.symm.trans (up_stop (.inr (by show ltN dk[i2]! dk[a]! = false; rw [← HG.out, ← HG.out, hl])))
                        have hNN := hN.drewN nq
                        clear HU
                        go_wp2
                        go_loopw [11] (fun vj wr => ∃ (j' : Nat), vj = .int .i64 j' ∧ j' ≤ j ∧ i2 ≤ j' + 1 ∧ Now w g n cap dk wr ∧ Hid (scanDown (fun x => !ltN x dk[a]!) dk i2 j' = scanDown (fun x => !ltN x dk[a]!) dk i2 j)) (fun vj _ => (intOf vj).toNat)
                        case atStart => exact ⟨j, by go_num, Nat.le_refl _, hi2, hNN, rfl⟩
                        case round =>
                          clear hNN hN hcw x0 x1
                          obtain ⟨j2, rfl, hjj, hj2, hN, HV⟩ := hrel
                          have hcw : ∀ t, t < n → wr.cell? ⟨g, t, none⟩ = some (.int .u64 (G t : Nat)) := fun t ht => by rw [HG.out]; exact hN.row.cell t ht
                          have x0 := hcw a (by omega)
                          by_cases hle2 : i2 ≤ j2
                          · have hle2' : (i2 : Int) ≤ (j2 : Int) := by omega
                            have j2n : (j2 : Int) < (n : Int) := by omega
                            have j21 : (1 : Int) ≤ (j2 : Int) := by omega
                            have x1 := hcw j2 (by omega)
                            go_wp2_with fail
                            go_quiet (first | (go_at_call 45; refine Calls.quiet_of_same (less_any _ _ _)))
                            cases hl2 : ltN (G j2) (G a)
                            · go_wp2
                              go_roundw
                              case rel => exact ⟨j2 - 1, by congr 1; omega, by omega, by omega, hN.drewN _, by show _ = _; rw [← HV.out, down_go hle2 (by omega) (by show (!ltN dk[j2]! dk[a]!) = true; rw [← HG.out, ← HG.out, hl2]; rfl)]⟩
                              case measure => simp [intOf]; omega
                            · have HV2 : Hid (scanDown (fun x => !ltN x dk[a]!) dk i2 j = j2) := HV.out.symm.trans (down_stop (.inr (by show (!ltN dk[j2]! dk[a]!) = false; rw [← HG.out, ← HG.out, hl2]; rfl)))
                              clear HV
                              revert nq; intro nq1
                              obtain ⟨wr2, hw2⟩ : ∃ W, Hid (W = wr.drewN nq1) := ⟨_, rfl⟩
                              rw [← hw2.out]
                              have hN2 : Now w g n cap dk wr2 := by rw [hw2.out]; exact hN.drewN _
                              have z0 : wr2.cell? ⟨g, i2, none⟩ = some (.int .u64 (G i2 : Nat)) := by rw [HG.out]; exact hN2.row.cell i2 (by omega)
                              have z1 : wr2.cell? ⟨g, j2, none⟩ = some (.int .u64 (G j2 : Nat)) := by rw [HG.out]; exact hN2.row.cell j2 (by omega)
                              have f0 := hN2.row.free i2
                              have f1 := hN2.row.free j2
                              have i2n' : (i2 : Int) < (n : Int) := by omega
                              have hN3 := (hN2.drewN 1).swap i2 j2
                              rw [← HG.out, ← HG.out] at hN3
                              clear hcw x0 x1 hN
                              have hlt : i2 < j2 := by
                                rcases Nat.lt_or_ge i2 j2 with h | h
                                · exact h
                                · have eij : i2 = j2 := by omega
                                  rw [← eij, hl] at hl2
                                  cases hl2
                              go_wp2_with fail
                              go_region
                              all_goals go_wp2
                              exact ⟨⟨i2 + 1, j2 - 1, swp dk i2 j2, by go_num, by congr 1; omega, by omega, by omega, by omega, hN3, by show _ = _; rw [← HO.out, part_go HU2.out HV2.out hle2 hii hjj (by omega)]⟩, by simp [intOf]; omega⟩
                          · have hle2' : decide ((i2 : Int) ≤ (j2 : Int)) = false := decide_eq_false (by omega)
                            have hgt : (j2 : Int) < (i2 : Int) := by omega
                            have HV2 : Hid (scanDown (fun x => !ltN x dk[a]!) dk i2 j = j2) := HV.out.symm.trans (down_stop (.inl hle2))
                            clear HV
                            have j2n : (j2 : Int) < (n : Int) := by omega
                            go_wp2_with fail
                            go_quiet (first | (go_at_call 45; refine Calls.quiet_of_same (less_any _ _ _)))
                            revert nq; intro nq1
                            obtain ⟨wr2, hw2⟩ : ∃ W, Hid (W = wr.drewN nq1) := ⟨_, rfl⟩
                            rw [← hw2.out]
                            have hN2 : Now w g n cap dk wr2 := by rw [hw2.out]; exact hN.drewN _
                            have z0 : wr2.cell? ⟨g, a, none⟩ = some (.int .u64 (G a : Nat)) := by rw [HG.out]; exact hN2.row.cell a (by omega)
                            have z1 : wr2.cell? ⟨g, j2, none⟩ = some (.int .u64 (G j2 : Nat)) := by rw [HG.out]; exact hN2.row.cell j2 (by omega)
                            have f0 := hN2.row.free a
                            have f1 := hN2.row.free j2
                            have hN3 := (hN2.drewN 1).swap j2 a
                            rw [← HG.out, ← HG.out] at hN3
                            clear hcw x0 hN
                            have HE : Hid (partition ltN d a b a = (j2, false, swp dk j2 a)) := by show _ = _; exact partn_false hd0.out HU1.out HV1.out hle1 (HO.out.symm.trans (part_stop HU2.out HV2.out (by omega)))
                            rcases Nat.lt_or_ge a j2 with haj | haj
                            · go_wp2_with fail
                              go_region
                              all_goals go_wp2
                              all_goals (go_ret2; rw [HE.out]; exact ⟨rfl, hN3⟩)
                            · have eaj : a = j2 := by omega
                              subst eaj
                              go_wp2_with fail
                              go_region
                              all_goals go_wp2
                              all_goals (go_ret2; rw [HE.out]; exact ⟨rfl, hN3⟩)
                      · go_wp2
                        go_roundw
                        case rel => exact ⟨i2 + 1, by go_num, by omega, by omega, hN.drewN _, by show _ = _; rw [← HU.out, up_go hle (by show ltN dk[i2]! dk[a]! = true; rw [← HG.out, ← HG.out, hl])]⟩
                        case measure => simp [intOf]; omega
                    · have hle' : decide ((i2 : Int) ≤ (j : Int)) = false := decide_eq_false (by omega)
                      have HU2 : Hid (scanUp (fun x => ltN x dk[a]!) dk j i = i2) := HU.out.symm.trans (up_stop (.inl hle))
                      clear HU
                      go_wp2_with fail
                      go_quiet (first | (go_at_call 45; refine Calls.quiet_of_same (less_any _ _ _)))
                      have hNN := hN.drewN nq
                      go_wp2
                      go_loopw [11] (fun vj wr => ∃ (j' : Nat), vj = .int .i64 j' ∧ j' ≤ j ∧ i2 ≤ j' + 1 ∧ Now w g n cap dk wr ∧ Hid (scanDown (fun x => !ltN x dk[a]!) dk i2 j' = scanDown (fun x => !ltN x dk[a]!) dk i2 j)) (fun vj _ => (intOf vj).toNat)
                      case atStart => exact ⟨j, by go_num, Nat.le_refl _, hi2, hNN, rfl⟩
                      case round =>
                        clear hNN hN hcw x0
                        obtain ⟨j2, rfl, hjj, hj2, hN, HV⟩ := hrel
                        have hcw : ∀ t, t < n → wr.cell? ⟨g, t, none⟩ = some (.int .u64 (G t : Nat)) := fun t ht => by rw [HG.out]; exact hN.row.cell t ht
                        have x0 := hcw a (by omega)
                        by_cases hle2 : i2 ≤ j2
                        · exact absurd hle2 (by omega)
                        · have hle2' : decide ((i2 : Int) ≤ (j2 : Int)) = false := decide_eq_false (by omega)
                          have hgt : (j2 : Int) < (i2 : Int) := by omega
                          have HV2 : Hid (scanDown (fun x => !ltN x dk[a]!) dk i2 j = j2) := HV.out.symm.trans (down_stop (.inl hle2))
                          clear HV
                          have j2n : (j2 : Int) < (n : Int) := by omega
                          go_wp2_with fail
                          go_quiet (first | (go_at_call 45; refine Calls.quiet_of_same (less_any _ _ _)))
                          revert nq; intro nq1
                          obtain ⟨wr2, hw2⟩ : ∃ W, Hid (W = wr.drewN nq1) := ⟨_, rfl⟩
                          rw [← hw2.out]
                          have hN2 : Now w g n cap dk wr2 := by rw [hw2.out]; exact hN.drewN _
                          have z0 : wr2.cell? ⟨g, a, none⟩ = some (.int .u64 (G a : Nat)) := by rw [HG.out]; exact hN2.row.cell a (by omega)
                          have z1 : wr2.cell? ⟨g, j2, none⟩ = some (.int .u64 (G j2 : Nat)) := by rw [HG.out]; exact hN2.row.cell j2 (by omega)
                          have f0 := hN2.row.free a
                          have f1 := hN2.row.free j2
                          have hN3 := (hN2.drewN 1).swap j2 a
                          rw [← HG.out, ← HG.out] at hN3
                          clear hcw x0 hN
                          have HE : Hid (partition ltN d a b a = (j2, false, swp dk j2 a)) := by show _ = _; exact partn_false hd0.out HU1.out HV1.out hle1 (HO.out.symm.trans (part_stop HU2.out HV2.out (by omega)))
                          rcases Nat.lt_or_ge a j2 with haj | haj
                          · go_wp2_with fail
                            go_region
                            all_goals go_wp2
                            all_goals (go_ret2; rw [HE.out]; exact ⟨rfl, hN3⟩)
                          · have eaj : a = j2 := by omega
                            subst eaj
                            go_wp2_with fail
                            go_region
                            all_goals go_wp2
                            all_goals (go_ret2; rw [HE.out]; exact ⟨rfl, hN3⟩)
            · have hle2' : decide ((i2 : Int) ≤ (j2 : Int)) = false := decide_eq_false (by omega)
              have hgt : (j2 : Int) < (i2 : Int) := by omega
              have HV2 : Hid (scanDown (fun x => !ltN x d0[a]!) d0 i2 (b - 1) = j2) := HV.out.symm.trans (down_stop (.inl hle2))
              clear HV
              have j2n : (j2 : Int) < (n : Int) := by omega
              go_wp2_with fail
              go_quiet (first | (go_at_call 45; refine Calls.quiet_of_same (less_any _ _ _)))
              revert nq; intro nq1
              obtain ⟨wr2, hw2⟩ : ∃ W, Hid (W = wr.drewN nq1) := ⟨_, rfl⟩
              rw [← hw2.out]
              have hN2 : Now w g n cap d0 wr2 := by rw [hw2.out]; exact hN.drewN _
              have z0 : wr2.cell? ⟨g, a, none⟩ = some (.int .u64 (G a : Nat)) := by rw [HG.out]; exact hN2.row.cell a (by omega)
              have z1 : wr2.cell? ⟨g, j2, none⟩ = some (.int .u64 (G j2 : Nat)) := by rw [HG.out]; exact hN2.row.cell j2 (by omega)
              have f0 := hN2.row.free a
              have f1 := hN2.row.free j2
              have hN3 := (hN2.drewN 1).swap j2 a
              rw [← HG.out, ← HG.out] at hN3
              clear hcw x0 hN
              have HE : Hid (partition ltN d a b a = (j2, true, swp d0 j2 a)) := by show _ = _; exact partn_true hd0.out HU2.out HV2.out (by omega)
              rcases Nat.lt_or_ge a j2 with haj | haj
              · go_wp2_with fail
                go_region
                all_goals go_wp2
                all_goals (go_ret2; rw [HE.out]; exact ⟨rfl, hN3⟩)
              · have eaj : a = j2 := by omega
                subst eaj
                go_wp2_with fail
                go_region
                all_goals go_wp2
                all_goals (go_ret2; rw [HE.out]; exact ⟨rfl, hN3⟩)
        · go_wp2
          go_roundw
          case rel => exact ⟨i2 + 1, by go_num, by omega, by omega, hN.drewN _, by show _ = _; rw [← HU.out, up_go hle (by show ltN d0[i2]! d0[a]! = true; rw [← HG.out, ← HG.out, hl])]⟩
          case measure => simp [intOf]; omega
      · have hle' : decide ((i2 : Int) ≤ ((b : Int) - 1)) = false := decide_eq_false (by omega)
        have HU2 : Hid (scanUp (fun x => ltN x d0[a]!) d0 (b - 1) (a + 1) = i2) := HU.out.symm.trans (up_stop (.inl hle))
        clear HU
        go_wp2_with fail
        go_quiet (first | (go_at_call 45; refine Calls.quiet_of_same (less_any _ _ _)))
        have hNN := hN.drewN nq
        go_wp2
        go_loopw [11] (fun vj wr => ∃ (j' : Nat), vj = .int .i64 j' ∧ j' ≤ (b - 1) ∧ i2 ≤ j' + 1 ∧ Now w g n cap d0 wr ∧ Hid (scanDown (fun x => !ltN x d0[a]!) d0 i2 j' = scanDown (fun x => !ltN x d0[a]!) d0 i2 (b - 1))) (fun vj _ => (intOf vj).toNat)
        case atStart => exact ⟨(b - 1), by (congr 1; omega), Nat.le_refl _, hi2, hNN, rfl⟩
        case round =>
          clear hNN hN hcw x0
          obtain ⟨j2, rfl, hjj, hj2, hN, HV⟩ := hrel
          have hcw : ∀ t, t < n → wr.cell? ⟨g, t, none⟩ = some (.int .u64 (G t : Nat)) := fun t ht => by rw [HG.out]; exact hN.row.cell t ht
          have x0 := hcw a (by omega)
          by_cases hle2 : i2 ≤ j2
          · exact absurd hle2 (by omega)
          · have hle2' : decide ((i2 : Int) ≤ (j2 : Int)) = false := decide_eq_false (by omega)
            have hgt : (j2 : Int) < (i2 : Int) := by omega
            have HV2 : Hid (scanDown (fun x => !ltN x d0[a]!) d0 i2 (b - 1) = j2) := HV.out.symm.trans (down_stop (.inl hle2))
            clear HV
            have j2n : (j2 : Int) < (n : Int) := by omega
            go_wp2_with fail
            go_quiet (first | (go_at_call 45; refine Calls.quiet_of_same (less_any _ _ _)))
            revert nq; intro nq1
            obtain ⟨wr2, hw2⟩ : ∃ W, Hid (W = wr.drewN nq1) := ⟨_, rfl⟩
            rw [← hw2.out]
            have hN2 : Now w g n cap d0 wr2 := by rw [hw2.out]; exact hN.drewN _
            have z0 : wr2.cell? ⟨g, a, none⟩ = some (.int .u64 (G a : Nat)) := by rw [HG.out]; exact hN2.row.cell a (by omega)
            have z1 : wr2.cell? ⟨g, j2, none⟩ = some (.int .u64 (G j2 : Nat)) := by rw [HG.out]; exact hN2.row.cell j2 (by omega)
            have f0 := hN2.row.free a
            have f1 := hN2.row.free j2
            have hN3 := (hN2.drewN 1).swap j2 a
            rw [← HG.out, ← HG.out] at hN3
            clear hcw x0 hN
            have HE : Hid (partition ltN d a b a = (j2, true, swp d0 j2 a)) := by show _ = _; exact partn_true hd0.out HU2.out HV2.out (by omega)
            rcases Nat.lt_or_ge a j2 with haj | haj
            · go_wp2_with fail
              go_region
              all_goals go_wp2
              all_goals (go_ret2; rw [HE.out]; exact ⟨rfl, hN3⟩)
            · have eaj : a = j2 := by omega
              subst eaj
              go_wp2_with fail
              go_region
              all_goals go_wp2
              all_goals (go_ret2; rw [HE.out]; exact ⟨rfl, hN3⟩)
end Go.Proofs.Ytaikeeidjfcijaa
