/- The partition by an element that is the least. -/
import Derived.Test.YtaikeeidjfcijaaS7
namespace Go.Proofs.Ytaikeeidjfcijaa
open Go.RowKit Go.Sort

section
variable {p : Nat → Bool} {d : Array Nat} {i j : Nat}
theorem up_go (h : i ≤ j) (hp : p d[i]! = true) : scanUp p d j i = scanUp p d j (i + 1) := by rw [scanUp, if_pos (by simp [h, hp])]
theorem up_stop (h : ¬ i ≤ j ∨ p d[i]! = false) : scanUp p d j i = i := by
  rw [scanUp, if_neg]
  rcases h with h | h
  · simp; omega
  · simp [h]
theorem down_go (h : i ≤ j) (h1 : 1 ≤ j) (hp : p d[j]! = true) : scanDown p d i j = scanDown p d i (j - 1) := by
  obtain ⟨k, rfl⟩ : ∃ k, j = k + 1 := ⟨j - 1, by omega⟩
  rw [scanDown, if_pos (by simp [h, hp])]; rfl
theorem down_stop (h : ¬ i ≤ j ∨ p d[j]! = false) : scanDown p d i j = j := by
  cases j with
  | zero => rfl
  | succ k =>
    rw [scanDown, if_neg]
    rcases h with h | h
    · simp; omega
    · simp [h]
end

theorem parteq_stop {a i j i2 j2 : Nat} {d : Array Nat} (hu : scanUp (fun x => !ltN d[a]! x) d j i = i2) (hd : scanDown (fun x => ltN d[a]! x) d i2 j = j2) (h : j2 < i2) : partEqLoop ltN a i j d = (i2, d) := by
  rw [partEqLoop.eq_def]
  simp only [hu, hd]
  rw [if_pos h]
theorem parteq_go {a i j i2 j2 : Nat} {d : Array Nat} (hu : scanUp (fun x => !ltN d[a]! x) d j i = i2) (hd : scanDown (fun x => ltN d[a]! x) d i2 j = j2) (h : i2 ≤ j2) (h1 : i ≤ i2) (h2 : j2 ≤ j) (h3 : 1 ≤ j2) : partEqLoop ltN a i j d = partEqLoop ltN a (i2 + 1) (j2 - 1) (swp d i2 j2) := by
  rw [partEqLoop.eq_def]
  simp only [hu, hd]
  rw [if_neg (by omega), dif_pos (by omega)]

set_option maxRecDepth 100000 in
set_option maxHeartbeats 16000000 in
theorem partEq_any (g n cap a b pivot : Nat) (d : Array Nat) (w : World) (hR : Row w g n cap d) (hab : a < b) (hb : b ≤ n) (hn : n ≤ 4000000) (hpa : a ≤ pivot) (hpb : pivot < b) :
    Calls Try.prog 46 #[.slice (some ⟨g, 0, none⟩) n cap, .int .i64 a, .int .i64 b, .int .i64 pivot] w fun e w' => e = .returned (.int .i64 ((partitionEqual ltN d a b pivot).1 : Nat)) ∧ Now w g n cap (partitionEqual ltN d a b pivot).2 w' := by
  obtain ⟨G0, HG0⟩ : ∃ G : Nat → Nat, Hid (∀ t, G t = d[t]!) := ⟨fun t => d[t]!, fun _ => rfl⟩
  have y0 : w.cell? ⟨g, a, none⟩ = some (.int .u64 (G0 a : Nat)) := by rw [HG0.out]; exact hR.cell a (by omega)
  have y1 : w.cell? ⟨g, pivot, none⟩ = some (.int .u64 (G0 pivot : Nat)) := by rw [HG0.out]; exact hR.cell pivot (by omega)
  have e0 := hR.free a
  have e1 := hR.free pivot
  have an : (a : Int) < (n : Int) := by omega
  have pn : (pivot : Int) < (n : Int) := by omega
  obtain ⟨d0, hd0⟩ : ∃ d0, Hid (d0 = swp d a pivot) := ⟨_, rfl⟩
  have HP : Hid (partitionEqual ltN d a b pivot = partEqLoop ltN a (a + 1) (b - 1) d0) := by show _ = _; rw [hd0.out]; rfl
  have hN0 := ((Now.refl hR).drewN 1).swap a pivot
  rw [← hd0.out, ← HG0.out, ← HG0.out] at hN0
  clear hR
  have H0 : Hid True := trivial
  rcases Nat.lt_or_ge a pivot with hap | hap
  · go_enter Try.func46, Try.ntmps46
    go_wp2_with fail
    go_region
    clear y0 y1 e0 e1
    go_wp2
    go_loopw [9, 10] (fun vi vj wr => ∃ (i j : Nat) (dk : Array Nat), vi = .int .i64 i ∧ vj = .int .i64 j ∧ a + 1 ≤ i ∧ i ≤ j + 1 ∧ j < b ∧ Now w g n cap dk wr ∧ Hid (partEqLoop ltN a i j dk = partEqLoop ltN a (a + 1) (b - 1) d0)) (fun vi vj _ => (intOf vj + 1 - intOf vi).toNat)
    case atStart => exact ⟨a + 1, b - 1, d0, by go_num, by congr 1; omega, by omega, by omega, by omega, hN0, rfl⟩
    case round =>
      clear hN0
      obtain ⟨i, j, dk, rfl, rfl, hai, hij, hjb, hN, HO⟩ := hrel
      obtain ⟨G, HG⟩ : ∃ G : Nat → Nat, Hid (∀ t, G t = dk[t]!) := ⟨fun t => dk[t]!, fun _ => rfl⟩
      go_wp2
      go_loopw [9] (fun vi wr => ∃ (i' : Nat), vi = .int .i64 i' ∧ i ≤ i' ∧ i' ≤ j + 1 ∧ Now w g n cap dk wr ∧ Hid (scanUp (fun x => !ltN dk[a]! x) dk j i' = scanUp (fun x => !ltN dk[a]! x) dk j i)) (fun vi _ => (j + 1 : Nat) - (intOf vi).toNat)
      case atStart => exact ⟨i, rfl, Nat.le_refl _, hij, hN, rfl⟩
      case round =>
        clear hN
        obtain ⟨i2, rfl, hii, hi2, hN, HU⟩ := hrel
        have hcw : ∀ t, t < n → wr.cell? ⟨g, t, none⟩ = some (.int .u64 (G t : Nat)) := fun t ht => by rw [HG.out]; exact hN.row.cell t ht
        have x0 := hcw a (by omega)
        by_cases hle : i2 ≤ j
        · have hle' : (i2 : Int) ≤ (j : Int) := by omega
          have i2n : (i2 : Int) < (n : Int) := by omega
          have x1 := hcw i2 (by omega)
          go_wp2_with fail
          go_quiet (first | (go_at_call 45; refine Calls.quiet_of_same (less_any _ _ _)))
          cases hl : ltN (G a) (G i2)
          · go_wp2
            go_roundw
            case rel => exact ⟨i2 + 1, by go_num, by omega, by omega, hN.drewN _, by show _ = _; rw [← HU.out, up_go hle (by show (!ltN dk[a]! dk[i2]!) = true; rw [← HG.out, ← HG.out, hl]; rfl)]⟩
            case measure => simp [intOf]; omega
          · have HU2 : Hid (scanUp (fun x => !ltN dk[a]! x) dk j i = i2) := HU.out.symm.trans (up_stop (.inr (by show (!ltN dk[a]! dk[i2]!) = false; rw [← HG.out, ← HG.out, hl]; rfl)))
            have hNN := hN.drewN nq
            clear HU
            go_wp2
            go_loopw [10] (fun vj wr => ∃ (j' : Nat), vj = .int .i64 j' ∧ j' ≤ j ∧ i2 ≤ j' + 1 ∧ Now w g n cap dk wr ∧ Hid (scanDown (fun x => ltN dk[a]! x) dk i2 j' = scanDown (fun x => ltN dk[a]! x) dk i2 j)) (fun vj _ => (intOf vj).toNat)
            case atStart => exact ⟨j, rfl, Nat.le_refl _, hi2, hNN, rfl⟩
            case round =>
              clear hNN hN hcw x0 x1
              obtain ⟨j2, rfl, hjj, hj2, hN, HV⟩ := hrel
              have hcw : ∀ t, t < n → wr.cell? ⟨g, t, none⟩ = some (.int .u64 (G t : Nat)) := fun t ht => by rw [HG.out]; exact hN.row.cell t ht
              have x0 := hcw a (by omega)
              by_cases hle2 : i2 ≤ j2
              · have hle2' : (i2 : Int) ≤ (j2 : Int) := by omega
                have j2n : (j2 : Int) < (n : Int) := by omega
                have j21 : (1 : Int) ≤ (j2 : Int) := by omega
                have x1 := hcw j2 (by omega)
                go_wp2_with fail
                go_quiet (first | (go_at_call 45; refine Calls.quiet_of_same (less_any _ _ _)))
                cases hl2 : ltN (G a) (G j2)
                · have HV2 : Hid (scanDown (fun x => ltN dk[a]! x) dk i2 j = j2) := HV.out.symm.trans (down_stop (.inr (by show ltN dk[a]! dk[j2]! = false; rw [← HG.out, ← HG.out, hl2])))
                  clear HV
                  revert nq; intro nq1
                  obtain ⟨wr2, hw2⟩ : ∃ W, Hid (W = wr.drewN nq1) := ⟨_, rfl⟩
                  rw [← hw2.out]
                  have hN2 : Now w g n cap dk wr2 := by rw [hw2.out]; exact hN.drewN _
                  have z0 : wr2.cell? ⟨g, i2, none⟩ = some (.int .u64 (G i2 : Nat)) := by rw [HG.out]; exact hN2.row.cell i2 (by omega)
                  have z1 : wr2.cell? ⟨g, j2, none⟩ = some (.int .u64 (G j2 : Nat)) := by rw [HG.out]; exact hN2.row.cell j2 (by omega)
                  have f0 := hN2.row.free i2
                  have f1 := hN2.row.free j2
                  have i2n' : (i2 : Int) < (n : Int) := by omega
                  have hN3 := (hN2.drewN 1).swap i2 j2
                  rw [← HG.out, ← HG.out] at hN3
                  clear hcw x0 x1 hN
                  rcases Nat.lt_or_ge i2 j2 with hlt | hge
                  · go_wp2_with fail
                    go_region
                    all_goals go_wp2
                    exact ⟨⟨i2 + 1, j2 - 1, swp dk i2 j2, by go_num, by congr 1; omega, by omega, by omega, by omega, hN3, by show _ = _; rw [← HO.out, parteq_go HU2.out HV2.out hle2 hii hjj (by omega)]⟩, by simp [intOf]; omega⟩
                  · have eij : i2 = j2 := by omega
                    rw [← eij, hl] at hl2
                    cases hl2
                · go_wp2
                  go_roundw
                  case rel => exact ⟨j2 - 1, by congr 1; omega, by omega, by omega, hN.drewN _, by show _ = _; rw [← HV.out, down_go hle2 (by omega) (by show ltN dk[a]! dk[j2]! = true; rw [← HG.out, ← HG.out, hl2])]⟩
                  case measure => simp [intOf]; omega
              · have hle2' : decide ((i2 : Int) ≤ (j2 : Int)) = false := decide_eq_false (by omega)
                have hgt : (j2 : Int) < (i2 : Int) := by omega
                have HV2 : Hid (scanDown (fun x => ltN dk[a]! x) dk i2 j = j2) := HV.out.symm.trans (down_stop (.inl hle2))
                clear HV
                go_wp2_with fail
                go_quiet (first | (go_at_call 45; refine Calls.quiet_of_same (less_any _ _ _)))
                go_wp2
                go_ret
                have HE : partitionEqual ltN d a b pivot = (i2, dk) := by rw [HP.out, ← HO.out, parteq_stop HU2.out HV2.out (by omega)]
                rw [HE]
                exact ⟨rfl, hN.drewN _⟩
        · have hle' : decide ((i2 : Int) ≤ (j : Int)) = false := decide_eq_false (by omega)
          have HU2 : Hid (scanUp (fun x => !ltN dk[a]! x) dk j i = i2) := HU.out.symm.trans (up_stop (.inl hle))
          clear HU
          go_wp2_with fail
          go_quiet (first | (go_at_call 45; refine Calls.quiet_of_same (less_any _ _ _)))
          have hNN := hN.drewN nq
          go_wp2
          go_loopw [10] (fun vj wr => ∃ (j' : Nat), vj = .int .i64 j' ∧ j' ≤ j ∧ i2 ≤ j' + 1 ∧ Now w g n cap dk wr ∧ Hid (scanDown (fun x => ltN dk[a]! x) dk i2 j' = scanDown (fun x => ltN dk[a]! x) dk i2 j)) (fun vj _ => (intOf vj).toNat)
          case atStart => exact ⟨j, rfl, Nat.le_refl _, hi2, hNN, rfl⟩
          case round =>
            clear hNN hN hcw x0
            obtain ⟨j2, rfl, hjj, hj2, hN, HV⟩ := hrel
            have hcw : ∀ t, t < n → wr.cell? ⟨g, t, none⟩ = some (.int .u64 (G t : Nat)) := fun t ht => by rw [HG.out]; exact hN.row.cell t ht
            have x0 := hcw a (by omega)
            by_cases hle2 : i2 ≤ j2
            · exact absurd hle2 (by omega)
            · have hle2' : decide ((i2 : Int) ≤ (j2 : Int)) = false := decide_eq_false (by omega)
              have hgt : (j2 : Int) < (i2 : Int) := by omega
              have HV2 : Hid (scanDown (fun x => ltN dk[a]! x) dk i2 j = j2) := HV.out.symm.trans (down_stop (.inl hle2))
              clear HV
              go_wp2_with fail
              go_quiet (first | (go_at_call 45; refine Calls.quiet_of_same (less_any _ _ _)))
              go_wp2
              go_ret
              have HE : partitionEqual ltN d a b pivot = (i2, dk) := by rw [HP.out, ← HO.out, parteq_stop HU2.out HV2.out (by omega)]
              rw [HE]
              exact ⟨rfl, hN.drewN _⟩
  · have eap : a = pivot := by omega
    subst eap
    go_enter Try.func46, Try.ntmps46
    go_wp2_with fail
    go_region
    clear y0 y1 e0 e1
    go_wp2
    go_loopw [9, 10] (fun vi vj wr => ∃ (i j : Nat) (dk : Array Nat), vi = .int .i64 i ∧ vj = .int .i64 j ∧ a + 1 ≤ i ∧ i ≤ j + 1 ∧ j < b ∧ Now w g n cap dk wr ∧ Hid (partEqLoop ltN a i j dk = partEqLoop ltN a (a + 1) (b - 1) d0)) (fun vi vj _ => (intOf vj + 1 - intOf vi).toNat)
    case atStart => exact ⟨a + 1, b - 1, d0, by go_num, by congr 1; omega, by omega, by omega, by omega, hN0, rfl⟩
    case round =>
      clear hN0
      obtain ⟨i, j, dk, rfl, rfl, hai, hij, hjb, hN, HO⟩ := hrel
      obtain ⟨G, HG⟩ : ∃ G : Nat → Nat, Hid (∀ t, G t = dk[t]!) := ⟨fun t => dk[t]!, fun _ => rfl⟩
      go_wp2
      go_loopw [9] (fun vi wr => ∃ (i' : Nat), vi = .int .i64 i' ∧ i ≤ i' ∧ i' ≤ j + 1 ∧ Now w g n cap dk wr ∧ Hid (scanUp (fun x => !ltN dk[a]! x) dk j i' = scanUp (fun x => !ltN dk[a]! x) dk j i)) (fun vi _ => (j + 1 : Nat) - (intOf vi).toNat)
      case atStart => exact ⟨i, rfl, Nat.le_refl _, hij, hN, rfl⟩
      case round =>
        clear hN
        obtain ⟨i2, rfl, hii, hi2, hN, HU⟩ := hrel
        have hcw : ∀ t, t < n → wr.cell? ⟨g, t, none⟩ = some (.int .u64 (G t : Nat)) := fun t ht => by rw [HG.out]; exact hN.row.cell t ht
        have x0 := hcw a (by omega)
        by_cases hle : i2 ≤ j
        · have hle' : (i2 : Int) ≤ (j : Int) := by omega
          have i2n : (i2 : Int) < (n : Int) := by omega
          have x1 := hcw i2 (by omega)
          go_wp2_with fail
          go_quiet (first | (go_at_call 45; refine Calls.quiet_of_same (less_any _ _ _)))
          cases hl : ltN (G a) (G i2)
          · go_wp2
            go_roundw
            case rel => exact ⟨i2 + 1, by go_num, by omega, by omega, hN.drewN _, by show _ = _; rw [← HU.out, up_go hle (by show (!ltN dk[a]! dk[i2]!) = true; rw [← HG.out, ← HG.out, hl]; rfl)]⟩
            case measure => simp [intOf]; omega
          · have HU2 : Hid (scanUp (fun x => !ltN dk[a]! x) dk j i = i2) := HU.out.symm.trans (up_stop (.inr (by show (!ltN dk[a]! dk[i2]!) = false; rw [← HG.out, ← HG.out, hl]; rfl)))
            have hNN := hN.drewN nq
            clear HU
            go_wp2
            go_loopw [10] (fun vj wr => ∃ (j' : Nat), vj = .int .i64 j' ∧ j' ≤ j ∧ i2 ≤ j' + 1 ∧ Now w g n cap dk wr ∧ Hid (scanDown (fun x => ltN dk[a]! x) dk i2 j' = scanDown (fun x => ltN dk[a]! x) dk i2 j)) (fun vj _ => (intOf vj).toNat)
            case atStart => exact ⟨j, rfl, Nat.le_refl _, hi2, hNN, rfl⟩
            case round =>
              clear hNN hN hcw x0 x1
              obtain ⟨j2, rfl, hjj, hj2, hN, HV⟩ := hrel
              have hcw : ∀ t, t < n → wr.cell? ⟨g, t, none⟩ = some (.int .u64 (G t : Nat)) := fun t ht => by rw [HG.out]; exact hN.row.cell t ht
              have x0 := hcw a (by omega)
              by_cases hle2 : i2 ≤ j2
              · have hle2' : (i2 : Int) ≤ (j2 : Int) := by omega
                have j2n : (j2 : Int) < (n : Int) := by omega
                have j21 : (1 : Int) ≤ (j2 : Int) := by omega
                have x1 := hcw j2 (by omega)
                go_wp2_with fail
                go_quiet (first | (go_at_call 45; refine Calls.quiet_of_same (less_any _ _ _)))
                cases hl2 : ltN (G a) (G j2)
                · have HV2 : Hid (scanDown (fun x => ltN dk[a]! x) dk i2 j = j2) := HV.out.symm.trans (down_stop (.inr (by show ltN dk[a]! dk[j2]! = false; rw [← HG.out, ← HG.out, hl2])))
                  clear HV
                  revert nq; intro nq1
                  obtain ⟨wr2, hw2⟩ : ∃ W, Hid (W = wr.drewN nq1) := ⟨_, rfl⟩
                  rw [← hw2.out]
                  have hN2 : Now w g n cap dk wr2 := by rw [hw2.out]; exact hN.drewN _
                  have z0 : wr2.cell? ⟨g, i2, none⟩ = some (.int .u64 (G i2 : Nat)) := by rw [HG.out]; exact hN2.row.cell i2 (by omega)
                  have z1 : wr2.cell? ⟨g, j2, none⟩ = some (.int .u64 (G j2 : Nat)) := by rw [HG.out]; exact hN2.row.cell j2 (by omega)
                  have f0 := hN2.row.free i2
                  have f1 := hN2.row.free j2
                  have i2n' : (i2 : Int) < (n : Int) := by omega
                  have hN3 := (hN2.drewN 1).swap i2 j2
                  rw [← HG.out, ← HG.out] at hN3
                  clear hcw x0 x1 hN
                  rcases Nat.lt_or_ge i2 j2 with hlt | hge
                  · go_wp2_with fail
                    go_region
                    all_goals go_wp2
                    exact ⟨⟨i2 + 1, j2 - 1, swp dk i2 j2, by go_num, by congr 1; omega, by omega, by omega, by omega, hN3, by show _ = _; rw [← HO.out, parteq_go HU2.out HV2.out hle2 hii hjj (by omega)]⟩, by simp [intOf]; omega⟩
                  · have eij : i2 = j2 := by omega
                    rw [← eij, hl] at hl2
                    cases hl2
                · go_wp2
                  go_roundw
                  case rel => exact ⟨j2 - 1, by congr 1; omega, by omega, by omega, hN.drewN _, by show _ = _; rw [← HV.out, down_go hle2 (by omega) (by show ltN dk[a]! dk[j2]! = true; rw [← HG.out, ← HG.out, hl2])]⟩
                  case measure => simp [intOf]; omega
              · have hle2' : decide ((i2 : Int) ≤ (j2 : Int)) = false := decide_eq_false (by omega)
                have hgt : (j2 : Int) < (i2 : Int) := by omega
                have HV2 : Hid (scanDown (fun x => ltN dk[a]! x) dk i2 j = j2) := HV.out.symm.trans (down_stop (.inl hle2))
                clear HV
                go_wp2_with fail
                go_quiet (first | (go_at_call 45; refine Calls.quiet_of_same (less_any _ _ _)))
                go_wp2
                go_ret
                have HE : partitionEqual ltN d a b a = (i2, dk) := by rw [HP.out, ← HO.out, parteq_stop HU2.out HV2.out (by omega)]
                rw [HE]
                exact ⟨rfl, hN.drewN _⟩
        · have hle' : decide ((i2 : Int) ≤ (j : Int)) = false := decide_eq_false (by omega)
          have HU2 : Hid (scanUp (fun x => !ltN dk[a]! x) dk j i = i2) := HU.out.symm.trans (up_stop (.inl hle))
          clear HU
          go_wp2_with fail
          go_quiet (first | (go_at_call 45; refine Calls.quiet_of_same (less_any _ _ _)))
          have hNN := hN.drewN nq
          go_wp2
          go_loopw [10] (fun vj wr => ∃ (j' : Nat), vj = .int .i64 j' ∧ j' ≤ j ∧ i2 ≤ j' + 1 ∧ Now w g n cap dk wr ∧ Hid (scanDown (fun x => ltN dk[a]! x) dk i2 j' = scanDown (fun x => ltN dk[a]! x) dk i2 j)) (fun vj _ => (intOf vj).toNat)
          case atStart => exact ⟨j, rfl, Nat.le_refl _, hi2, hNN, rfl⟩
          case round =>
            clear hNN hN hcw x0
            obtain ⟨j2, rfl, hjj, hj2, hN, HV⟩ := hrel
            have hcw : ∀ t, t < n → wr.cell? ⟨g, t, none⟩ = some (.int .u64 (G t : Nat)) := fun t ht => by rw [HG.out]; exact hN.row.cell t ht
            have x0 := hcw a (by omega)
            by_cases hle2 : i2 ≤ j2
            · exact absurd hle2 (by omega)
            · have hle2' : decide ((i2 : Int) ≤ (j2 : Int)) = false := decide_eq_false (by omega)
              have hgt : (j2 : Int) < (i2 : Int) := by omega
              have HV2 : Hid (scanDown (fun x => ltN dk[a]! x) dk i2 j = j2) := HV.out.symm.trans (down_stop (.inl hle2))
              clear HV
              go_wp2_with fail
              go_quiet (first | (go_at_call 45; refine Calls.quiet_of_same (less_any _ _ _)))
              go_wp2
              go_ret
              have HE : partitionEqual ltN d a b a = (i2, dk) := by rw [HP.out, ← HO.out, parteq_stop HU2.out HV2.out (by omega)]
              rw [HE]
              exact ⟨rfl, hN.drewN _⟩
end Go.Proofs.Ytaikeeidjfcijaa
