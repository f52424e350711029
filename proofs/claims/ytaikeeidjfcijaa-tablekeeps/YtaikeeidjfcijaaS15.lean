/- slices.Compact of a row of labels that is in order: the walk. -/
import Derived.Test.YtaikeeidjfcijaaS14
namespace Go.Proofs.Ytaikeeidjfcijaa
open Go.RowKit Go.Sort

theorem zero35 (w : World) : (zeroValue 35).run Try.prog w = .ok (.int .u64 0) w := by kernel_rfl

set_option maxRecDepth 100000 in
set_option maxHeartbeats 8000000 in
theorem compact_any (g n cap : Nat) (d : Array Nat) (w : World) (hR : Row w g n cap d) (hs : SortedIn ltN 0 n d) (hn : n ≤ 4000000) :
    Calls Try.prog 32 #[.slice (some ⟨g, 0, none⟩) n cap] w fun e w' => ∃ (k : Nat) (d' : Array Nat), e = .returned (.slice (some ⟨g, 0, none⟩) k cap) ∧ k ≤ n ∧ Now w g n cap d' w' ∧ IsCanon d.toList (d'.toList.take k) := by
  have hz := hR.size
  have hnc : n ≤ cap := by
    rcases hR.own.2 with ⟨h, _⟩ | ⟨g', cap', cur, h, _, _, hn, _⟩
    · cases h
    · cases h; exact hn
  have HS : Hid (∀ j, 1 ≤ j → j < n → d[j - 1]! ≤ d[j]!) := fun j h1 h2 => lt_no.1 (hs (j - 1) j (Nat.zero_le _) (by omega) h2)
  have hN0 := Now.refl hR
  clear hs hR
  by_cases h2 : n < 2
  · have h2' : (n : Int) < 2 := by omega
    have HC : Hid (IsCanon d.toList (d.toList.take n)) := canon_of (by omega) (fun i j hij hj => by omega) (fun x => by rw [hz])
    go_enter Try.func32, Try.ntmps32
    go_wp2
    go_ret
    exact ⟨n, d, rfl, Nat.le_refl _, hN0, HC.out⟩
  · have h2' : decide ((n : Int) < 2) = false := decide_eq_false (by omega)
    have h2'' : (2 : Int) ≤ (n : Int) := by omega
    go_enter Try.func32, Try.ntmps32
    go_wp2
    go_loopw [3] (fun vk wr => ∃ k : Nat, vk = .int .i64 k ∧ 1 ≤ k ∧ k ≤ n ∧ Now w g n cap d wr ∧ Hid (Strict d k)) (fun vk _ => n - (intOf vk).toNat)
    case atStart => exact ⟨1, rfl, Nat.le_refl _, by omega, hN0, fun i j hij hj => by omega⟩
    case round =>
      clear hN0
      obtain ⟨k, rfl, hk1, hkn, hN, hSt⟩ := hrel
      obtain ⟨G, HG⟩ : ∃ G : Nat → Nat, Hid (∀ t, G t = d[t]!) := ⟨fun t => d[t]!, fun _ => rfl⟩
      by_cases hlt : k < n
      · have hlt' : (k : Int) < (n : Int) := by omega
        have hk1' : (1 : Int) ≤ (k : Int) := by omega
        have x0 : wr.cell? ⟨g, k, none⟩ = some (.int .u64 (G k : Nat)) := by rw [HG.out]; exact hN.row.cell k hlt
        have x1 : wr.cell? ⟨g, k - 1, none⟩ = some (.int .u64 (G (k - 1) : Nat)) := by rw [HG.out]; exact hN.row.cell (k - 1) (by omega)
        by_cases he : G k = G (k - 1)
        · have t1 : ((G k : Int) == (G (k - 1) : Int)) = true := by rw [beq_iff_eq]; omega
          have HCo : Hid (Comp d d n k (k + 1)) := comp_start hk1 hlt hSt.out (by rw [← HG.out, ← HG.out]; exact he)
          clear he
          go_wp2_with fail
          go_quiet (fail)
          have hN2 := hN.drewN nq
          clear hN x0 x1 t1
          have kc : k < cap := by omega
          have kc' : (k : Int) < (cap : Int) := by omega
          have kcne : (cap : Nat) ≠ k := by omega
          go_wp2
          go_loopw [3, 5] (fun vk vi wr => ∃ (m i : Nat) (dk : Array Nat), vk = .int .i64 m ∧ vi = .int .i64 i ∧ 1 ≤ i ∧ i ≤ n - k ∧ Hid (Comp d dk n m (k + i)) ∧ Now w g n cap dk wr) (fun _ vi _ => n - k - (intOf vi).toNat)
          case atStart => exact ⟨k, 1, d, rfl, rfl, Nat.le_refl _, by omega, HCo, hN2⟩
          case round =>
            clear hN2 HCo
            obtain ⟨m, i, dk, rfl, rfl, hi1, hin, HC, hN⟩ := hrel
            have hkj := HC.out.kj
            by_cases hil : i < n - k
            · have hil' : (i : Int) < (n : Int) - (k : Int) := by omega
              have hil2 : (i : Int) < ((n - k : Nat) : Int) := by omega
              have hi1' : (1 : Int) ≤ (i : Int) := by omega
              have y0 : wr.cell? ⟨g, k + i, none⟩ = some (.int .u64 (G (k + i) : Nat)) := by rw [HG.out, ← HC.out.rest (k + i) (by omega) (by omega)]; exact hN.row.cell (k + i) (by omega)
              have y1 : wr.cell? ⟨g, k + (i - 1), none⟩ = some (.int .u64 (G (k + (i - 1)) : Nat)) := by rw [HG.out, ← HC.out.rest (k + (i - 1)) (by omega) (by omega)]; exact hN.row.cell (k + (i - 1)) (by omega)
              obtain ⟨z, hz0⟩ : ∃ z, wr.cell? ⟨g, m, none⟩ = some z := ⟨_, hN.row.cell m (by omega)⟩
              have f0 := hN.row.free m
              have hmn : (m : Int) < (n : Int) := by omega
              have ej : k + (i - 1) = k + i - 1 := by omega
              by_cases he : G (k + i) = G (k + (i - 1))
              · have t1 : ((G (k + i) : Int) != (G (k + (i - 1)) : Int)) = false := by rw [he]; simp
                have HC2 : Hid (Comp d dk n m (k + (i + 1))) := comp_same (j := k + i) HC.out (by omega) (by rw [HG.out, HG.out, ej] at he; exact he)
                clear he ej
                go_wp2_with fail
                go_quiet (fail)
                go_wp2
                exact ⟨⟨m, i + 1, dk, rfl, by go_num, by omega, by omega, HC2, hN.drewN _⟩, by simp [intOf]; omega⟩
              · have t1 : ((G (k + i) : Int) != (G (k + (i - 1)) : Int)) = true := by rw [bne_iff_ne]; intro h; exact he (by omega)
                have hle := HS.out (k + i) (by omega) (by omega)
                have HC2 : Hid (Comp d (dk.setIfInBounds m d[k + i]!) n (m + 1) (k + (i + 1))) := comp_put (j := k + i) HC.out hN.row.size (by omega) (by rw [HG.out, HG.out, ej] at he; omega)
                have HGi : Hid (G (k + i) = d[k + i]!) := HG.out _
                clear he ej hle
                go_wp2_with fail
                go_quiet (fail)
                have hN3 := (hN.drewN nq).put m d[k + i]!
                rw [← HGi.out] at hN3
                go_wp2
                exact ⟨⟨m + 1, i + 1, _, by go_num, by go_num, by omega, by omega, HC2, by rw [← HGi.out]; exact hN3⟩, by simp [intOf]; omega⟩
            · have ei : k + i = n := by omega
              have hil' : decide ((i : Int) < (n : Int) - (k : Int)) = false := decide_eq_false (by omega)
              have hil2 : decide ((i : Int) < ((n - k : Nat) : Int)) = false := decide_eq_false (by omega)
              have hil3 : ((n - k : Nat) : Int) ≤ (i : Int) := by omega
              have hil4 : (n : Int) - (k : Int) ≤ (i : Int) := by omega
              rw [ei] at HC hkj
              clear ei
              have hcl : ∀ ty, (Builtin.clear_ #[23] ty #[.slice (some ⟨g, m, none⟩) (n - m) (cap - m)]).run Try.prog wr = .ok (.tuple #[]) (wr.setCells g m (List.replicate (n - m) (.int .u64 0))) := fun ty =>
                Lib.run_clear_slice wr 23 35 ty (.int .u64 0) Try.underlying23 zero35 rfl rfl g m (n - m) (cap - m) (by omega) (fun j hj => by rw [hN.row.cell (m + j) (by omega)]; rfl) (fun j _ => hN.row.free (m + j))
              obtain ⟨d', hN4, hk4⟩ := Now.clear (n - m) m dk wr hN
              have HF : Hid (IsCanon d.toList (d'.toList.take m)) := canon_of (by rw [hN4.row.size]; omega) (strict_keep hk4 HC.out.strict) (by rw [hz]; exact same_keep hk4 HC.out.same)
              have mc : m < cap := by omega
              have mc' : (m : Int) < (cap : Int) := by omega
              have mcne : (cap : Nat) ≠ m := by omega
              have mn' : (m : Int) ≤ (n : Int) := by omega
              have mle : m ≤ n := by omega
              clear hk4 HC hkj
              go_wp2
              go_ret
              exact ⟨m, d', rfl, mle, hN4, HF.out⟩
        · have t1 : ((G k : Int) == (G (k - 1) : Int)) = false := by rw [beq_eq_false_iff_ne]; omega
          have hSt2 : Hid (Strict d (k + 1)) := fun i j hij hj => by
            have h0 := HS.out k hk1 hlt
            rw [HG.out, HG.out] at he
            by_cases hjk : j = k
            · subst hjk
              by_cases hi : i = j - 1
              · rw [hi]; omega
              · have := hSt.out i (j - 1) (by omega) (by omega)
                omega
            · exact hSt.out i j hij (by omega)
          clear he
          go_wp2_with fail
          go_quiet (fail)
          go_wp2
          exact ⟨⟨k + 1, by go_num, by omega, by omega, hN.drewN _, hSt2⟩, by simp [intOf]; omega⟩
      · have hge : (n : Int) ≤ (k : Int) := by omega
        have hlt' : decide ((k : Int) < (n : Int)) = false := decide_eq_false (by omega)
        have ek : Hid (k = n) := by show _ = _; omega
        have HC : Hid (IsCanon d.toList (d.toList.take n)) := canon_of (by omega) (fun i j hij hj => hSt.out i j hij (by have := ek.out; omega)) (fun x => by rw [hz])
        go_wp2
        go_ret
        exact ⟨n, d, rfl, Nat.le_refl _, hN, HC.out⟩
end Go.Proofs.Ytaikeeidjfcijaa
