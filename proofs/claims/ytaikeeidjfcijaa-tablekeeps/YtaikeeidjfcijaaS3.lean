/- The heap sort and the reversal of a row of labels. -/
import Derived.Test.YtaikeeidjfcijaaS2
namespace Go.Proofs.Ytaikeeidjfcijaa
open Go.RowKit Go.Sort

set_option maxRecDepth 100000 in
set_option maxHeartbeats 8000000 in
theorem heap_any (g n cap a b : Nat) (d : Array Nat) (w : World) (hR : Row w g n cap d) (hab : a < b) (hb : b ≤ n) (hn : n ≤ 4000000) :
    Calls Try.prog 40 #[.slice (some ⟨g, 0, none⟩) n cap, .int .i64 a, .int .i64 b] w fun e w' => e = .returned (.tuple #[]) ∧ Now w g n cap (heapSort ltN d a b) w' := by
  obtain ⟨hi, hhi⟩ : ∃ hi : Nat, Hid (hi = b - a) := ⟨_, rfl⟩
  have ehi : (b : Int) - (a : Int) = (hi : Int) := by have := hhi.out; omega
  have hi1 : 1 ≤ hi := by have := hhi.out; omega
  have hin : a + hi ≤ n := by have := hhi.out; omega
  have HD : Hid (heapSort ltN d a b = heapPop ltN a hi (heapBuild ltN hi a ((hi - 1) / 2 + 1) d)) := by show _ = _; rw [hhi.out]; rfl
  go_enter Try.func40, Try.ntmps40
  go_wp2
  go_loopw [9] (fun vi wr => ∃ (k : Nat) (dk : Array Nat), vi = .int .i64 ((k : Int) - 1) ∧ k ≤ hi ∧ Now w g n cap dk wr ∧ Hid (heapBuild ltN hi a k dk = heapBuild ltN hi a ((hi - 1) / 2 + 1) d)) (fun vi _ => (intOf vi + 1).toNat)
  case atStart => exact ⟨(hi - 1) / 2 + 1, d, by congr 1; omega, by omega, Now.refl hR, rfl⟩
  case round =>
    clear hR
    obtain ⟨k, dk, rfl, hk, hN, HO⟩ := hrel
    cases k with
    | succ k =>
      have e1 : ((k + 1 : Nat) : Int) - 1 = (k : Int) := by omega
      rw [e1]
      have hS := sift_any g n cap k hi a dk wr hN.row hin (by omega) hn
      go_wp2_with (first | (go_at_call 50; refine hS.mono ?_; rintro e w2 ⟨rfl, hN2⟩))
      go_roundw
      case rel => exact ⟨k, siftDown ltN hi a k dk, by go_num, by omega, hN.trans hN2, HO.out⟩
      case measure => simp [intOf]
    | zero =>
      have HO' : Hid (dk = heapBuild ltN hi a ((hi - 1) / 2 + 1) d) := HO.out
      rw [← HO'.out] at HD
      clear HO
      have e0 : ((0 : Nat) : Int) - 1 = -1 := rfl
      rw [e0]
      go_wp2
      go_loopw [10] (fun vi wr => ∃ (k : Nat) (dj : Array Nat), vi = .int .i64 ((k : Int) - 1) ∧ k ≤ hi ∧ Now w g n cap dj wr ∧ Hid (heapPop ltN a k dj = heapPop ltN a hi dk)) (fun vi _ => (intOf vi + 1).toNat)
      case atStart => exact ⟨hi, dk, rfl, Nat.le_refl _, hN, rfl⟩
      case round =>
        clear hN
        obtain ⟨m, dj, rfl, hm, hN, HP⟩ := hrel
        cases m with
        | succ m =>
          have e1 : ((m + 1 : Nat) : Int) - 1 = (m : Int) := by omega
          rw [e1]
          obtain ⟨G, HG⟩ : ∃ G : Nat → Nat, Hid (∀ t, G t = dj[t]!) := ⟨fun t => dj[t]!, fun _ => rfl⟩
          have hcw : ∀ t, t < n → wr.cell? ⟨g, t, none⟩ = some (.int .u64 (G t : Nat)) := fun t ht => by rw [HG.out]; exact hN.row.cell t ht
          have hfw : ∀ t, t < n → wr.frozen? ⟨g, t, none⟩ = false := fun t _ => hN.row.free t
          have x0 := hcw a (by omega)
          have f0 := hfw a (by omega)
          have an : (a : Int) < (n : Int) := by omega
          by_cases hm0 : m = 0
          · subst hm0
            have z0 : ((0 : Nat) : Int) = 0 := rfl
            rw [z0]
            go_wp2_with fail
            go_region
            go_wp2_with fail
            have hN1 := (hN.drewN 1).swap a a
            rw [← HG.out] at hN1
            refine (sift_any g n cap 0 0 a (swp dj a a) _ hN1.row (by omega) (by omega) hn).mono ?_
            rintro e w2 ⟨rfl, hN2⟩
            go_wp2
            go_roundw
            case rel => exact ⟨0, _, by go_num, by omega, hN1.trans hN2, HP.out⟩
            case measure => simp [intOf]
          · obtain ⟨q, hq⟩ : ∃ q : Nat, Hid (q = a + m) := ⟨_, rfl⟩
            have eq : (a : Int) + (m : Int) = (q : Int) := by have := hq.out; omega
            have qn : q < n := by have := hq.out; omega
            have qn' : (q : Int) < (n : Int) := by omega
            have aq : a < q := by have := hq.out; omega
            have x1 := hcw q qn
            have f1 := hfw q qn
            go_wp2_with fail
            go_region
            go_wp2_with fail
            have hN1 := (hN.drewN 1).swap a q
            rw [← HG.out, ← HG.out] at hN1
            refine (sift_any g n cap 0 m a (swp dj a q) _ hN1.row (by omega) (by omega) hn).mono ?_
            rintro e w2 ⟨rfl, hN2⟩
            go_wp2
            go_roundw
            case rel => exact ⟨m, _, by go_num, by omega, hN1.trans hN2, by show _ = _; rw [hq.out]; exact HP.out⟩
            case measure => simp [intOf]
        | zero =>
          go_wp2
          go_end0
          refine ⟨rfl, ?_⟩
          rw [HD.out, ← HP.out]
          exact hN

theorem rev_go {i j : Nat} {d : Array Nat} (h : i < j) : reverseLoop i j d = reverseLoop (i + 1) (j - 1) (swp d i j) := by rw [reverseLoop, if_pos h]
theorem rev_end {i j : Nat} {d : Array Nat} (h : ¬ i < j) : reverseLoop i j d = d := by rw [reverseLoop, if_neg h]

set_option maxRecDepth 100000 in
set_option maxHeartbeats 4000000 in
theorem reverse_any (g n cap a b : Nat) (d : Array Nat) (w : World) (hR : Row w g n cap d) (hab : a < b) (hb : b ≤ n) (hn : n ≤ 4000000) :
    Calls Try.prog 43 #[.slice (some ⟨g, 0, none⟩) n cap, .int .i64 a, .int .i64 b] w fun e w' => e = .returned (.tuple #[]) ∧ Now w g n cap (reverseRange d a b) w' := by
  go_enter Try.func43, Try.ntmps43
  go_wp2
  go_loopw [6, 7] (fun vi vj wr => ∃ (i j : Nat) (dk : Array Nat), vi = .int .i64 i ∧ vj = .int .i64 j ∧ a ≤ i ∧ i ≤ b ∧ j < b ∧ Now w g n cap dk wr ∧ Hid (reverseLoop i j dk = reverseLoop a (b - 1) d)) (fun vi _ _ => b - (intOf vi).toNat)
  case atStart => exact ⟨a, b - 1, d, rfl, by congr 1; omega, by omega, by omega, by omega, Now.refl hR, rfl⟩
  case round =>
    clear hR
    obtain ⟨i, j, dk, rfl, rfl, hai, hib, hjb, hN, HO⟩ := hrel
    by_cases hij : i < j
    · obtain ⟨G, HG⟩ : ∃ G : Nat → Nat, Hid (∀ t, G t = dk[t]!) := ⟨fun t => dk[t]!, fun _ => rfl⟩
      have hcw : ∀ t, t < n → wr.cell? ⟨g, t, none⟩ = some (.int .u64 (G t : Nat)) := fun t ht => by rw [HG.out]; exact hN.row.cell t ht
      have hfw : ∀ t, t < n → wr.frozen? ⟨g, t, none⟩ = false := fun t _ => hN.row.free t
      have x0 := hcw i (by omega)
      have f0 := hfw i (by omega)
      have x1 := hcw j (by omega)
      have f1 := hfw j (by omega)
      have ni : (i : Int) < (n : Int) := by omega
      have nj : (j : Int) < (n : Int) := by omega
      have j1 : (1 : Int) ≤ (j : Int) := by omega
      have hN1 := (hN.drewN 1).swap i j
      rw [← HG.out, ← HG.out] at hN1
      go_wp2_with fail
      go_region
      all_goals go_wp2
      exact ⟨⟨i + 1, j - 1, _, by go_num, by congr 1; omega, by omega, by omega, by omega, hN1, by show _ = _; rw [← HO.out, rev_go hij]⟩, by simp [intOf]; omega⟩
    · have hij' : (j : Int) ≤ (i : Int) := by omega
      go_wp2
      go_end0
      refine ⟨rfl, ?_⟩
      show Now w g n cap (reverseLoop a (b - 1) d) wr
      rw [← HO.out, rev_end hij]
      exact hN
end Go.Proofs.Ytaikeeidjfcijaa
