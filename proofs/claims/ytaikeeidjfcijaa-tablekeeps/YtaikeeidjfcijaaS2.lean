/- The heap sort and the reversal of a row of labels. -/
import Derived.Test.YtaikeeidjfcijaaS1
namespace Go.Proofs.Ytaikeeidjfcijaa
open Go.RowKit Go.Sort

section
variable {hi first root c : Nat} {d : Array Nat}
theorem sift_end (h : hi ≤ 2 * root + 1) : siftDown ltN hi first root d = d := by rw [siftDown, dif_pos (by omega)]
theorem sift_right (hc : c = 2 * root + 1) (h : c < hi) (h2 : c + 1 < hi) (hl : ltN d[first + c]! d[first + c + 1]! = true) :
    siftDown ltN hi first root d = if !ltN d[first + root]! d[first + (c + 1)]! then d else siftDown ltN hi first (c + 1) (swp d (first + root) (first + (c + 1))) := by
  subst hc
  rw [siftDown, dif_neg (by omega), if_pos (by simp [hl]; omega)]
  split
  · rfl
  · first | rfl | (rw [dif_pos (by omega)])
theorem sift_left (hc : c = 2 * root + 1) (h : c < hi) (hl : ¬ c + 1 < hi ∨ ltN d[first + c]! d[first + c + 1]! = false) :
    siftDown ltN hi first root d = if !ltN d[first + root]! d[first + c]! then d else siftDown ltN hi first c (swp d (first + root) (first + c)) := by
  subst hc
  rw [siftDown, dif_neg (by omega), if_neg]
  rcases hl with hl | hl
  · simp; omega
  · simp [hl]
end

set_option maxRecDepth 100000 in
set_option maxHeartbeats 8000000 in
theorem sift_any (g n cap lo hi first : Nat) (d : Array Nat) (w : World) (hR : Row w g n cap d) (hh : first + hi ≤ n) (hlo : lo ≤ n) (hn : n ≤ 4000000) :
    Calls Try.prog 50 #[.slice (some ⟨g, 0, none⟩) n cap, .int .i64 lo, .int .i64 hi, .int .i64 first] w fun e w' => e = .returned (.tuple #[]) ∧ Now w g n cap (siftDown ltN hi first lo d) w' := by
  go_enter Try.func50, Try.ntmps50
  go_wp2
  go_loopw [8] (fun vr wr => ∃ (root : Nat) (dk : Array Nat), vr = .int .i64 root ∧ root ≤ n ∧ Now w g n cap dk wr ∧ Hid (siftDown ltN hi first root dk = siftDown ltN hi first lo d)) (fun vr _ => 3 * n - (intOf vr).toNat)
  case atStart => exact ⟨lo, d, rfl, hlo, Now.refl hR, rfl⟩
  case round =>
    clear hR
    obtain ⟨root, dk, rfl, hrn, hN, HO⟩ := hrel
    obtain ⟨c, hc⟩ : ∃ c : Nat, Hid (c = 2 * root + 1) := ⟨_, rfl⟩
    have he : 2 * (root : Int) + 1 = (c : Int) := by have := hc.out; omega
    by_cases h1 : c < hi
    · have h1d : decide ((hi : Int) ≤ (c : Int)) = false := decide_eq_false (by omega)
      have h1' : (c : Int) < (hi : Int) := by omega
      obtain ⟨G, HG⟩ : ∃ G : Nat → Nat, Hid (∀ t, G t = dk[t]!) := ⟨fun t => dk[t]!, fun _ => rfl⟩
      have hcw : ∀ t, t < n → wr.cell? ⟨g, t, none⟩ = some (.int .u64 (G t : Nat)) := fun t ht => by rw [HG.out]; exact hN.row.cell t ht
      have hfw : ∀ t, t < n → wr.frozen? ⟨g, t, none⟩ = false := fun t _ => hN.row.free t
      have hrc : root < c := by have := hc.out; omega
      obtain ⟨p, hp⟩ : ∃ p : Nat, Hid (p = first + root) := ⟨_, rfl⟩
      obtain ⟨q, hq⟩ : ∃ q : Nat, Hid (q = first + c) := ⟨_, rfl⟩
      have ep : (first : Int) + (root : Int) = (p : Int) := by have := hp.out; omega
      have eq : (first : Int) + (c : Int) = (q : Int) := by have := hq.out; omega
      have pn : p < q := by have := hp.out; have := hq.out; omega
      have qn : q < n := by have := hq.out; omega
      have pn' : (p : Int) < (n : Int) := by omega
      have qn' : (q : Int) < (n : Int) := by omega
      have x0 := hcw p (by omega)
      have f0 := hfw p (by omega)
      have x1 := hcw q (by omega)
      have f1 := hfw q (by omega)
      by_cases h2 : c + 1 < hi
      · have h2' : (c : Int) + 1 < (hi : Int) := by omega
        have rn : q + 1 < n := by have := hq.out; omega
        have rn' : (q : Int) + 1 < (n : Int) := by omega
        have er : (first : Int) + ((c : Int) + 1) = (q : Int) + 1 := by omega
        have x2 := hcw (q + 1) (by omega)
        have f2 := hfw (q + 1) (by omega)
        cases hl : ltN (G q) (G (q + 1))
        · have HS : Hid (siftDown ltN hi first root dk = _) := sift_left hc.out h1 (.inr (by rw [← hq.out, ← HG.out, ← HG.out]; exact hl))
          go_wp2_with fail
          go_quiet (first | (go_at_call 45; refine Calls.quiet_of_same (less_any _ _ _)))
          revert nq; intro nq1
          obtain ⟨wr2, hw2⟩ : ∃ W, Hid (W = wr.drewN nq1) := ⟨_, rfl⟩
          rw [← hw2.out]
          have hN2 : Now w g n cap dk wr2 := by rw [hw2.out]; exact hN.drewN _
          have hcw2 : ∀ t, t < n → wr2.cell? ⟨g, t, none⟩ = some (.int .u64 (G t : Nat)) := fun t ht => by rw [HG.out]; exact hN2.row.cell t ht
          have hfw2 : ∀ t, t < n → wr2.frozen? ⟨g, t, none⟩ = false := fun t _ => hN2.row.free t
          clear hcw hfw hN x0 f0 x1 f1 x2 f2
          have x0 := hcw2 p (by omega)
          have f0 := hfw2 p (by omega)
          have x1 := hcw2 q (by omega)
          have f1 := hfw2 q (by omega)
          cases hm : ltN (G p) (G q)
          · go_wp2_with fail
            go_quiet (first | (go_at_call 45; refine Calls.quiet_of_same (less_any _ _ _)))
            go_wp2
            refine bodyPost_ret (results_none rfl _ _ _) rfl ?_
            refine ⟨rfl, ?_⟩
            rw [← HO.out, HS.out, if_pos (by rw [← hq.out, ← hp.out, ← HG.out, ← HG.out, hm]; rfl)]
            exact hN2.drewN _
          · go_wp2_with fail
            go_quiet (first | (go_at_call 45; refine Calls.quiet_of_same (less_any _ _ _)))
            go_wp2_with fail
            go_region
            all_goals go_wp2
            refine ⟨⟨c, swp dk p q, by go_num, by omega, ?_, ?_⟩, by simp [intOf]; omega⟩
            · rw [HG.out, HG.out]; exact (hN2.drewN _).swap p q
            · show _ = _
              rw [← HO.out, HS.out, if_neg (by rw [← hq.out, ← hp.out, ← HG.out, ← HG.out, hm]; decide), ← hq.out, ← hp.out]
        · have HS : Hid (siftDown ltN hi first root dk = _) := sift_right hc.out h1 h2 (by rw [← hq.out, ← HG.out, ← HG.out]; exact hl)
          go_wp2_with fail
          go_quiet (first | (go_at_call 45; refine Calls.quiet_of_same (less_any _ _ _)))
          revert nq; intro nq1
          obtain ⟨wr2, hw2⟩ : ∃ W, Hid (W = wr.drewN nq1) := ⟨_, rfl⟩
          rw [← hw2.out]
          have hN2 : Now w g n cap dk wr2 := by rw [hw2.out]; exact hN.drewN _
          have hcw2 : ∀ t, t < n → wr2.cell? ⟨g, t, none⟩ = some (.int .u64 (G t : Nat)) := fun t ht => by rw [HG.out]; exact hN2.row.cell t ht
          have hfw2 : ∀ t, t < n → wr2.frozen? ⟨g, t, none⟩ = false := fun t _ => hN2.row.free t
          clear hcw hfw hN x0 f0 x1 f1 x2 f2
          have x0 := hcw2 p (by omega)
          have f0 := hfw2 p (by omega)
          have x1 := hcw2 (q + 1) (by omega)
          have f1 := hfw2 (q + 1) (by omega)
          cases hm : ltN (G p) (G (q + 1))
          · go_wp2_with fail
            go_quiet (first | (go_at_call 45; refine Calls.quiet_of_same (less_any _ _ _)))
            go_wp2
            refine bodyPost_ret (results_none rfl _ _ _) rfl ?_
            refine ⟨rfl, ?_⟩
            rw [← HO.out, HS.out, if_pos (by rw [show first + (c + 1) = q + 1 by have := hq.out; omega, ← hp.out, ← HG.out, ← HG.out, hm]; rfl)]
            exact hN2.drewN _
          · go_wp2_with fail
            go_quiet (first | (go_at_call 45; refine Calls.quiet_of_same (less_any _ _ _)))
            go_wp2_with fail
            go_region
            all_goals go_wp2
            refine ⟨⟨(c + 1), swp dk p (q + 1), by go_num, by omega, ?_, ?_⟩, by simp [intOf]; omega⟩
            · rw [HG.out, HG.out]; exact (hN2.drewN _).swap p (q + 1)
            · show _ = _
              rw [← HO.out, HS.out, if_neg (by rw [show first + (c + 1) = q + 1 by have := hq.out; omega, ← hp.out, ← HG.out, ← HG.out, hm]; decide), show first + (c + 1) = q + 1 by have := hq.out; omega, ← hp.out]
      · have h2' : decide ((c : Int) + 1 < (hi : Int)) = false := decide_eq_false (by omega)
        have HS : Hid (siftDown ltN hi first root dk = _) := sift_left hc.out h1 (.inl h2)
        go_wp2_with fail
        go_quiet (first | (go_at_call 45; refine Calls.quiet_of_same (less_any _ _ _)))
        revert nq; intro nq1
        obtain ⟨wr2, hw2⟩ : ∃ W, Hid (W = wr.drewN nq1) := ⟨_, rfl⟩
        rw [← hw2.out]
        have hN2 : Now w g n cap dk wr2 := by rw [hw2.out]; exact hN.drewN _
        have hcw2 : ∀ t, t < n → wr2.cell? ⟨g, t, none⟩ = some (.int .u64 (G t : Nat)) := fun t ht => by rw [HG.out]; exact hN2.row.cell t ht
        have hfw2 : ∀ t, t < n → wr2.frozen? ⟨g, t, none⟩ = false := fun t _ => hN2.row.free t
        clear hcw hfw hN x0 f0 x1 f1
        have x0 := hcw2 p (by omega)
        have f0 := hfw2 p (by omega)
        have x1 := hcw2 q (by omega)
        have f1 := hfw2 q (by omega)
        cases hm : ltN (G p) (G q)
        · go_wp2_with fail
          go_quiet (first | (go_at_call 45; refine Calls.quiet_of_same (less_any _ _ _)))
          go_wp2
          refine bodyPost_ret (results_none rfl _ _ _) rfl ?_
          refine ⟨rfl, ?_⟩
          rw [← HO.out, HS.out, if_pos (by rw [← hq.out, ← hp.out, ← HG.out, ← HG.out, hm]; rfl)]
          exact hN2.drewN _
        · go_wp2_with fail
          go_quiet (first | (go_at_call 45; refine Calls.quiet_of_same (less_any _ _ _)))
          go_wp2_with fail
          go_region
          all_goals go_wp2
          refine ⟨⟨c, swp dk p q, by go_num, by omega, ?_, ?_⟩, by simp [intOf]; omega⟩
          · rw [HG.out, HG.out]; exact (hN2.drewN _).swap p q
          · show _ = _
            rw [← HO.out, HS.out, if_neg (by rw [← hq.out, ← hp.out, ← HG.out, ← HG.out, hm]; decide), ← hq.out, ← hp.out]
    · have h1d : (hi : Int) ≤ (c : Int) := by omega
      go_wp2
      go_end0
      exact ⟨rfl, by rw [← HO.out, sift_end (by have := hc.out; omega)]; exact hN⟩
end Go.Proofs.Ytaikeeidjfcijaa
