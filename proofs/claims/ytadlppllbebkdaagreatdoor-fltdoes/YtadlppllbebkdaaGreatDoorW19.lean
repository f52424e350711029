/- The document's whole numbers of any size: compare. -/
import Derived.Test.YtadlppllbebkdaaGreatDoorW18
namespace Go.Proofs.YtadlppllbebkdaaGreatDoor
open Go.RowKit

def cmpN (a b : Nat) : Int := if a < b then -1 else if b < a then 1 else 0

set_option maxRecDepth 100000 in
set_option maxHeartbeats 1000000 in
theorem compare_any (va vb : Value) (A B : Nat) (hA : A < BB ^ 400) (hB : B < BB ^ 400) (w : World) (h : Num w va A) (h' : Num w vb B) :
    Calls Tryz.prog 46 #[va, vb] w fun e w' => e = .returned (.int .i64 (cmpN A B)) ∧ ∃ n, w' = w.drewN n := by
  obtain ⟨l, ⟨ao, cap, rfl, h1, h2, h3, h4⟩, hno, hva⟩ := h
  obtain ⟨m, ⟨bo, bap, rfl, g1, g2, g3, g4⟩, gno, gva⟩ := h'
  have hl := norm_len l hno 400 (by rw [hva]; exact hA)
  have hm := norm_len m gno 400 (by rw [gva]; exact hB)
  rcases Nat.lt_trichotomy l.length m.length with hc | hc | hc
  · have hv := val_lt_len l m gno h3 hc
    rw [hva, gva] at hv
    have hr : cmpN A B = -1 := by unfold cmpN; rw [if_pos hv]
    rw [hr]
    obtain ⟨a, ha⟩ : ∃ a, l.length = a := ⟨_, rfl⟩
    obtain ⟨b, hb⟩ : ∃ a, m.length = a := ⟨_, rfl⟩
    rw [ha] at hc ⊢
    rw [hb] at hc ⊢
    have n1 : ((a : Int) != (b : Int)) = true := by simp; omega
    have n2 : (a : Int) < (b : Int) := by omega
    clear ha hb hv hr hva gva h4 g4 hno gno h1 g1 hl hm
    go_enter Tryz.func46, Tryz.ntmps46
    go_wp2
    go_ret
    exact ⟨rfl, 0, rfl⟩
  · by_cases h0 : l.length = 0
    · have e0 : l = [] := List.eq_nil_of_length_eq_zero h0
      have e1 : m = [] := List.eq_nil_of_length_eq_zero (by omega)
      subst e0 e1
      have hr : cmpN A B = 0 := by rw [← hva, ← gva]; rfl
      rw [hr]
      clear h4 g4 hr hva gva hno gno h0 hc h1 g1 hl hm
      go_enter Tryz.func46, Tryz.ntmps46
      go_wp2_with fail
      refine wp_loop_rounds 1 ?_
      rw [rounds_succ]
      go_wp2_with fail
      go_ret
      exact ⟨rfl, 0, rfl⟩
    · obtain ⟨b1, o1, rfl, c1⟩ := h4 h0
      obtain ⟨b2, o2, rfl, c2⟩ := g4 (by omega)
      obtain ⟨n, hn⟩ : ∃ a, l.length = a := ⟨_, rfl⟩
      have hn2 : m.length = n := by omega
      rw [hn] at h1 hl h0 ⊢
      rw [hn2] at g1 ⊢
      have C1 := Lib.hid c1
      have C2 := Lib.hid c2
      have HN := Lib.hid (And.intro hn hn2)
      have HV := Lib.hid (And.intro hva gva)
      have HD := Lib.hid (And.intro h3 g3)
      have nn : ((n : Int) != (n : Int)) = false := by simp
      clear c1 c2 h4 g4 hn hn2 hva gva hno gno hc h3 g3 hm
      obtain ⟨R, hR⟩ : ∃ R, cmpN A B = R := ⟨_, rfl⟩
      rw [hR]
      have HR := Lib.hid hR
      clear hR
      go_enter Tryz.func46, Tryz.ntmps46
      go_wp2_with fail
      go_loopw [5] (fun x wr => ∃ k q : Nat, k ≤ n ∧ x = .int .i64 ((k : Int) - 1) ∧ wr = w.drewN q ∧ Hid (l.drop k = m.drop k)) (fun x _ => (intOf x + 1).toNat)
      case atStart => exact ⟨n, 0, by omega, rfl, rfl, Lib.hid (by rw [List.drop_of_length_le (by have := HN.out.1; omega), List.drop_of_length_le (by have := HN.out.2; omega)])⟩
      case round =>
        obtain ⟨k, q, hk, rfl, rfl, HI⟩ := hrel
        cases k with
        | zero =>
          have hz : decide ((((0 : Nat) : Int) - 1) ≥ 0) = false := by decide
          have hr : cmpN A B = 0 := by
            have := HI.out
            simp only [List.drop_zero] at this
            rw [← HV.out.1, ← HV.out.2, this]; simp [cmpN]
          rw [HR.out] at hr
          have HR0 := Lib.hid hr
          clear hr
          go_wp2_with fail
          go_ret
          exact ⟨by rw [HR0.out]; rfl, q, rfl⟩
        | succ j =>
          have ej : ((j + 1 : Nat) : Int) - 1 = (j : Int) := by omega
          rw [ej]
          obtain ⟨x, hx⟩ : ∃ x, x = l.getD j 0 := ⟨_, rfl⟩
          obtain ⟨y, hy⟩ : ∃ x, x = m.getD j 0 := ⟨_, rfl⟩
          have k1 : w.cell? ⟨b1, o1 + j, none⟩ = some (.int .u32 (x : Nat)) := by rw [hx]; exact C1.out j (by have := HN.out.1; omega)
          have k2 : w.cell? ⟨b2, o2 + j, none⟩ = some (.int .u32 (y : Nat)) := by rw [hy]; exact C2.out j (by have := HN.out.2; omega)
          have hjn : (j : Int) < (n : Int) := by omega
          have hj0 : (0 : Int) ≤ (j : Int) := by omega
          have HX := Lib.hid (And.intro hx hy)
          clear hx hy ej
          rcases Nat.lt_trichotomy x y with hlt | hlt | hlt
          · have hr : cmpN A B = -1 := by
              have := val_top l m j HD.out.1 (by have := HN.out.1; omega) (by have := HN.out.2; omega) HI.out (by rw [← HX.out.1, ← HX.out.2]; exact hlt)
              rw [HV.out.1, HV.out.2] at this
              unfold cmpN; rw [if_pos this]
            rw [HR.out] at hr
            have HR0 := Lib.hid hr
            have hlt' : (x : Int) < (y : Int) := by omega
            clear hr
            go_wp2_with fail
            go_quiet (fail)
            go_wp2_with fail
            go_ret
            exact ⟨by rw [HR0.out]; rfl, q + nq, by simp⟩
          · subst hlt
            have n1 : decide ((x : Int) < (x : Int)) = false := by simp
            have n2 : decide ((x : Int) > (x : Int)) = false := by simp
            go_wp2_with fail
            go_quiet (fail)
            go_wp2_with fail
            revert nq; intro nq1
            go_quiet (fail)
            go_wp2_with fail
            go_roundw
            case rel => exact ⟨j, q + nq1 + nq, by omega, by go_num, by simp, Lib.hid (by rw [drop_cons l j (by have := HN.out.1; omega), drop_cons m j (by have := HN.out.2; omega), HI.out, ← HX.out.1, ← HX.out.2])⟩
            case measure => simp [intOf]
          · have hr : cmpN A B = 1 := by
              have := val_top m l j HD.out.2 (by have := HN.out.2; omega) (by have := HN.out.1; omega) HI.out.symm (by rw [← HX.out.1, ← HX.out.2]; exact hlt)
              rw [HV.out.1, HV.out.2] at this
              unfold cmpN; rw [if_neg (by omega), if_pos this]
            rw [HR.out] at hr
            have HR0 := Lib.hid hr
            have n1 : decide ((x : Int) < (y : Int)) = false := by simp; omega
            have n2 : (x : Int) > (y : Int) := by omega
            clear hr
            go_wp2_with fail
            go_quiet (fail)
            go_wp2_with fail
            revert nq; intro nq1
            go_quiet (fail)
            go_wp2_with fail
            go_ret
            exact ⟨by rw [HR0.out]; rfl, q + nq1 + nq, by simp⟩
  · have hv := val_lt_len m l hno g3 hc
    rw [hva, gva] at hv
    have hr : cmpN A B = 1 := by unfold cmpN; rw [if_neg (by omega), if_pos hv]
    rw [hr]
    obtain ⟨a, ha⟩ : ∃ a, l.length = a := ⟨_, rfl⟩
    obtain ⟨b, hb⟩ : ∃ a, m.length = a := ⟨_, rfl⟩
    rw [ha] at hc ⊢
    rw [hb] at hc ⊢
    have n1 : ((a : Int) != (b : Int)) = true := by simp; omega
    have n2 : decide ((a : Int) < (b : Int)) = false := by simp; omega
    clear ha hb hv hr hva gva h4 g4 hno gno h1 g1 hl hm
    go_enter Tryz.func46, Tryz.ntmps46
    go_wp2
    go_ret
    exact ⟨rfl, 0, rfl⟩
end Go.Proofs.YtadlppllbebkdaaGreatDoor
