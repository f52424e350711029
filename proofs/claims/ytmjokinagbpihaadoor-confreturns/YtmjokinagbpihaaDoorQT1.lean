/- What is wrong with labels: table's May and the document's. -/
import Derived.Test.YtmjokinagbpihaaDoorQW3
namespace Go.Proofs.YtmjokinagbpihaaDoor
open Go.RowKit

/-- Labels as cells. -/
def labC (l : List Nat) : List Value := l.map fun n : Nat => Value.int .u64 (n : Int)
theorem labC_len (l : List Nat) : (labC l).length = l.length * 1 := by simp [labC]
theorem labC_at (l : List Nat) (k : Nat) (h : k < l.length) : (labC l)[k]? = some (.int .u64 ((l.getD k 0 : Nat) : Int)) := by simp [labC, List.getD_eq_getElem?_getD, List.getElem?_eq_getElem h]
theorem labC_one (l : List Nat) : ∀ u ∈ labC l, u.oneCell' = true := by
  intro u hu
  obtain ⟨x, _, rfl⟩ := List.mem_map.mp hu
  rfl
theorem labC_app (l m : List Nat) : labC l ++ labC m = labC (l ++ m) := by simp [labC]
theorem rd_lab {w : World} {a : Option Addr} {l : List Nat} (h : Rd w a (labC l)) (hl : 0 < l.length) : ∃ b off, a = some ⟨b, off, none⟩ ∧ ∀ i, i < l.length → w.cell? ⟨b, off + i, none⟩ = some (.int .u64 ((l.getD i 0 : Nat) : Int)) := by
  obtain ⟨b, o, rfl, _⟩ := h 0 _ (labC_at l 0 hl)
  refine ⟨b, o, rfl, fun i hi => ?_⟩
  obtain ⟨b', o', e, hc⟩ := h i _ (labC_at l i hi)
  cases e
  exact hc

theorem lb_same {l : List Nat} {k : Nat} (_h1 : 1 ≤ k) (h : k < l.length) (e : l.getD k 0 = l.getD (k - 1) 0) : lbFrom l (l.length - k) k = (8, k) := by
  rw [show l.length - k = (l.length - (k + 1)) + 1 by omega, lbFrom, if_pos e]
theorem lb_less {l : List Nat} {k : Nat} (_h1 : 1 ≤ k) (h : k < l.length) (e : l.getD k 0 < l.getD (k - 1) 0) : lbFrom l (l.length - k) k = (7, k) := by
  rw [show l.length - k = (l.length - (k + 1)) + 1 by omega, lbFrom, if_neg (by omega), if_pos e]
theorem lb_next {l : List Nat} {k : Nat} (_h1 : 1 ≤ k) (h : k < l.length) (e : l.getD (k - 1) 0 < l.getD k 0) : lbFrom l (l.length - k) k = lbFrom l (l.length - (k + 1)) (k + 1) := by
  rw [show l.length - k = (l.length - (k + 1)) + 1 by omega, lbFrom, if_neg (by omega), if_neg (by omega)]
theorem lb_start {l : List Nat} (h0 : l.length ≠ 0) (h8 : l.length ≤ 8) : lbL l = lbFrom l (l.length - 1) 1 := by
  unfold lbL
  rw [if_neg h0, if_neg (by omega)]

set_option maxRecDepth 100000 in
set_option maxHeartbeats 2000000 in
theorem tmay_any (a : Option Addr) (cap : Nat) (l : List Nat) (w : World) (hC : Rd w a (labC l)) :
    Calls Tryd.prog 26 #[.slice a l.length cap] w fun e w' => e = .returned (.tuple #[.int .i64 (lbL l).1, .int .i64 (lbL l).2]) ∧ ∃ n, w' = w.drewN n := by
  by_cases h0 : l.length = 0
  · have e1 : lbL l = (1, 0) := by unfold lbL; rw [if_pos h0]
    rw [e1]
    have h0' : ((l.length : Int) == 0) = true := by rw [beq_iff_eq]; omega
    clear h0 e1 hC
    generalize l.length = len at *
    go_enter Tryd.func26, Tryd.ntmps26
    go_wp2
    go_ret2
    exact ⟨rfl, 0, rfl⟩
  · by_cases h8 : 8 < l.length
    · have e1 : lbL l = (3, 8) := by unfold lbL; rw [if_neg h0, if_pos h8]
      rw [e1]
      have h0' : ((l.length : Int) == 0) = false := by rw [beq_eq_false_iff_ne]; omega
      have h8' : (8 : Int) < (l.length : Int) := by omega
      clear h0 e1 hC h8
      generalize l.length = len at *
      go_enter Tryd.func26, Tryd.ntmps26
      go_wp2
      go_ret2
      exact ⟨rfl, 0, rfl⟩
    · have hS : Hid (lbL l = lbFrom l (l.length - 1) 1) := lb_start h0 (by omega)
      obtain ⟨b, off, rfl, hc⟩ := rd_lab hC (by omega)
      replace hc := hd hc
      clear hC
      have h0' : ((l.length : Int) == 0) = false := by rw [beq_eq_false_iff_ne]; omega
      have h8' : (l.length : Int) ≤ 8 := by omega
      have h8d : decide ((8 : Int) < (l.length : Int)) = false := by simp; omega
      go_enter Tryd.func26, Tryd.ntmps26
      go_wp2
      go_loopw [4] (fun i wr => ∃ k : Nat, 1 ≤ k ∧ k ≤ l.length ∧ i = .int .i64 k ∧ Hid (lbL l = lbFrom l (l.length - k) k) ∧ ∃ n, wr = w.drewN n) (fun i _ => l.length - (intOf i).toNat)
      case atStart => exact ⟨1, by omega, by omega, rfl, hS, 0, rfl⟩
      case round =>
        obtain ⟨k, hk1, hk, rfl, hm, n, rfl⟩ := hrel
        by_cases hlt : k < l.length
        · have hx : w.cell? ⟨b, off + k, none⟩ = some (.int .u64 (l.getD k 0 : Nat)) := hc.out k hlt
          have hy : w.cell? ⟨b, off + (k - 1), none⟩ = some (.int .u64 (l.getD (k - 1) 0 : Nat)) := hc.out (k - 1) (by omega)
          have hlt' : (k : Int) < (l.length : Int) := by omega
          have hk1' : (1 : Int) ≤ (k : Int) := by omega
          rcases Nat.lt_trichotomy (l.getD k 0) (l.getD (k - 1) 0) with hcmp | hcmp | hcmp
          · have H : Hid (lbL l = (7, k)) := hm.out.trans (lb_less hk1 hlt hcmp)
            clear hm hS
            generalize l.getD k 0 = x at *
            generalize l.getD (k - 1) 0 = y at *
            have t1 : ((x : Int) == (y : Int)) = false := by simp; omega
            have t2 : (x : Int) < (y : Int) := by omega
            clear hcmp
            go_wp2_with fail
            go_quiet (fail)
            go_wp2_with fail
            go_quiet (fail)
            go_wp2
            go_ret2
            exact ⟨by rw [H.out]; rfl, by simp only [World.drewN_drewN]; exact ⟨_, rfl⟩⟩
          · have H : Hid (lbL l = (8, k)) := hm.out.trans (lb_same hk1 hlt hcmp)
            clear hm hS
            generalize l.getD k 0 = x at *
            generalize l.getD (k - 1) 0 = y at *
            have t1 : ((x : Int) == (y : Int)) = true := by simp; omega
            clear hcmp
            go_wp2_with fail
            go_quiet (fail)
            go_wp2
            go_ret2
            exact ⟨by rw [H.out]; rfl, by simp only [World.drewN_drewN]; exact ⟨_, rfl⟩⟩
          · have H : Hid (lbL l = lbFrom l (l.length - (k + 1)) (k + 1)) := hm.out.trans (lb_next hk1 hlt hcmp)
            clear hm hS
            generalize l.getD k 0 = x at *
            generalize l.getD (k - 1) 0 = y at *
            have t1 : ((x : Int) == (y : Int)) = false := by simp; omega
            have t2 : decide ((x : Int) < (y : Int)) = false := by simp; omega
            have t3 : (y : Int) ≤ (x : Int) := by omega
            clear hcmp
            go_wp2_with fail
            go_quiet (fail)
            go_wp2_with fail
            go_quiet (fail)
            go_wp2
            exact ⟨⟨k + 1, by omega, by omega, by go_num, H, _, rfl⟩, by simp [intOf]; omega⟩
        · have e : k = l.length := by omega
          have H : Hid (lbL l = (0, 0)) := by show _ = _; rw [hm.out, e, Nat.sub_self]; rfl
          clear hm hS
          have hlt' : decide ((k : Int) < (l.length : Int)) = false := by simp; omega
          have hge : (l.length : Int) ≤ (k : Int) := by omega
          go_wp2
          go_ret2
          exact ⟨by rw [H.out]; rfl, n, rfl⟩

set_option maxRecDepth 100000 in
set_option maxHeartbeats 2000000 in
theorem rtmay_any (a : Option Addr) (cap : Nat) (l : List Nat) (w : World) (hC : Rd w a (labC l)) :
    Calls Tryd.prog 32 #[.slice a l.length cap] w fun e w' => e = .returned (.tuple #[.int .i64 (lbL l).1, .int .i64 (lbL l).2]) ∧ ∃ n, w' = w.drewN n := by
  by_cases h0 : l.length = 0
  · have e1 : lbL l = (1, 0) := by unfold lbL; rw [if_pos h0]
    rw [e1]
    have h0' : ((l.length : Int) == 0) = true := by rw [beq_iff_eq]; omega
    clear h0 e1 hC
    generalize l.length = len at *
    go_enter Tryd.func32, Tryd.ntmps32
    go_wp2
    go_ret2
    exact ⟨rfl, 0, rfl⟩
  · by_cases h8 : 8 < l.length
    · have e1 : lbL l = (3, 8) := by unfold lbL; rw [if_neg h0, if_pos h8]
      rw [e1]
      have h0' : ((l.length : Int) == 0) = false := by rw [beq_eq_false_iff_ne]; omega
      have h8' : (8 : Int) < (l.length : Int) := by omega
      clear h0 e1 hC h8
      generalize l.length = len at *
      go_enter Tryd.func32, Tryd.ntmps32
      go_wp2
      go_ret2
      exact ⟨rfl, 0, rfl⟩
    · have hS : Hid (lbL l = lbFrom l (l.length - 1) 1) := lb_start h0 (by omega)
      obtain ⟨b, off, rfl, hc⟩ := rd_lab hC (by omega)
      replace hc := hd hc
      clear hC
      have h0' : ((l.length : Int) == 0) = false := by rw [beq_eq_false_iff_ne]; omega
      have h8' : (l.length : Int) ≤ 8 := by omega
      have h8d : decide ((8 : Int) < (l.length : Int)) = false := by simp; omega
      go_enter Tryd.func32, Tryd.ntmps32
      go_wp2
      go_loopw [4] (fun i wr => ∃ k : Nat, 1 ≤ k ∧ k ≤ l.length ∧ i = .int .i64 k ∧ Hid (lbL l = lbFrom l (l.length - k) k) ∧ ∃ n, wr = w.drewN n) (fun i _ => l.length - (intOf i).toNat)
      case atStart => exact ⟨1, by omega, by omega, rfl, hS, 0, rfl⟩
      case round =>
        obtain ⟨k, hk1, hk, rfl, hm, n, rfl⟩ := hrel
        by_cases hlt : k < l.length
        · have hx : w.cell? ⟨b, off + k, none⟩ = some (.int .u64 (l.getD k 0 : Nat)) := hc.out k hlt
          have hy : w.cell? ⟨b, off + (k - 1), none⟩ = some (.int .u64 (l.getD (k - 1) 0 : Nat)) := hc.out (k - 1) (by omega)
          have hlt' : (k : Int) < (l.length : Int) := by omega
          have hk1' : (1 : Int) ≤ (k : Int) := by omega
          rcases Nat.lt_trichotomy (l.getD k 0) (l.getD (k - 1) 0) with hcmp | hcmp | hcmp
          · have H : Hid (lbL l = (7, k)) := hm.out.trans (lb_less hk1 hlt hcmp)
            clear hm hS
            generalize l.getD k 0 = x at *
            generalize l.getD (k - 1) 0 = y at *
            have t1 : ((x : Int) == (y : Int)) = false := by simp; omega
            have t2 : (x : Int) < (y : Int) := by omega
            clear hcmp
            go_wp2_with fail
            go_quiet (fail)
            go_wp2_with fail
            go_quiet (fail)
            go_wp2
            go_ret2
            exact ⟨by rw [H.out]; rfl, by simp only [World.drewN_drewN]; exact ⟨_, rfl⟩⟩
          · have H : Hid (lbL l = (8, k)) := hm.out.trans (lb_same hk1 hlt hcmp)
            clear hm hS
            generalize l.getD k 0 = x at *
            generalize l.getD (k - 1) 0 = y at *
            have t1 : ((x : Int) == (y : Int)) = true := by simp; omega
            clear hcmp
            go_wp2_with fail
            go_quiet (fail)
            go_wp2
            go_ret2
            exact ⟨by rw [H.out]; rfl, by simp only [World.drewN_drewN]; exact ⟨_, rfl⟩⟩
          · have H : Hid (lbL l = lbFrom l (l.length - (k + 1)) (k + 1)) := hm.out.trans (lb_next hk1 hlt hcmp)
            clear hm hS
            generalize l.getD k 0 = x at *
            generalize l.getD (k - 1) 0 = y at *
            have t1 : ((x : Int) == (y : Int)) = false := by simp; omega
            have t2 : decide ((x : Int) < (y : Int)) = false := by simp; omega
            have t3 : (y : Int) ≤ (x : Int) := by omega
            clear hcmp
            go_wp2_with fail
            go_quiet (fail)
            go_wp2_with fail
            go_quiet (fail)
            go_wp2
            exact ⟨⟨k + 1, by omega, by omega, by go_num, H, _, rfl⟩, by simp [intOf]; omega⟩
        · have e : k = l.length := by omega
          have H : Hid (lbL l = (0, 0)) := by show _ = _; rw [hm.out, e, Nat.sub_self]; rfl
          clear hm hS
          have hlt' : decide ((k : Int) < (l.length : Int)) = false := by simp; omega
          have hge : (l.length : Int) ≤ (k : Int) := by omega
          go_wp2
          go_ret2
          exact ⟨by rw [H.out]; rfl, n, rfl⟩
end Go.Proofs.YtmjokinagbpihaaDoor
