/- The document's whole numbers of any size: bits, small. -/
import Derived.Test.YtadlppllbebkdaaGreatDoorW21
namespace Go.Proofs.YtadlppllbebkdaaGreatDoor
open Go.RowKit

def bitsN (n : Nat) : Nat := if n = 0 then 0 else n.log2 + 1

theorem bitsN_half (t : Nat) (h : 0 < t) : bitsN t = bitsN (t / 2) + 1 := by
  unfold bitsN
  rw [if_neg (by omega)]
  by_cases h1 : t = 1
  · subst h1; decide
  · have h2 : ¬ t / 2 = 0 := by omega
    rw [if_neg h2]
    have : t.log2 = (t / 2).log2 + 1 := by
      rw [Nat.log2_def, if_pos (by omega)]
    omega

theorem bitsN_top (r k t : Nat) (hr : r < BB ^ k) (ht : t ≠ 0) : bitsN (r + BB ^ k * t) = 32 * k + bitsN t := by
  have hp := BB_pow k
  have h0 : BB ^ k * t ≠ 0 := Nat.mul_ne_zero (by omega) ht
  unfold bitsN
  rw [if_neg (by omega), if_neg ht]
  have : (r + BB ^ k * t).log2 = 32 * k + t.log2 := by
    refine (Nat.log2_eq_iff (by omega)).2 ⟨?_, ?_⟩
    · rw [pow_add', ← BB_two]
      have := Nat.mul_le_mul_left (BB ^ k) (Nat.log2_self_le ht)
      omega
    · rw [Nat.add_assoc, pow_add', ← BB_two]
      have h1 : t + 1 ≤ 2 ^ (t.log2 + 1) := Nat.lt_log2_self
      have h2 := Nat.mul_le_mul_left (BB ^ k) h1
      rw [Nat.mul_add, Nat.mul_one] at h2
      omega
  omega

set_option maxRecDepth 100000 in
theorem bits_any (v : Value) (N : Nat) (hN : N < BB ^ 400) (w : World) (h : Num w v N) :
    Calls Tryz.prog 64 #[v] w fun e w' => e = .returned (.int .i64 (bitsN N)) ∧ w' = w := by
  obtain ⟨l, ⟨ao, cap, rfl, h1, h2, h3, h4⟩, hno, hva⟩ := h
  by_cases h0 : l.length = 0
  · have hz : N = 0 := by rw [← hva]; exact (norm_zero l hno).1 h0
    subst hz
    rw [h0]
    have e : bitsN 0 = 0 := rfl
    rw [e]
    clear h4 h3 hno hva h0 h1
    go_enter Tryz.func64, Tryz.ntmps64
    go_wp2
    go_ret
    exact ⟨rfl, rfl⟩
  · have hl := norm_len l hno 400 (by rw [hva]; exact hN)
    obtain ⟨b, o, rfl, c1⟩ := h4 h0
    obtain ⟨j, hj⟩ : ∃ j, l.length = j + 1 := ⟨l.length - 1, by omega⟩
    obtain ⟨t, ht⟩ : ∃ t, t = l.getD j 0 := ⟨_, rfl⟩
    have k1 : w.cell? ⟨b, o + j, none⟩ = some (.int .u32 (t : Nat)) := by rw [ht]; exact c1 j (by omega)
    have htB : t < 4294967296 := by rw [ht]; exact dig_getD l h3 j
    have ht0 : t ≠ 0 := by
      rcases hno with h | h
      · omega
      · rw [hj, show j + 1 - 1 = j by omega, ← ht] at h; exact h
    have hb : bitsN N = 32 * j + bitsN t := by
      have e := val_take_succ l j (by omega)
      rw [← hj, List.take_length, hva, ← ht] at e
      rw [e]
      refine bitsN_top _ _ _ ?_ ht0
      have := val_lt (l.take j) (dig_take l h3 j)
      have e2 : (l.take j).length = j := by simp; omega
      rw [e2] at this; exact this
    obtain ⟨R, hR⟩ : ∃ R, bitsN N = R := ⟨_, rfl⟩
    rw [hR, hj]
    have HR := Lib.hid (hR.symm.trans hb)
    have hj2 : j < 400 := by omega
    have hne : ¬ ((j : Int) + 1 = 0) := by omega
    clear hR hb c1 h4 ht hj h1 hl h0 hva hno h3
    go_enter Tryz.func64, Tryz.ntmps64
    go_wp2_with fail
    go_loopw [3, 4] (fun c x wr => ∃ k u : Nat, c = .int .i64 k ∧ x = .int .u32 u ∧ u ≤ t ∧ wr = w ∧ k ≤ 32 * j + 32 ∧ Hid (R = k + bitsN u) ∧ Hid (k + bitsN u ≤ 32 * j + 32)) (fun _ x _ => (intOf x).toNat)
    case atStart =>
      have hbt : bitsN t ≤ 32 := by
        unfold bitsN
        rw [if_neg ht0]
        have := (Nat.log2_lt ht0).2 (show t < 2 ^ 32 by omega)
        omega
      exact ⟨32 * j, t, by simp, rfl, by omega, rfl, by omega, HR, Lib.hid (by omega)⟩
    case round =>
      obtain ⟨k, u, rfl, rfl, hu, rfl, hk, HI, HJ⟩ := hrel
      by_cases hz : u = 0
      · subst hz
        have hr : R = k := HI.out
        go_wp2_with fail
        go_ret
        exact ⟨by rw [hr]; rfl, rfl⟩
      · have hu0 : (u : Int) > 0 := by omega
        have hh := bitsN_half u (by omega)
        obtain ⟨y, hy⟩ : ∃ y, u / 2 = y := ⟨_, rfl⟩
        rw [hy] at hh
        have eu : (u : Int) / 2 = (y : Int) := by omega
        have et : (u : Int).tdiv 2 = (y : Int) := by rw [← hy]; exact Int.ofNat_tdiv u 2
        have hy2 : y ≤ u := by omega
        have hy3 : y < u := by omega
        clear hy
        have hk2 : k + 1 ≤ 32 * j + 32 := by have := HJ.out; omega
        have HH := Lib.hid hh
        clear hh
        go_wp2_with fail
        go_roundw
        case rel => exact ⟨k + 1, y, by go_num, rfl, by omega, trivial, hk2, Lib.hid (by rw [HI.out, HH.out]; omega), Lib.hid (by have := HJ.out; have := HH.out; omega)⟩
        case measure => simp [intOf]; omega

theorem or_low (y x : Nat) (hx : x < 4294967296) : (y * 4294967296) ||| x = y * 4294967296 + x := by
  have h := Nat.shiftLeft_add_eq_or_of_lt (i := 32) (show x < 2 ^ 32 by omega) y
  rw [Nat.shiftLeft_eq] at h
  exact h.symm

set_option maxRecDepth 100000 in
theorem small_any (v : Value) (N : Nat) (hN : N < 18446744073709551616) (w : World) (h : Num w v N) :
    Calls Tryz.prog 65 #[v] w fun e w' => e = .returned (.int .u64 N) ∧ w' = w := by
  obtain ⟨l, ⟨ao, cap, rfl, h1, h2, h3, h4⟩, hno, hva⟩ := h
  have hl := norm_len l hno 2 (by rw [hva]; exact hN)
  obtain ⟨p, hp⟩ : ∃ a, l.length = a := ⟨_, rfl⟩
  rw [hp] at h1 hl ⊢
  have H4 : Hid (At w ao l) := Lib.hid h4
  have HP := Lib.hid hp
  have HD := Lib.hid h3
  have HV := Lib.hid hva
  clear hp h3 hva h4 hno
  go_enter Tryz.func65, Tryz.ntmps65
  go_wp2_with fail
  go_loopw [3, 4] (fun c i wr => ∃ k y : Nat, k ≤ p ∧ i = .int .i64 ((k : Int) - 1) ∧ c = .int .u64 y ∧ wr = w ∧ Hid (y = val (l.drop k))) (fun _ i _ => (intOf i + 1).toNat)
  case atStart => exact ⟨p, 0, by omega, rfl, rfl, rfl, Lib.hid (by rw [List.drop_of_length_le (by have := HP.out; omega)]; rfl)⟩
  case round =>
    obtain ⟨k, y, hk, rfl, rfl, rfl, HI⟩ := hrel
    cases k with
    | zero =>
      have hz : decide ((((0 : Nat) : Int) - 1) ≥ 0) = false := by decide
      have hy : y = N := by rw [HI.out, List.drop_zero]; exact HV.out
      go_wp2_with fail
      go_ret
      exact ⟨by rw [hy]; rfl, rfl⟩
    | succ j =>
      have ej : ((j + 1 : Nat) : Int) - 1 = (j : Int) := by omega
      rw [ej]
      rename World => W
      obtain ⟨b1, o1, rfl, c1⟩ := H4.out (by have := HP.out; omega)
      obtain ⟨x, hx⟩ : ∃ x, x = l.getD j 0 := ⟨_, rfl⟩
      have k1 : W.cell? ⟨b1, o1 + j, none⟩ = some (.int .u32 (x : Nat)) := by rw [hx]; exact c1 j (by have := HP.out; omega)
      have hxB : x < 4294967296 := by rw [hx]; exact dig_getD l HD.out j
      have hval : val (l.drop j) = y * 4294967296 + x := by
        rw [drop_cons l j (by have := HP.out; omega), ← hx, HI.out]
        simp only [val]; unfold BB; omega
      have hyB : y < 4294967296 := by
        have e := val_drop l j (by have := HP.out; omega)
        have h1 : 1 * val (l.drop j) ≤ BB ^ j * val (l.drop j) := Nat.mul_le_mul_right _ (BB_pow j)
        rw [HV.out] at e
        omega
      obtain ⟨Z, hZ⟩ : ∃ Z, Z = y * 4294967296 + x := ⟨_, rfl⟩
      have e1 : bits .or .u64 ((y : Int) * 4294967296) (x : Int) = (Z : Int) := by
        have h := u64_or_nat (y * 4294967296) x (by omega) (by omega)
        rw [or_low y x hxB, ← hZ] at h
        rw [← h]; simp
      have hjp : (j : Int) < (p : Int) := by omega
      have hj0 : (0 : Int) ≤ (j : Int) := by omega
      have HZ := Lib.hid (hZ.trans hval.symm)
      clear c1 hx hval hZ ej
      go_wp2_with fail
      go_roundw
      case rel => exact ⟨j, Z, by omega, by go_num, rfl, trivial, HZ⟩
      case measure => simp [intOf]
end Go.Proofs.YtadlppllbebkdaaGreatDoor
