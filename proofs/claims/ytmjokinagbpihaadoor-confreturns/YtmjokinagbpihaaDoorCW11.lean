/- An instruction read from its bytes. -/
import Derived.Test.YtmjokinagbpihaaDoorCW10
import Derived.Laws.BitsAllLaws
namespace Go.Proofs.YtmjokinagbpihaaDoor
open Go.RowKit

theorem or_val {S y j T : Nat} (hS : S < 2 ^ (8 * j)) (hy : y < 256) (hj : j < 8) (hT : T = S + y * 2 ^ (8 * j)) :
    bits .or .u64 (S : Int) (IntKind.u64.wrap ((y : Int) * 2 ^ (8 * j))) = (T : Int) := by
  have hp : 2 ^ (8 * j) * 256 ≤ 18446744073709551616 := by
    have h1 : 2 ^ (8 * j) * 256 = 2 ^ (8 * j + 8) := by rw [Nat.pow_add]
    have h2 : 2 ^ (8 * j + 8) ≤ 2 ^ 64 := Nat.pow_le_pow_right (by decide) (by omega)
    have h3 : (2 : Nat) ^ 64 = 18446744073709551616 := by decide
    omega
  have hyp : y * 2 ^ (8 * j) < 18446744073709551616 := by
    have h1 : y * 2 ^ (8 * j) ≤ 255 * 2 ^ (8 * j) := Nat.mul_le_mul_right _ (by omega)
    have h2 : 0 < 2 ^ (8 * j) := Nat.two_pow_pos _
    omega
  have hor : S ||| y * 2 ^ (8 * j) = T := by
    rw [Nat.mul_comm, Nat.or_comm, ← Nat.two_pow_add_eq_or_of_lt hS, hT, Nat.mul_comm]
    omega
  have h2 : 0 < 2 ^ (8 * j) := Nat.two_pow_pos _
  generalize 8 * j = q at *
  have h1 : ((2 ^ q : Nat) : Int) = (2 : Int) ^ q := by simp
  rw [← h1]
  generalize 2 ^ q = P at *
  have e1 : (y : Int) * (P : Int) = ((y * P : Nat) : Int) := by simp
  have e2 : IntKind.u64.wrap ((y * P : Nat) : Int) = ((y * P : Nat) : Int) := by
    rw [wrap_u64]
    generalize y * P = M at *
    omega
  rw [e1, e2, u64_or_nat S (y * P) (by omega) hyp, hor]

theorem sum_lt8 {S j : Nat} (h : S < 2 ^ (8 * j)) (hj : j ≤ 8) : S < 18446744073709551616 := by
  have h2 : 2 ^ (8 * j) ≤ 2 ^ 64 := Nat.pow_le_pow_right (by decide) (by omega)
  have h3 : (2 : Nat) ^ 64 = 18446744073709551616 := by decide
  omega

set_option maxRecDepth 100000 in
theorem wrap_i64_nat (S : Nat) : IntKind.i64.wrap (S : Int) = wrap64 (S : Int) := by
  unfold wrap64
  generalize (S : Int) = z
  rw [IntKind.wrap_i64]

set_option maxRecDepth 100000 in
set_option maxHeartbeats 2000000 in
theorem read_any (b q n cap p : Nat) (bs : List Nat) (w : World) (hb : ∀ i, bs.getD i 0 < 256) (hn : 12 ≤ n) (hc : ∀ i, i < 12 → w.cell? ⟨b, q + i, none⟩ = some (.int .u8 ((bs.getD (p + i) 0 : Nat) : Int))) :
    Calls Tryd.prog 82 #[.slice (some ⟨b, q, none⟩) n cap] w fun e w' => e = .returned (insV (getI bs p)) ∧ Below w.heap.size w w' := by
  have hI : Hid (getI bs p = ⟨(bs.getD p 0 : Nat), (bs.getD (p + 1) 0 : Nat), (bs.getD (p + 2) 0 : Nat), (bs.getD (p + 3) 0 : Nat), wrap64 (sumB bs (p + 4) 8 : Nat)⟩) := hd rfl
  have k0 := hc 0 (by omega)
  have k1 := hc 1 (by omega)
  have k2 := hc 2 (by omega)
  have k3 := hc 3 (by omega)
  rw [Nat.add_zero, Nat.add_zero] at k0
  have HC : Hid (∀ i, i < 12 → w.cell? ⟨b, q + i, none⟩ = some (.int .u8 ((bs.getD (p + i) 0 : Nat) : Int))) := hc
  have HB : Hid (∀ i, bs.getD i 0 < 256) := hb
  have l0 := hb p
  have l1 := hb (p + 1)
  have l2 := hb (p + 2)
  have l3 := hb (p + 3)
  have hS : Hid (∀ j, sumB bs (p + 4) (j + 1) = sumB bs (p + 4) j + bs.getD (p + (4 + j)) 0 * 2 ^ (8 * j)) := hd fun j => by rw [sumB, Nat.add_assoc]
  have hL : Hid (∀ j, sumB bs (p + 4) j < 2 ^ (8 * j)) := hd (sumB_lt bs (p + 4) hb)
  have h0 : Hid (sumB bs (p + 4) 0 = 0) := hd rfl
  generalize sumB bs (p + 4) = S at *
  clear hc hb
  generalize getI bs p = G at *
  have HA : Below w.heap.size w (w.alloc (.cells #[.int .i64 0, .int .i64 0, .int .i64 0, .int .i64 0, .int .i64 0] 71)) := (Below.refl _ _).alloc (Nat.le_refl _) _
  go_enter Tryd.func82, Tryd.ntmps82
  go_wp2_with fail
  go_loopw [3, 4, 5] (fun v3 _ v5 wr => ∃ j : Nat, v5 = .int .i64 j ∧ j ≤ 8 ∧ v3 = .int .u64 (S j : Nat) ∧ wr = w.alloc (.cells #[.int .i64 0, .int .i64 0, .int .i64 0, .int .i64 0, .int .i64 0] 71)) (fun _ _ v5 _ => 8 - (intOf v5).toNat)
  case atStart => exact ⟨0, rfl, by omega, by rw [h0.out]; rfl, rfl⟩
  case round =>
    obtain ⟨j, rfl, hj, rfl, rfl⟩ := hrel
    by_cases hlt : j < 8
    · have hx := alloc_keeps (.cells #[.int .i64 0, .int .i64 0, .int .i64 0, .int .i64 0, .int .i64 0] 71) (HC.out (4 + j) (by omega))
      have hy := HB.out (p + (4 + j))
      have hor := or_val (hL.out j) (HB.out (p + (4 + j))) hlt (hS.out j)
      generalize bs.getD (p + (4 + j)) 0 = y at *
      obtain ⟨m, hm⟩ : ∃ m, 4 + j = m := ⟨_, rfl⟩
      rw [hm] at hx
      have em : (4 : Int) + (j : Int) = (m : Int) := by omega
      have hmn : (m : Int) < (n : Int) := by omega
      clear hm
      obtain ⟨T, hT⟩ : ∃ T, Hid (S (j + 1) = T) := ⟨_, rfl⟩
      rw [hT.out] at hor
      go_wp2_with fail
      go_roundw
      case rel => exact ⟨j + 1, by go_num, by omega, by rw [hT.out], trivial⟩
      case measure => simp [intOf]; omega
    · have ej : j = 8 := by omega
      subst ej
      have hl := sum_lt8 (hL.out 8) (by omega)
      have ew := wrap_i64_nat (S 8)
      generalize S 8 = s at *
      generalize wrap64 (s : Int) = z at *
      generalize bs.getD p 0 = y0 at *
      generalize bs.getD (p + 1) 0 = y1 at *
      generalize bs.getD (p + 2) 0 = y2 at *
      generalize bs.getD (p + 3) 0 = y3 at *
      have k0 := alloc_keeps (.cells #[.int .i64 0, .int .i64 0, .int .i64 0, .int .i64 0, .int .i64 0] 71) k0
      have k1 := alloc_keeps (.cells #[.int .i64 0, .int .i64 0, .int .i64 0, .int .i64 0, .int .i64 0] 71) k1
      have k2 := alloc_keeps (.cells #[.int .i64 0, .int .i64 0, .int .i64 0, .int .i64 0, .int .i64 0] 71) k2
      have k3 := alloc_keeps (.cells #[.int .i64 0, .int .i64 0, .int .i64 0, .int .i64 0, .int .i64 0] 71) k3
      clear HC HB hS hL h0
      go_wp2_with fail
      go_region
      go_wp2_with fail
      rw [hI.out]
      (try simp only [Exit.inBlock, Exit.then])
      refine bodyPost_ret (v := insV ⟨(y0 : Int), (y1 : Int), (y2 : Int), (y3 : Int), z⟩) ?_ rfl ⟨rfl, ?_⟩
      · have hh := heap_alloc_new w (.cells #[.int .i64 (y0 : Int), .int .i64 (y1 : Int), .int .i64 (y2 : Int), .int .i64 (y3 : Int), .int .i64 z] 71)
        have c0 : ((w.alloc (.cells #[.int .i64 (y0 : Int), .int .i64 (y1 : Int), .int .i64 (y2 : Int), .int .i64 (y3 : Int), .int .i64 z] 71)).drew).cell? ⟨w.heap.size, 0, none⟩ = some (.int .i64 (y0 : Int)) := by simp
        have c1 : ((w.alloc (.cells #[.int .i64 (y0 : Int), .int .i64 (y1 : Int), .int .i64 (y2 : Int), .int .i64 (y3 : Int), .int .i64 z] 71)).drew).cell? ⟨w.heap.size, 1, none⟩ = some (.int .i64 (y1 : Int)) := by simp
        have c2 : ((w.alloc (.cells #[.int .i64 (y0 : Int), .int .i64 (y1 : Int), .int .i64 (y2 : Int), .int .i64 (y3 : Int), .int .i64 z] 71)).drew).cell? ⟨w.heap.size, 2, none⟩ = some (.int .i64 (y2 : Int)) := by simp
        have c3 : ((w.alloc (.cells #[.int .i64 (y0 : Int), .int .i64 (y1 : Int), .int .i64 (y2 : Int), .int .i64 (y3 : Int), .int .i64 z] 71)).drew).cell? ⟨w.heap.size, 3, none⟩ = some (.int .i64 (y3 : Int)) := by simp
        have c4 : ((w.alloc (.cells #[.int .i64 (y0 : Int), .int .i64 (y1 : Int), .int .i64 (y2 : Int), .int .i64 (y3 : Int), .int .i64 z] 71)).drew).cell? ⟨w.heap.size, 4, none⟩ = some (.int .i64 z) := by simp
        generalize (w.alloc (.cells #[.int .i64 (y0 : Int), .int .i64 (y1 : Int), .int .i64 (y2 : Int), .int .i64 (y3 : Int), .int .i64 z] 71)).drew = W at *
        clear hh
        simp [results, Tryd.results82, go_sem, insV, c0, c1, c2, c3, c4]
      · exact ((Below.refl _ _).alloc (Nat.le_refl _) _).drew


set_option maxRecDepth 100000 in
set_option maxHeartbeats 2000000 in
theorem get_any (b q n cap p : Nat) (bs : List Nat) (w : World) (hb : ∀ i, bs.getD i 0 < 256) (hn : 12 ≤ n) (hc : ∀ i, i < 12 → w.cell? ⟨b, q + i, none⟩ = some (.int .u8 ((bs.getD (p + i) 0 : Nat) : Int))) :
    Calls Tryd.prog 71 #[.slice (some ⟨b, q, none⟩) n cap] w fun e w' => e = .returned (insV (getI bs p)) ∧ Below w.heap.size w w' := by
  have hI : Hid (getI bs p = ⟨(bs.getD p 0 : Nat), (bs.getD (p + 1) 0 : Nat), (bs.getD (p + 2) 0 : Nat), (bs.getD (p + 3) 0 : Nat), wrap64 (sumB bs (p + 4) 8 : Nat)⟩) := hd rfl
  have k0 := hc 0 (by omega)
  have k1 := hc 1 (by omega)
  have k2 := hc 2 (by omega)
  have k3 := hc 3 (by omega)
  rw [Nat.add_zero, Nat.add_zero] at k0
  have HC : Hid (∀ i, i < 12 → w.cell? ⟨b, q + i, none⟩ = some (.int .u8 ((bs.getD (p + i) 0 : Nat) : Int))) := hc
  have HB : Hid (∀ i, bs.getD i 0 < 256) := hb
  have l0 := hb p
  have l1 := hb (p + 1)
  have l2 := hb (p + 2)
  have l3 := hb (p + 3)
  have hS : Hid (∀ j, sumB bs (p + 4) (j + 1) = sumB bs (p + 4) j + bs.getD (p + (4 + j)) 0 * 2 ^ (8 * j)) := hd fun j => by rw [sumB, Nat.add_assoc]
  have hL : Hid (∀ j, sumB bs (p + 4) j < 2 ^ (8 * j)) := hd (sumB_lt bs (p + 4) hb)
  have h0 : Hid (sumB bs (p + 4) 0 = 0) := hd rfl
  generalize sumB bs (p + 4) = S at *
  clear hc hb
  generalize getI bs p = G at *
  have HA : Below w.heap.size w (w.alloc (.cells #[.int .i64 0, .int .i64 0, .int .i64 0, .int .i64 0, .int .i64 0] 71)) := (Below.refl _ _).alloc (Nat.le_refl _) _
  go_enter Tryd.func71, Tryd.ntmps71
  go_wp2_with fail
  go_loopw [3, 4] (fun v3 v5 wr => ∃ j : Nat, v5 = .int .i64 j ∧ j ≤ 8 ∧ v3 = .int .u64 (S j : Nat) ∧ wr = w.alloc (.cells #[.int .i64 0, .int .i64 0, .int .i64 0, .int .i64 0, .int .i64 0] 71)) (fun _ v5 _ => 8 - (intOf v5).toNat)
  case atStart => exact ⟨0, rfl, by omega, by rw [h0.out]; rfl, rfl⟩
  case round =>
    obtain ⟨j, rfl, hj, rfl, rfl⟩ := hrel
    by_cases hlt : j < 8
    · have hx := alloc_keeps (.cells #[.int .i64 0, .int .i64 0, .int .i64 0, .int .i64 0, .int .i64 0] 71) (HC.out (4 + j) (by omega))
      have hy := HB.out (p + (4 + j))
      have hor := or_val (hL.out j) (HB.out (p + (4 + j))) hlt (hS.out j)
      generalize bs.getD (p + (4 + j)) 0 = y at *
      obtain ⟨m, hm⟩ : ∃ m, 4 + j = m := ⟨_, rfl⟩
      rw [hm] at hx
      have em : (4 : Int) + (j : Int) = (m : Int) := by omega
      have hmn : (m : Int) < (n : Int) := by omega
      clear hm
      obtain ⟨T, hT⟩ : ∃ T, Hid (S (j + 1) = T) := ⟨_, rfl⟩
      rw [hT.out] at hor
      go_wp2_with fail
      go_roundw
      case rel => exact ⟨j + 1, by go_num, by omega, by rw [hT.out], trivial⟩
      case measure => simp [intOf]; omega
    · have ej : j = 8 := by omega
      subst ej
      have hl := sum_lt8 (hL.out 8) (by omega)
      have ew := wrap_i64_nat (S 8)
      generalize S 8 = s at *
      generalize wrap64 (s : Int) = z at *
      generalize bs.getD p 0 = y0 at *
      generalize bs.getD (p + 1) 0 = y1 at *
      generalize bs.getD (p + 2) 0 = y2 at *
      generalize bs.getD (p + 3) 0 = y3 at *
      have k0 := alloc_keeps (.cells #[.int .i64 0, .int .i64 0, .int .i64 0, .int .i64 0, .int .i64 0] 71) k0
      have k1 := alloc_keeps (.cells #[.int .i64 0, .int .i64 0, .int .i64 0, .int .i64 0, .int .i64 0] 71) k1
      have k2 := alloc_keeps (.cells #[.int .i64 0, .int .i64 0, .int .i64 0, .int .i64 0, .int .i64 0] 71) k2
      have k3 := alloc_keeps (.cells #[.int .i64 0, .int .i64 0, .int .i64 0, .int .i64 0, .int .i64 0] 71) k3
      clear HC HB hS hL h0
      go_wp2_with fail
      go_region
      go_wp2_with fail
      rw [hI.out]
      (try simp only [Exit.inBlock, Exit.then])
      refine bodyPost_ret (v := insV ⟨(y0 : Int), (y1 : Int), (y2 : Int), (y3 : Int), z⟩) ?_ rfl ⟨rfl, ?_⟩
      · have hh := heap_alloc_new w (.cells #[.int .i64 (y0 : Int), .int .i64 (y1 : Int), .int .i64 (y2 : Int), .int .i64 (y3 : Int), .int .i64 z] 71)
        have c0 : ((w.alloc (.cells #[.int .i64 (y0 : Int), .int .i64 (y1 : Int), .int .i64 (y2 : Int), .int .i64 (y3 : Int), .int .i64 z] 71)).drew).cell? ⟨w.heap.size, 0, none⟩ = some (.int .i64 (y0 : Int)) := by simp
        have c1 : ((w.alloc (.cells #[.int .i64 (y0 : Int), .int .i64 (y1 : Int), .int .i64 (y2 : Int), .int .i64 (y3 : Int), .int .i64 z] 71)).drew).cell? ⟨w.heap.size, 1, none⟩ = some (.int .i64 (y1 : Int)) := by simp
        have c2 : ((w.alloc (.cells #[.int .i64 (y0 : Int), .int .i64 (y1 : Int), .int .i64 (y2 : Int), .int .i64 (y3 : Int), .int .i64 z] 71)).drew).cell? ⟨w.heap.size, 2, none⟩ = some (.int .i64 (y2 : Int)) := by simp
        have c3 : ((w.alloc (.cells #[.int .i64 (y0 : Int), .int .i64 (y1 : Int), .int .i64 (y2 : Int), .int .i64 (y3 : Int), .int .i64 z] 71)).drew).cell? ⟨w.heap.size, 3, none⟩ = some (.int .i64 (y3 : Int)) := by simp
        have c4 : ((w.alloc (.cells #[.int .i64 (y0 : Int), .int .i64 (y1 : Int), .int .i64 (y2 : Int), .int .i64 (y3 : Int), .int .i64 z] 71)).drew).cell? ⟨w.heap.size, 4, none⟩ = some (.int .i64 z) := by simp
        generalize (w.alloc (.cells #[.int .i64 (y0 : Int), .int .i64 (y1 : Int), .int .i64 (y2 : Int), .int .i64 (y3 : Int), .int .i64 z] 71)).drew = W at *
        clear hh
        simp [results, Tryd.results71, go_sem, insV, c0, c1, c2, c3, c4]
      · exact ((Below.refl _ _).alloc (Nat.le_refl _) _).drew

end Go.Proofs.YtmjokinagbpihaaDoor
