/- Digits laid into a row, and how many are left without zeros behind. -/
import Derived.Test.YtadlppllbebkdaaGreatDoorW6
import Derived.Test.YtadlppllbebkdaaGreatDoorShelf
import Derived.Lib.OwnBridge
namespace Go.Proofs.YtadlppllbebkdaaGreatDoor
open Go.RowKit Go.Lib Go.Sort

/-- The digit k, as a letter. -/
def dgt (d k : Nat) : Nat := 48 + d / 10 ^ k % 10
/-- Of n digits those that are left without zeros behind. -/
def nzd : Nat → Nat → Nat
  | _, 0 => 0
  | d, n + 1 => if d % 10 = 0 then nzd (d / 10) n else n + 1

theorem nzd_step (d nd k : Nat) (hk : k + 1 ≤ nd) (h : d / 10 ^ (nd - (k + 1)) % 10 = 0) : nzd (d / 10 ^ (nd - (k + 1))) (k + 1) = nzd (d / 10 ^ (nd - k)) k := by
  rw [nzd, if_pos h, Nat.div_div_eq_div_mul, ← Nat.pow_succ]
  have : (nd - (k + 1)).succ = nd - k := by omega
  rw [this]
theorem nzd_stop (d nd k : Nat) (h : ¬ d / 10 ^ (nd - (k + 1)) % 10 = 0) : nzd (d / 10 ^ (nd - (k + 1))) (k + 1) = k + 1 := by
  rw [nzd, if_neg h]

abbrev enc8 : UInt8 → Value := fun b => Value.int .u8 (b.toNat : Int)

theorem dg_toNat (d k : Nat) : (dg d k).toNat = dgt d k := by
  unfold dg dgt
  have : d / 10 ^ k % 10 < 10 := Nat.mod_lt _ (by decide)
  simp [UInt8.toNat_ofNat]
  omega

/-- What formatBase10 leaves. -/
theorem digits_laid (b d nd n v : Nat) (w : World) (dk : Array UInt8) (h0 : ∀ t, t < nd → w.cell? ⟨b, t, none⟩ = some (.int .u8 0) ∧ w.frozen? ⟨b, t, none⟩ = false) (hi : FmtInv nd d 0 v dk) :
    (∀ t, t < nd → ((putRow enc8 w b 0 dk).drewN n).cell? ⟨b, t, none⟩ = some (.int .u8 (dgt d (nd - 1 - t) : Nat))) ∧ Below b w ((putRow enc8 w b 0 dk).drewN n) := by
  have hH : Holds enc8 w b 0 (Array.replicate nd (0 : UInt8)) := fun j hj => by
    have hj' : j < nd := by simpa using hj
    obtain ⟨a1, a2⟩ := h0 j hj'
    rw [Nat.zero_add]
    refine ⟨?_, a2⟩
    rw [a1, getElem!_pos _ j hj]
    simp
  have hs : dk.size = (Array.replicate nd (0 : UInt8)).size := by rw [hi.size]; simp
  have hp := holds_putRow enc8 w b 0 _ dk hH hs
  constructor
  · intro t ht
    have h1 := (hp t (by rw [hi.size]; exact ht)).1
    rw [Nat.zero_add] at h1
    rw [World.cell?_drewN, h1, hi.done t (Nat.zero_le _) ht]
    show some (Value.int .u8 ((dg d (nd - 1 - t)).toNat : Int)) = _
    rw [dg_toNat]
  · have := below_putRow (enc := enc8) (q := 0) (g := b) (d := dk) (Below.refl b w) (Nat.le_refl _)
    exact below_drewN this n

set_option maxRecDepth 100000 in
theorem setDigits_any (b d nd : Nat) (p : Int) (w : World) (h1 : 1 ≤ nd) (h2 : nd ≤ 20) (hd : d < 10 ^ nd) (hd64 : d < 18446744073709551616) (hp1 : -400 ≤ p) (hp2 : p ≤ 400)
    (h0 : ∀ t, t < 32 → w.cell? ⟨b, t, none⟩ = some (.int .u8 0) ∧ w.frozen? ⟨b, t, none⟩ = false) :
    Calls Tryz.prog 113 #[.slice (some ⟨b, 0, none⟩) 32 32, .int .u64 d, .int .i64 p, .int .i64 nd] w fun e w' =>
      e = .returned (.tuple #[.int .i64 (nd + p), .int .i64 (nzd d nd)]) ∧ (∀ t, t < nd → w'.cell? ⟨b, t, none⟩ = some (.int .u8 (dgt d (nd - 1 - t) : Nat))) ∧ Below b w w' := by
  have hF := Tryz.internal_strconv_formatBase10 b 0 32 d (Array.replicate nd (0 : UInt8)) w (fun j hj => by
    have hj' : j < nd := by simpa using hj
    obtain ⟨a1, a2⟩ := h0 j (by omega)
    rw [Nat.zero_add]
    refine ⟨?_, a2⟩
    rw [a1, getElem!_pos _ j hj]
    simp) (by simpa using hd) hd64 (by simp; omega)
  have hsz : (Array.replicate nd (0 : UInt8)).size = nd := by simp
  rw [hsz] at hF
  have h0' := fun t ht => h0 t (show t < 32 by have : t < nd := ht; omega)
  clear h0 hsz
  have hle : (nd : Int) ≤ 32 := by omega
  obtain ⟨R, hR⟩ : ∃ R, Hid (nzd d nd = R) := ⟨_, rfl⟩
  rw [hR.out]
  go_enter Tryz.func113, Tryz.ntmps113
  go_wp2_with fail
  refine hF.mono ?_
  rintro e w1 ⟨rfl, n, v, dk, hw1, hi⟩
  obtain ⟨hc, hb⟩ := digits_laid b d nd n v w dk h0' hi
  rw [← hw1] at hc hb
  clear hw1 hi hF h0'
  have hc' := Lib.hid hc
  have hb' := Lib.hid hb
  clear hc hb
  go_wp2_with fail
  go_loopw [3] (fun x wr => ∃ k : Nat, k ≤ nd ∧ x = .int .i64 k ∧ wr = w1 ∧ Hid (R = nzd (d / 10 ^ (nd - k)) k)) (fun x _ => (RowKit.intOf x).toNat)
  case atStart => exact ⟨nd, by omega, rfl, rfl, Lib.hid (by rw [← hR.out]; simp)⟩
  case round =>
    obtain ⟨k, hk, rfl, rfl, HI⟩ := hrel
    rename World => W1
    cases k with
    | zero =>
      have hz : R = 0 := by rw [HI.out]; rfl
      go_wp2
      go_ret2
      exact ⟨by rw [hz]; rfl, hc'.out, hb'.out⟩
    | succ j =>
      have hcj := hc'.out j (by omega)
      have e1 : nd - 1 - j = nd - (j + 1) := by omega
      rw [e1] at hcj
      have hjn : (j : Int) < 32 := by omega
      by_cases hz : d / 10 ^ (nd - (j + 1)) % 10 = 0
      · have hst := nzd_step d nd j hk hz
        have hcell : W1.cell? ⟨b, j, none⟩ = some (.int .u8 48) := by rw [hcj]; unfold dgt; rw [hz]; rfl
        clear hcj hz
        go_wp2
        go_roundw
        case rel => exact ⟨j, by omega, by go_num, trivial, Lib.hid (by rw [HI.out, hst])⟩
        case measure => simp [RowKit.intOf]
      · have hst := nzd_stop d nd j hz
        have hr : R = j + 1 := by rw [HI.out, hst]
        obtain ⟨c, hcc⟩ : ∃ c : Nat, c = dgt d (nd - (j + 1)) := ⟨_, rfl⟩
        have hne : ((c : Int) == 48) = false := by
          have : c ≠ 48 := by rw [hcc]; unfold dgt; omega
          simp; omega
        have hcell : W1.cell? ⟨b, j, none⟩ = some (.int .u8 (c : Int)) := by rw [hcj, hcc]
        clear hcj hz hcc hst
        go_wp2
        go_ret2
        exact ⟨by rw [hr]; rfl, hc'.out, hb'.out⟩
end Go.Proofs.YtadlppllbebkdaaGreatDoor
