/- The document's whole numbers of any size: shift. -/
import Derived.Test.YtadlppllbebkdaaGreatDoorW17
namespace Go.Proofs.YtadlppllbebkdaaGreatDoor
open Go.RowKit

theorem cells_row {w w' : World} {b o : Nat} {l : List Nat} (hc : ∀ i, i < l.length → w.cell? ⟨b, o + i, none⟩ = some (.int .u32 (l.getD i 0 : Nat))) (hb : Below w.heap.size w w') :
    ∀ j u, (u32s l)[j]? = some u → w'.cell? ((⟨b, o, none⟩ : Addr).add j) = some u := by
  intro j u hu
  have hj : j < l.length := by
    have := (List.getElem?_eq_some_iff.1 hu).1
    rwa [u32s_len] at this
  rw [Addr.add_lit, (hb.cell (World.block_lt_of_cell? w _ (hc j hj))).trans (hc j hj)]
  rw [← hu]
  simp [u32s, List.getD, hj]

theorem u32s_append (l m : List Nat) : u32s l ++ u32s m = u32s (l ++ m) := by simp [u32s]

set_option maxRecDepth 100000 in
set_option maxHeartbeats 1000000 in
theorem shift_any (v : Value) (N n : Nat) (hn : n ≤ 3000) (hN : N < BB ^ 300) (w : World) (h : Num w v N) :
    Calls Tryz.prog 42 #[v, .int .i64 n] w fun e w' => ∃ v', e = .returned v' ∧ Num w' v' (N * 2 ^ n) ∧ Below w.heap.size w w' := by
  obtain ⟨i0, hi, hz0, hz1, hz2⟩ := info_parts info70
  obtain ⟨l, ⟨ao, cap, rfl, h1, h2, h3, h4⟩, hno, hva⟩ := h
  by_cases h0 : l.length = 0
  · have e0 : l = [] := List.eq_nil_of_length_eq_zero h0
    subst e0
    have hz : N = 0 := by rw [← hva]; rfl
    have hr : Num w (.slice ao 0 cap) (N * 2 ^ n) := ⟨[], ⟨ao, cap, rfl, h1, h2, h3, h4⟩, hno, by rw [hz]; simp [val]⟩
    clear h0 h4 h1 h3 hz hva hno
    go_enter Tryz.func42, Tryz.ntmps42
    go_wp2_with fail
    go_ret
    exact ⟨_, rfl, hr, Below.refl _ _⟩
  · have hlen : l.length ≤ 300 := norm_len l hno 300 (by rw [hva]; exact hN)
    obtain ⟨b, o, rfl, hc⟩ := h4 h0
    have HC := Lib.hid hc
    have hrow := fun (W : World) (B : Below w.heap.size w W) => cells_row hc B
    obtain ⟨k0, hk0⟩ : ∃ k, l.length = k := ⟨_, rfl⟩
    rw [hk0] at h1 hlen h0 ⊢
    have hk1 : ((k0 : Int) == 0) = false := by simp; omega
    obtain ⟨q, hq⟩ : ∃ q, n / 32 = q := ⟨_, rfl⟩
    obtain ⟨r, hr⟩ : ∃ r, n % 32 = r := ⟨_, rfl⟩
    have eq1 : (n : Int).tdiv 32 = (q : Int) := by rw [← hq]; exact Int.ofNat_tdiv n 32
    have er1 : (n : Int).tmod 32 = (r : Int) := by rw [← hr]; exact Int.ofNat_tmod n 32
    have hq2 : q ≤ 100 := by omega
    have hr2 : r < 32 := by omega
    obtain ⟨P, hP⟩ : ∃ P, 2 ^ r = P := ⟨_, rfl⟩
    have hPB : P < BB := by
      rw [← hP]
      exact Nat.pow_lt_pow_right (a := 2) (by decide) (show r < 32 by omega)
    have e3 : (2 : Int) ^ r % 4294967296 = (P : Int) := by
      have : (2 : Int) ^ r = ((2 ^ r : Nat) : Int) := by simp
      rw [this, hP]
      unfold BB at hPB
      omega
    have HP := Lib.hid hP
    have HQ := Lib.hid hq
    have HR := Lib.hid hr
    have HK := Lib.hid hk0
    have HROW := Lib.hid hrow
    have HV := Lib.hid (And.intro hva (And.intro hno h3))
    clear hP hq hr hc h4 hk0 h0 hrow hva hno h3
    go_enter Tryz.func42, Tryz.ntmps42
    go_wp2_with fail
    go_loopw [5, 6] (fun x i wr => ∃ k : Nat, k ≤ q ∧ i = .int .i64 k ∧ wr.ownsRow w.heap.size 70 1 x k (u32s (List.replicate k 0)) ∧ Below w.heap.size w wr) (fun _ i _ => q - (intOf i).toNat)
    case atStart => exact ⟨0, by omega, rfl, own_empty w, (Below.refl _ w).alloc (Nat.le_refl _) _⟩
    case round =>
      obtain ⟨k, hk, rfl, hown, hb⟩ := hrel
      have hsz := hb.size
      by_cases hlt : k < q
      · have hk' : (k : Int) < (q : Int) := by omega
        go_wp2_with (at_builtin; refine wpList_append_own _ rfl _ _ 62 rfl w.heap.size 70 i0 (.int .u32 0) 1 4 Tryz.underlying62 hi hz0 hz1 hz2 rfl (by decide) _ _ _ rfl (hown.alloc _) ⟨_, 0, none⟩ 1 1 [.int .u32 0] rfl rfl (cell_one_new _ _ _) (by simp [Value.oneCell']) (by unfold maxLen; omega) (by omega) (by simp; omega) ?_; intro v1 w1 hown1 hgrow1 hx1)
        rw [show [Value.int .u32 0] = u32s [0] from rfl, u32s_append, show List.replicate k 0 ++ [0] = List.replicate (k + 1) 0 from (List.replicate_succ' ..).symm] at hown1
        have hb1 : Below w.heap.size w w1 := (hb.alloc hsz _).grown hgrow1 (by simp; omega) (fun j hj => (hown.lt j hj).1)
        go_roundw
        case rel => exact ⟨k + 1, by omega, by go_num, hown1, hb1⟩
        case measure => simp [intOf]; omega
      · have hkn : k = q := by omega
        subst hkn
        rename World => wr
        go_wp2_with (at_builtin; refine wpList_append_own _ rfl _ _ 62 rfl w.heap.size 70 i0 (.int .u32 0) 1 4 Tryz.underlying62 hi hz0 hz1 hz2 rfl (by decide) _ _ _ rfl hown ⟨b, o, none⟩ k0 cap (u32s l) rfl (by rw [u32s_len, HK.out, Nat.mul_one]) (HROW.out _ hb) (u32s_one l) (by unfold maxLen; omega) (by omega) hsz ?_; intro v1 w1 hown1 hgrow1 hx1)
        rw [u32s_append] at hown1
        have hb1 : Below w.heap.size w w1 := hb.grown hgrow1 hsz (fun j hj => (hown.lt j hj).1)
        have hdl : Dig (List.replicate k 0 ++ l) := fun y hy => by
          rcases List.mem_append.1 hy with h | h
          · rw [(List.mem_replicate.1 h).2]; decide
          · exact HV.out.2.2 y h
        have hll : (List.replicate k 0 ++ l).length = k + k0 := by simp [HK.out]
        refine (times_any v1 (List.replicate k 0 ++ l) P (by rw [hll]; omega) hPB w1 (row_own hown1 hll hdl)).mono ?_
        rintro e w2 ⟨v', rfl, r1, b2⟩
        go_wp2
        go_ret
        refine ⟨v', rfl, ?_, hb1.trans (b2.mono hb1.size)⟩
        have ev : P * val (List.replicate k 0 ++ l) = N * 2 ^ n := by
          rw [val_append, val_zeros, Nat.zero_add, List.length_replicate, HV.out.1, ← HP.out, BB_two]
          have en : n = r + 32 * k := by have h1 := HQ.out; have h2 := HR.out; omega
          rw [en, pow_add', Nat.mul_comm (2 ^ (32 * k)) N, Nat.mul_left_comm]
        rw [← ev]; exact r1
end Go.Proofs.YtadlppllbebkdaaGreatDoor
