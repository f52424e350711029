/- round: the lanes gone through, from the cursor on. -/
import Derived.Test.YtknklbojcnhjcaaPW3
import Derived.RangeFuncNested
import Derived.RangeFuncBound
import Derived.RangeFuncCalls
import Derived.RangeFuncLeaves
import Derived.Shelf.Abstract
import Derived.Shelf.RegionOpen
import Derived.OwnWalkIn
import Derived.TacticsInMore
import Derived.LoopNIn
import Derived.LoopIn
namespace Go.Proofs.Ytknklbojcnhjcaa
open Go.RowKit Go.Shelf

attribute [local go_sem] Oper.semAt_some

/-- The numbers of lanes. -/
abbrev LNo (n : Nat) := { i : Nat // i < n }
def bAt (bs : List Nat) (i : Nat) : Nat := bs.getD i 0
def enc (bs : List Nat) {n : Nat} (x : LNo n) : Array Value := #[.int .i64 (x.1 : Int), .pointer (some ⟨bAt bs x.1, 0, none⟩)]
/-- The first k that are looked at. -/
def ups (n cur : Nat) (hn : 0 < n) (k : Nat) : List (LNo n) := (List.range k).map (fun j => ⟨rnd n cur j, rnd_lt hn⟩)
theorem ups_succ (n cur : Nat) (hn : 0 < n) (k : Nat) : ups n cur hn (k + 1) = ups n cur hn k ++ [⟨rnd n cur k, rnd_lt hn⟩] := by simp [ups, List.range_succ]
theorem ups_len (n cur : Nat) (hn : 0 < n) (k : Nat) : (ups n cur hn k).length = k := by simp [ups]
theorem rnd_next {n cur k : Nat} : (rnd n cur k + 1) % n = rnd n cur (k + 1) := by
  unfold rnd
  rw [Nat.mod_add_mod]
  rfl

theorem round_any {b : Nat} {w : World} : Calls Try.prog 39 #[.pointer (some ⟨b, 0, none⟩)] w fun e w' => e = .returned (.func (.func 62) #[] #[.pointer (some ⟨w.heap.size, 0, none⟩)]) ∧ w' = w.alloc (.cells #[.pointer (some ⟨b, 0, none⟩)] 31) := by
  go_enter Try.func39, Try.ntmps39
  go_wp2
  go_ret
  exact ⟨rfl, rfl⟩

set_option maxRecDepth 100000 in
set_option maxHeartbeats 2000000 in
theorem round1_stops {n cur n₀ Bp b g cap : Nat} {bs : List Nat} {w : World} (m : Nat) (hm : 1 ≤ m) (hn : 0 < n) (hn9 : n ≤ 9) (hcu : cur < n)
    (hc : w.cell? ⟨Bp, 0, none⟩ = some (.pointer (some ⟨b, 0, none⟩))) (hBp : Bp < n₀) (k0 : w.cell? ⟨b, 0, none⟩ = some (.slice (some ⟨g, 0, none⟩) n cap)) (k1 : w.cell? ⟨b, 1, none⟩ = some (.int .i64 (cur : Int))) (hb : b < n₀)
    (hp : ∀ i, i < n → w.cell? ⟨g, i, none⟩ = some (.pointer (some ⟨bAt bs i, 0, none⟩))) (hg : g < n₀) (hle : n₀ ≤ w.heap.size) :
    SeqStopsK Fence.wide m Try.prog 62 #[.pointer (some ⟨Bp, 0, none⟩)] (enc bs (n := n)) (Below n₀) (fun xs => xs = ups n cur hn n) (fun pre => ∃ k, k < n ∧ pre = ups n cur hn (k + 1)) n w := fun l J Jx W hW hJ hJx hY h0 => by
  have HC : Hid (∀ W' : World, Below n₀ W W' → W'.cell? ⟨Bp, 0, none⟩ = some (.pointer (some ⟨b, 0, none⟩)) ∧ W'.cell? ⟨b, 0, none⟩ = some (.slice (some ⟨g, 0, none⟩) n cap) ∧ W'.cell? ⟨b, 1, none⟩ = some (.int .i64 (cur : Int)) ∧ ∀ i, i < n → W'.cell? ⟨g, i, none⟩ = some (.pointer (some ⟨bAt bs i, 0, none⟩))) := hd (fun W' hb' => by
    have hall : ∀ p : Addr, p.block < n₀ → W'.cell? p = w.cell? p := fun p hp' => (hb'.cell hp').trans ((hW.mono hle).cell hp')
    refine ⟨(hall _ hBp).trans hc, (hall _ hb).trans k0, (hall _ hb).trans k1, fun i hi => (hall _ hg).trans (hp i hi)⟩)
  clear hc k0 k1 hp hJ hJx hW
  obtain ⟨c0, c1, c2, -⟩ := HC.out W (Below.refl _ _)
  refine callsIn_of_wp Try.func62 rfl trivial ?_ rfl
  simp only [Try.ntmps62, List.size_toArray, List.length_cons, List.length_nil, Nat.reduceAdd, Nat.reduceSub, Array.replicate_succ, Array.replicate_zero, List.push_toArray, List.append_toArray, List.nil_append, List.cons_append]
  gi_wp2
  gi_loopw [3, 13] (fun v3 v13 wr => ∃ (k i : Nat), v3 = .int .i64 (i : Int) ∧ v13 = .int .i64 (k : Int) ∧ k ≤ n ∧ Hid (rnd n cur k = i ∧ Below n₀ W wr ∧ J (ups n cur hn k) wr))
    (fun v3 v13 _ => n - (intOf v13).toNat)
  case atStart => exact ⟨0, cur, rfl, rfl, Nat.zero_le _, hd ⟨by unfold rnd; rw [Nat.add_zero, Nat.mod_eq_of_lt hcu], Below.refl _ _, h0⟩⟩
  case round =>
    obtain ⟨k, i, rfl, rfl, hkn, HH⟩ := hrel
    obtain ⟨d0, d1, d2, d3⟩ := HC.out wr HH.out.2.1
    by_cases hlt : k < n
    · have hlt' : (k : Int) < (n : Int) := by omega
      have hi : i < n := by rw [← HH.out.1]; exact rnd_lt hn
      have hi' : (i : Int) < (n : Int) := by omega
      have dp := d3 i hi
      have HX : Hid (ups n cur hn (k + 1) = ups n cur hn k ++ [⟨i, hi⟩]) := hd (by rw [ups_succ]; congr 2; simp [HH.out.1])
      obtain ⟨fn, tmps, assign, body, hy, hR⟩ := hY (ups n cur hn k) ⟨i, hi⟩ wr HH.out.2.2 (by rw [ups_len]; exact hlt)
      simp only [enc] at hy
      obtain ⟨p, hpb⟩ : ∃ p, Hid (bAt bs i = p) := ⟨_, rfl⟩
      rw [hpb.out] at hy dp
      clear d3
      gi_wp2
      refine hR.mono ?_
      rintro e W3 (⟨rfl, hJ3, hk3⟩ | ⟨rfl, hJx3⟩)
      · obtain ⟨q0, q1, q2, q3⟩ := HC.out W3 (HH.out.2.1.trans hk3)
        obtain ⟨i2, hi2⟩ : ∃ i2, Hid (rnd n cur (k + 1) = i2) := ⟨_, rfl⟩
        have hbe := behind_any (b := b) (w := W3) (a := some ⟨g, 0, none⟩) (cap := cap) (n := n) (i := i) (c := .int .i64 (i2 : Int)) q1 hi hn9 (by rw [← hi2.out, ← rnd_next, HH.out.1])
        clear q3
        gi_wp2_with (refine ⟨trivial, ?_⟩; gi_at_call 42; refine (callsIn_wide.2 hbe).mono ?_; rintro e w' ⟨rfl, rfl⟩)
        go_roundw
        case rel => exact ⟨k + 1, i2, rfl, by go_num, by omega, hd ⟨hi2.out, HH.out.2.1.trans hk3, by rw [HX.out]; exact hJ3⟩⟩
        case measure => simp [intOf]; omega
      · gi_wp2
        refine bodyPost_ret (results_none rfl _ _ _) rfl ?_
        exact ⟨⟨_, rfl⟩, .inr ⟨ups n cur hn (k + 1), ⟨k, hlt, rfl⟩, by rw [HX.out]; exact hJx3⟩⟩
    · have hltd : decide ((k : Int) < (n : Int)) = false := by simp; omega
      have hle' : (n : Int) ≤ (k : Int) := by omega
      obtain rfl : k = n := by omega
      gi_wp2
      go_end0
      exact ⟨⟨_, rfl⟩, .inl ⟨_, rfl, HH.out.2.2⟩⟩
end Go.Proofs.Ytknklbojcnhjcaa
