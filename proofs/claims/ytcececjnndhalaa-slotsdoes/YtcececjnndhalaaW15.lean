/- The law's 'made', of a table that is none. -/
import Derived.Test.YtcececjnndhalaaW14
namespace Go.Proofs.Ytcececjnndhalaa
open Go.RowKit

theorem copy_made {w w1 : World} {ad : Option Addr} {cap n : Nat} {l : List Int} (hC : Cells w ad (iCells l)) (hn : n = l.length + 3) (hm : n ≤ maxLen)
    (ho1 : w1.ownsRow w.heap.size 3 1 (.slice (some ⟨w.heap.size, 0, none⟩) n n) n (madeCells (Value.int .i64 0).cells (n * 1)).toList) (hb1 : Below w.heap.size w w1) :
    ∃ w2, (∀ ty, (Builtin.copy_ #[22, 22] ty #[.slice (some ⟨w.heap.size, 0, none⟩) n n, .slice ad l.length cap]).run Try.prog w1 = .ok (goInt l.length) w2) ∧ Own w2 w.heap.size n (fillG l l.length) w2 ∧ Below w.heap.size w w2 := by
  obtain ⟨i0, hi, hz0, hz1, hz2⟩ := info_parts info3
  have hsz : (Try.prog.info? 3).map (·.size) = some 1 := by rw [hi, Option.map_some, hz1]
  have hZ := heap_of_full ho1
  have hll := iCells_len l
  have e := made_row l
  rw [← hn] at e
  have e2 : (fun j => if j < l.length then l.getD j 0 else 0) = fillG l l.length := by
    funext j
    unfold fillG
    by_cases hj : j < l.length
    · rw [if_pos hj, if_pos hj]
    · rw [if_neg hj, if_neg hj, if_neg hj]
  rw [e2] at e
  unfold splice at e
  by_cases h0 : l.length = 0
  · refine ⟨w1, fun ty => ?_, ?_, hb1⟩
    · rw [h0]
      exact run_copy_none (P := Try.prog) w1 22 22 ty 3 _ _ n n 0 cap Try.underlying22 hsz (Nat.min_eq_left (Nat.zero_le _))
    · apply own_of_heap hm
      have hl : l = [] := List.eq_nil_of_length_eq_zero h0
      rw [hZ, ← e, hl]
      simp [iCells]
  · obtain ⟨tb, toff, rfl, hct⟩ := hC (iCells_ne l 0 (by omega))
    have hcp := fun ty => run_copy_row (P := Try.prog) w1 22 22 ty 3 w.heap.size 0 n n ⟨tb, toff, none⟩ l.length cap _ 3 (iCells l) Try.underlying22 hsz hZ (by rw [hll]; show _ = min _ _; omega) (cells_src hC hb1) (by rw [hll]; simp [size_madeCells]; omega) (iCells_one l)
    refine ⟨_, fun ty => by rw [hcp ty, hll], ?_, below_setRow hb1 (Nat.le_refl _) _⟩
    apply own_of_heap hm
    rw [setRow_heap _ _ _ _ _ _ hZ, ← e, hll, List.append_assoc]

set_option maxRecDepth 100000 in
set_option maxHeartbeats 2000000 in
theorem made_no (ad : Option Addr) (cap : Nat) (l : List Int) (P : Int) (w : World) (hC : Cells w ad (iCells l)) (hlen : l.length ≤ 1048576) (er at0 : Nat) (hno : NewNo l P er at0) :
    Calls Try.prog 8 #[.slice ad l.length cap, .int .i64 P] w fun e w' => e = .returned (.tuple #[.pointer none, .pointer none, .bool true]) ∧ Below w.heap.size w w' := by
  obtain ⟨i0, hi, hz0, hz1, hz2⟩ := info_parts info3
  have hC : Hid (Cells w ad (iCells l)) := hC
  have hll : Hid ((iCells l).length = l.length) := iCells_len l
  obtain ⟨n, hn⟩ : ∃ n, Hid (n = l.length + 3) := ⟨_, rfl⟩
  have hn3 : (l.length : Int) + 3 = (n : Int) := by rw [hn.out]; omega
  have hnb : n ≤ 1048579 := by rw [hn.out]; omega
  have hln : l.length ≤ n := by rw [hn.out]; omega
  go_enter Try.func8, Try.ntmps8
  go_upto_region 2 with (refine wpList_make_full _ rfl _ _ 22 rfl w.heap.size 3 i0 (.int .i64 0) 1 Try.underlying22 hi hz0 hz1 .i64 .i64 _ _ n rfl rfl (by omega) (by omega) (by rw [hz2]; omega) (by unfold maxLen; omega) (Nat.le_refl _) ?_; intro w1 ho1 hg1)
  have hb1 : Below w.heap.size w w1 := (Below.refl _ w).grown hg1 (Nat.le_refl _) (fun k hk => by cases hk)
  obtain ⟨w2, hcp, hO2, hb2⟩ := copy_made (cap := cap) hC.out hn.out (by unfold maxLen; omega) ho1 hb1
  clear ho1 hg1 hb1
  go_wp2_with fail
  go_loopw [8] (fun v8 wr => ∃ i : Nat, l.length ≤ i ∧ i ≤ n ∧ v8 = .int .i64 i ∧ Own w2 w.heap.size n (fillG l i) wr) (fun v8 _ => n - (intOf v8).toNat)
  case atStart => exact ⟨l.length, Nat.le_refl _, hln, rfl, hO2⟩
  case round =>
    obtain ⟨i, hli, hin, rfl, hO⟩ := hrel
    by_cases hlt : i < n
    · have hlt' : (i : Int) < (n : Int) := by omega
      have hx := hO.cell i hlt
      have hf := hO.free i
      have hput := hO.put i 77
      rw [fill_next l i hli] at hput
      generalize fillG l i i = x at *
      go_wp2
      go_roundw
      case rel => exact ⟨i + 1, by omega, by omega, by go_num, hput⟩
      case measure => simp [intOf]; omega
    · have ei : i = n := by omega
      have hO : Own w2 w.heap.size n (fillG l (l.length + 3)) wr := by
        have h9 := hO
        rw [ei] at h9
        rw [← hn.out]
        exact h9
      have hltd : decide ((i : Int) < (n : Int)) = false := by simp; omega
      have hge : (n : Int) ≤ (i : Int) := by omega
      have hCo : Cells wr (some ⟨w.heap.size, 0, none⟩) (iCells l) := cells_own hO hln (fun j hj => by unfold fillG; rw [if_pos hj])
      have hbr : Below w.heap.size w wr := grownBy_below hb2 hO.grown (Nat.le_refl _) hb2.size
      have hnew := new_no (some ⟨w.heap.size, 0, none⟩) n l P wr hCo er at0 hno
      have hrn := rnew_no ad cap l P wr (hC.out.kept hbr) er at0 hno
      have hO4 : Own wr w.heap.size n (fillG l (l.length + 3)) wr := ⟨hO.own, World.grownBy.refl _ _⟩
      clear ei hli hin hO2 hb2 hcp hCo hO
      have t1 : ((er : Int) == (er : Int)) = true := by simp
      have t2 : ((at0 : Int) == (at0 : Int)) = true := by simp
      go_wp2_with fail
      refine hnew.mono ?_
      rintro e w3 ⟨rfl, rfl⟩
      go_wp2_with fail
      refine hrn.mono ?_
      rintro e w4 ⟨rfl, rfl⟩
      clear hnew hrn
      have hc4 : Hid (∀ k, k < l.length → ∃ tb toff, ad = some ⟨tb, toff, none⟩ ∧ tb < w.heap.size ∧ w4.cell? ⟨tb, toff + k, none⟩ = some (.int .i64 (l.getD k 0))) := fun k hk => by
        obtain ⟨tb, toff, e, hct⟩ := hC.out (iCells_ne l k hk)
        have h1 := hct k _ (iCells_at l k hk)
        exact ⟨tb, toff, e, World.block_lt_of_cell? w _ h1, (hbr.cell (World.block_lt_of_cell? w _ h1)).trans h1⟩
      go_wp2_with fail
      go_loopw [15, 16] (fun v15 v16 wx => ∃ i : Nat, i ≤ n ∧ v15 = .bool true ∧ v16 = .int .i64 i ∧ Own w4 w.heap.size n (overG l i) wx) (fun _ v16 _ => n - (intOf v16).toNat)
      case atStart => exact ⟨0, Nat.zero_le _, rfl, rfl, by
        have e : overG l 0 = fillG l (l.length + 3) := by funext j; unfold overG; rw [if_neg (by omega)]
        rw [e]; exact hO4⟩
      case round =>
        obtain ⟨k, hkn, rfl, rfl, hOk⟩ := hrel
        by_cases hkl : k < n
        · have hkl' : (k : Int) < (n : Int) := by omega
          have hx := hOk.cell k hkl
          have hf := fun q => (hOk.drewN q).free k
          have hput := fun q => (hOk.drewN q).put k 5
          rw [over_next l k] at hput
          by_cases hk : k < l.length
          · have hv : overG l k k = l.getD k 0 := by unfold overG fillG; rw [if_neg (by omega), if_pos hk]
            obtain ⟨tb, toff, rfl, htb, hy4⟩ := hc4.out k hk
            have hy : wr.cell? ⟨tb, toff + k, none⟩ = some (.int .i64 (l.getD k 0)) := hOk.grown.cell hy4 (by simp; omega)
            rw [hv] at hx
            have hk' : (k : Int) < (l.length : Int) := by omega
            generalize l.getD k 0 = x at *
            clear hv hy4
            go_wp2_with fail
            go_quiet (fail)
            have hf1 := hf nq
            go_wp2
            exact ⟨⟨k + 1, by omega, rfl, by go_num, hput _⟩, by simp [intOf]; omega⟩
          · have hv : overG l k k = 77 := by unfold overG fillG; rw [if_neg (by omega), if_neg hk, if_pos (by rw [← hn.out]; exact hkl)]
            rw [hv] at hx
            have hkd : decide ((k : Int) < (l.length : Int)) = false := by simp; omega
            have hk' : (l.length : Int) ≤ (k : Int) := by omega
            clear hv
            go_wp2_with fail
            go_quiet (fail)
            have hf1 := hf nq
            go_wp2
            exact ⟨⟨k + 1, by omega, rfl, by go_num, hput _⟩, by simp [intOf]; omega⟩
        · have hkd : decide ((k : Int) < (n : Int)) = false := by simp; omega
          have hkg : (n : Int) ≤ (k : Int) := by omega
          go_wp2
          go_ret3
          exact ⟨rfl, grownBy_below hbr hOk.grown (Nat.le_refl _) hbr.size⟩
end Go.Proofs.Ytcececjnndhalaa
