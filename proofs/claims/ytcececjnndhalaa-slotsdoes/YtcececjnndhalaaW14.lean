/- The law's 'made'. -/
import Derived.Test.YtcececjnndhalaaW13
import Derived.Deep.RegionWith
import Derived.Deep.Cut
import Derived.Deep.CutRange
namespace Go.Proofs.Ytcececjnndhalaa
open Go.RowKit

theorem heap_of_full {w : World} {B g n : Nat} {Z : List Value} (h : w.ownsRow B 3 1 (.slice (some ⟨g, 0, none⟩) n n) n Z) : w.heap[g]? = some (.cells Z.toArray 3 (0, 0)) := by
  obtain ⟨h1, h2⟩ := h
  rcases h2 with ⟨h2, _⟩ | ⟨g', cap', cur, h2, h3, h4, h5, h6, h7, h8⟩
  · simp at h2
  · simp only [Value.slice.injEq, Option.some.injEq, Addr.mk.injEq, and_true, true_and] at h2
    obtain ⟨rfl, rfl⟩ := h2
    rw [h4, ← h8, List.take_of_length_le (by simp [h7])]

/-- What the row holds once the table is copied and the rest is filled up to the place i. -/
def fillG (l : List Int) (i : Nat) : Nat → Int := fun j => if j < l.length then l.getD j 0 else if j < i then 77 else 0

theorem fill_next (l : List Int) (i : Nat) (h : l.length ≤ i) : (fun j => if j = i then 77 else fillG l i j) = fillG l (i + 1) := by
  funext j
  unfold fillG
  by_cases h1 : j = i
  · rw [if_pos h1, if_neg (by omega), if_pos (by omega)]
  · rw [if_neg h1]
    by_cases h2 : j < l.length
    · rw [if_pos h2, if_pos h2]
    · rw [if_neg h2, if_neg h2]
      by_cases h3 : j < i
      · rw [if_pos h3, if_pos (by omega)]
      · rw [if_neg h3, if_neg (by omega)]

/-- What the row holds once the first i places are written over. -/
def overG (l : List Int) (i : Nat) : Nat → Int := fun j => if j < i then 5 else fillG l (l.length + 3) j

theorem over_next (l : List Int) (i : Nat) : (fun j => if j = i then 5 else overG l i j) = overG l (i + 1) := by
  funext j
  unfold overG
  by_cases h1 : j = i
  · rw [if_pos h1, if_pos (by omega)]
  · rw [if_neg h1]
    by_cases h2 : j < i
    · rw [if_pos h2, if_pos (by omega)]
    · rw [if_neg h2, if_neg (by omega)]

set_option maxRecDepth 100000 in
set_option maxHeartbeats 2000000 in
theorem made_yes (ad : Option Addr) (cap : Nat) (l : List Int) (P : Int) (w : World) (hC : Cells w ad (iCells l)) (ok : NewOk l P) :
    Calls Try.prog 8 #[.slice ad l.length cap, .int .i64 P] w fun e w' => ∃ sb lb cp sb' lb' cp', e = .returned (.tuple #[.pointer (some ⟨sb, 0, none⟩), .pointer (some ⟨sb', 0, none⟩), .bool true]) ∧ Sl w' sb lb cp l ∧ Sl w' sb' lb' cp' l ∧ Below w.heap.size w w' := by
  have hpos := ok.pos
  have h64 := ok.len
  obtain ⟨tb, toff, rfl, hct⟩ := hC (iCells_ne l 0 hpos)
  obtain ⟨i0, hi, hz0, hz1, hz2⟩ := info_parts info3
  have hsz : (Try.prog.info? 3).map (·.size) = some 1 := by rw [hi, Option.map_some, hz1]
  have hll : Hid ((iCells l).length = l.length) := iCells_len l
  obtain ⟨n, hn⟩ : ∃ n, Hid (n = l.length + 3) := ⟨_, rfl⟩
  have hn3 : (l.length : Int) + 3 = (n : Int) := by rw [hn.out]; omega
  have hnb : n ≤ 67 := by rw [hn.out]; omega
  have hln : l.length ≤ n := by rw [hn.out]; omega
  go_enter Try.func8, Try.ntmps8
  go_upto_region 2 with (refine wpList_make_full _ rfl _ _ 22 rfl w.heap.size 3 i0 (.int .i64 0) 1 Try.underlying22 hi hz0 hz1 .i64 .i64 _ _ n rfl rfl (by omega) (by omega) (by rw [hz2]; omega) (by unfold maxLen; omega) (Nat.le_refl _) ?_; intro w1 ho1 hg1)
  have hZ := heap_of_full ho1
  have hb1 : Below w.heap.size w w1 := (Below.refl _ w).grown hg1 (Nat.le_refl _) (fun k hk => by cases hk)
  have hcp := fun ty => run_copy_row (P := Try.prog) w1 22 22 ty 3 w.heap.size 0 n n ⟨tb, toff, none⟩ l.length cap _ 3 (iCells l) Try.underlying22 hsz hZ (by rw [hll.out]; show _ = min _ _; omega) (cells_src hC hb1) (by rw [hll.out]; simp [size_madeCells]; omega) (iCells_one l)
  rw [hll.out] at hcp
  obtain ⟨w2, hw2⟩ : ∃ W, Hid (W = w1.setRow w.heap.size (List.take 0 (madeCells (Value.int .i64 0).cells (n * 1)).toList.toArray.toList ++ iCells l ++ List.drop (0 + l.length) (madeCells (Value.int .i64 0).cells (n * 1)).toList.toArray.toList).toArray) := ⟨_, rfl⟩
  rw [← hw2.out] at hcp
  have hb2 : Below w.heap.size w w2 := by rw [hw2.out]; exact below_setRow hb1 (Nat.le_refl _) _
  have hO2 : Own w2 w.heap.size n (fillG l l.length) w2 := by
    apply own_of_heap (by unfold maxLen; omega)
    rw [hw2.out, setRow_heap _ _ _ _ _ _ hZ]
    have e := made_row l
    rw [← hn.out] at e
    have e2 : (fun j => if j < l.length then l.getD j 0 else 0) = fillG l l.length := by
      funext j
      unfold fillG
      by_cases hj : j < l.length
      · rw [if_pos hj, if_pos hj]
      · rw [if_neg hj, if_neg hj, if_neg hj]
    rw [e2] at e
    rw [← e]
    unfold splice
    rw [hll.out, List.append_assoc]
  clear hw2 hZ ho1 hg1 hb1
  go_wp2_with fail
  go_loopw [8] (fun v8 wr => ∃ i : Nat, l.length ≤ i ∧ i ≤ n ∧ v8 = .int .i64 i ∧ Own w2 w.heap.size n (fillG l i) wr) (fun v8 _ => n - (intOf v8).toNat)
  case atStart => exact ⟨l.length, Nat.le_refl _, hln, rfl, hO2⟩
  case round =>
    obtain ⟨i, hli, hin, rfl, hO⟩ := hrel
    by_cases hlt : i < n
    · have hlt' : (i : Int) < (n : Int) := by omega
      have hx := hO.cell i hlt
      have hf := hO.free i
      have hput := hO.put i 77
      rw [fill_next l i hli] at hput
      generalize fillG l i i = x at *
      go_wp2
      go_roundw
      case rel => exact ⟨i + 1, by omega, by omega, by go_num, hput⟩
      case measure => simp [intOf]; omega
    · have ei : i = n := by omega
      have hO : Own w2 w.heap.size n (fillG l (l.length + 3)) wr := by
        have h9 := hO
        rw [ei] at h9
        rw [← hn.out]
        exact h9
      have hltd : decide ((i : Int) < (n : Int)) = false := by simp; omega
      have hge : (n : Int) ≤ (i : Int) := by omega
      have hCo : Cells wr (some ⟨w.heap.size, 0, none⟩) (iCells l) := cells_own hO hln (fun j hj => by unfold fillG; rw [if_pos hj])
      have hbr : Below w.heap.size w wr := grownBy_below hb2 hO.grown (Nat.le_refl _) hb2.size
      have hnew := new_yes (some ⟨w.heap.size, 0, none⟩) n l P wr hCo ok
      have hglt := hO.lt
      clear ei hli hin hO2 hb2 hcp
      go_wp2_with fail
      refine hnew.mono ?_
      rintro e w3 ⟨sb, lb, cp, rfl, hS, hb3, hsb, hlb⟩
      have hO3 := hO.after hb3
      have hbw3 : Below w.heap.size w w3 := hbr.trans (hb3.mono hbr.size)
      have hrn := rnew_yes (some ⟨tb, toff, none⟩) cap l P w3 (hC.kept hbw3) ok
      have hglt3 := hO3.lt
      clear hnew hO hCo
      go_wp2_with fail
      refine hrn.mono ?_
      rintro e w4 ⟨sb', lb', cp', rfl, hS', hb4, hsb', hlb'⟩
      have hO4 := hO3.after hb4
      have hS4 := hS.kept hb4
      have hbw4 : Below w.heap.size w w4 := hbw3.trans (hb4.mono hbw3.size)
      have hs3 := hb3.size
      have hc4 : ∀ i u, (iCells l)[i]? = some u → w4.cell? ⟨tb, toff + i, none⟩ = some u := fun i u hu => (hbw4.cell (World.block_lt_of_cell? w _ (hct i u hu))).trans (hct i u hu)
      have htb : tb < w.heap.size := World.block_lt_of_cell? w _ (hct 0 _ (iCells_at l 0 hpos))
      clear hrn hO3 hS hb3 hb4 hct hC hbr hbw3
      go_wp2_with fail
      go_loopw [15, 16] (fun v15 v16 wx => ∃ i : Nat, i ≤ n ∧ v15 = .bool true ∧ v16 = .int .i64 i ∧ Own w4 w.heap.size n (overG l i) wx) (fun _ v16 _ => n - (intOf v16).toNat)
      case atStart => exact ⟨0, Nat.zero_le _, rfl, rfl, by
        have e : overG l 0 = fillG l (l.length + 3) := by funext j; unfold overG; rw [if_neg (by omega)]
        rw [e]; exact hO4⟩
      case round =>
        obtain ⟨k, hkn, rfl, rfl, hOk⟩ := hrel
        by_cases hkl : k < n
        · have hkl' : (k : Int) < (n : Int) := by omega
          have hx := hOk.cell k hkl
          have hf := fun q => (hOk.drewN q).free k
          have hput := fun q => (hOk.drewN q).put k 5
          rw [over_next l k] at hput
          by_cases hk : k < l.length
          · have hv : overG l k k = l.getD k 0 := by unfold overG fillG; rw [if_neg (by omega), if_pos hk]
            have hy : wr.cell? ⟨tb, toff + k, none⟩ = some (.int .i64 (l.getD k 0)) := hOk.grown.cell (hc4 k _ (iCells_at l k hk)) (by simp; omega)
            rw [hv] at hx
            have hk' : (k : Int) < (l.length : Int) := by omega
            generalize l.getD k 0 = x at *
            clear hv
            go_wp2_with fail
            go_quiet (fail)
            have hf1 := hf nq
            go_wp2
            exact ⟨⟨k + 1, by omega, rfl, by go_num, hput _⟩, by simp [intOf]; omega⟩
          · have hv : overG l k k = 77 := by unfold overG fillG; rw [if_neg (by omega), if_neg hk, if_pos (by rw [← hn.out]; exact hkl)]
            rw [hv] at hx
            have hkd : decide ((k : Int) < (l.length : Int)) = false := by simp; omega
            have hk' : (l.length : Int) ≤ (k : Int) := by omega
            clear hv
            go_wp2_with fail
            go_quiet (fail)
            have hf1 := hf nq
            go_wp2
            exact ⟨⟨k + 1, by omega, rfl, by go_num, hput _⟩, by simp [intOf]; omega⟩
        · have hkd : decide ((k : Int) < (n : Int)) = false := by simp; omega
          have hkg : (n : Int) ≤ (k : Int) := by omega
          go_wp2
          go_ret3
          exact ⟨sb, lb, cp, sb', lb', cp', rfl, sl_grown hS4 hOk.grown (by omega) (by omega), sl_grown hS' hOk.grown (by omega) (by omega), grownBy_below hbw4 hOk.grown (Nat.le_refl _) hbw4.size⟩
end Go.Proofs.Ytcececjnndhalaa
