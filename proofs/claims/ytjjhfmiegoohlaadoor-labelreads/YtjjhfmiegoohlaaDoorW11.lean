/- The document's own Join and Meet. -/
import Derived.Test.YtjjhfmiegoohlaaDoorW9
import Derived.Laws.Rows
import Derived.Deep.MidRow
import Derived.Deep.CutRange
namespace Go.Proofs.YtjjhfmiegoohlaaDoor
open Go.RowKit

/-- The label of those secrets below k of which f tells true. -/
def ofTo (f : Nat → Bool) : Nat → Nat
  | 0 => 0
  | k + 1 => if f k then ofTo f k ||| onlyN k else ofTo f k

theorem ofTo_lt (f : Nat → Bool) (k : Nat) (hk : k ≤ 64) : ofTo f k < 18446744073709551616 := by
  induction k with
  | zero => simp [ofTo]
  | succ k ih =>
    simp only [ofTo]
    split
    · exact or_lt _ _ (ih (by omega)) (by omega)
    · exact ih (by omega)
theorem ofTo_tb (f : Nat → Bool) (k i : Nat) : (ofTo f k).testBit i = (decide (i < k) && f i) := by
  induction k with
  | zero => simp [ofTo]
  | succ k ih =>
    simp only [ofTo]
    by_cases e : i = k
    · subst e
      cases h : f i <;> simp [ih, onlyN, Nat.testBit_or, Nat.testBit_two_pow_self]
    · have h2 : decide (i < k + 1) = decide (i < k) := by simp only [decide_eq_decide]; omega
      split
      · rw [Nat.testBit_or, ih, h2, onlyN, Nat.testBit_two_pow_of_ne (fun h => e h.symm), Bool.or_false]
      · rw [ih, h2]

theorem wrap_pow (k : Nat) (hk : k < 64) : IntKind.u64.wrap (2 ^ k) = ((onlyN k : Nat) : Int) := by
  rw [IntKind.wrap_u64]
  have := onlyN_lt k hk
  have e : (2 : Int) ^ k = ((onlyN k : Nat) : Int) := by unfold onlyN; simp
  rw [e]
  exact Int.emod_eq_of_lt (by omega) (by omega)

set_option maxRecDepth 100000 in
set_option maxHeartbeats 1000000 in
theorem of_any (cs : Array Value) (f : Nat → Bool) (hc : Hid (∀ i, i < 64 → cs[i]? = some (.bool (f i)))) (w : World) :
    Calls Tryd.prog 23 #[.agg cs] w fun e w' => e = .returned (.int .u64 (ofTo f 64)) ∧ Below w.heap.size w w' := by
  go_enter Tryd.func23, Tryd.ntmps23
  go_wp2
  go_loop [3, 4] (fun c i => ∃ k : Nat, k ≤ 64 ∧ i = .int .i64 k ∧ c = .int .u64 (ofTo f k)) (fun _ i => 64 - (intOf i).toNat)
  case atStart => exact ⟨0, Nat.zero_le _, rfl, rfl⟩
  case round =>
    obtain ⟨k, hk, rfl, rfl⟩ := hrel
    have hl := ofTo_lt f k hk
    by_cases hlt : k < 64
    · have hcell : (w.alloc (.cells cs 36)).cell? ⟨w.heap.size, k, none⟩ = some (.bool (f k)) := by
        rw [cell_of_row _ _ _ cs 36 (0, 0) (heap_alloc_new w _)]; exact hc k hlt
      have hk0 : (0 : Int) ≤ (k : Int) := by omega
      have hk1 : (k : Int) < 64 := by omega
      cases h1 : f k
      · rw [h1] at hcell
        have H : Hid (ofTo f (k + 1) = ofTo f k) := by simp [Hid, ofTo, h1]
        go_wp2
        go_round
        case rel => exact ⟨k + 1, by omega, by go_num, by rw [H.out]⟩
        case measure => simp [intOf]; omega
      · rw [h1] at hcell
        have H : Hid (ofTo f (k + 1) = ofTo f k ||| onlyN k) := by simp [Hid, ofTo, h1]
        have e1 := wrap_pow k hlt
        have e2 := u64_or_nat (ofTo f k) (onlyN k) hl (onlyN_lt k hlt)
        go_wp2
        go_round
        case rel => exact ⟨k + 1, by omega, by go_num, by rw [H.out]⟩
        case measure => simp [intOf]; omega
    · obtain rfl : k = 64 := by omega
      go_wp2
      go_ret
      exact ⟨rfl, (Below.refl _ _).alloc (Nat.le_refl _) _⟩
theorem setCells_block (g : Nat) (t : TypeId) : ∀ (vs : List Value) (o : Nat) (w : World) (cs : Array Value), w.heap[g]? = some (.cells cs t (0, 0)) →
    ∃ cs', (w.setCells g o vs).heap[g]? = some (.cells cs' t (0, 0)) ∧ cs'.size = cs.size
  | [], _, _, cs, h => ⟨cs, h, rfl⟩
  | v :: vs, o, w, cs, h => by
    obtain ⟨cs', h1, h2⟩ := setCells_block g t vs (o + 1) (w.setCell ⟨g, o, none⟩ v) _ (heap_setCell_same w g o cs t v h)
    exact ⟨cs', h1, by rw [h2]; simp⟩
theorem setCells_below (B g : Nat) (hg : B ≤ g) (a : World) : ∀ (vs : List Value) (o : Nat) (w : World), Below B a w → Below B a (w.setCells g o vs)
  | [], _, _, h => h
  | v :: vs, o, w, h => setCells_below B g hg a vs (o + 1) (w.setCell ⟨g, o, none⟩ v) (h.setCell hg v)

theorem there_row {w : World} {g : Nat} {cs : Array Value} {t : TypeId} (h : w.heap[g]? = some (.cells cs t (0, 0))) : w.there g 0 cs.size := by
  intro j hj
  rw [Nat.zero_add]
  exact ⟨by rw [cell_of_row w g j cs t (0, 0) h]; simp [hj], frozen_of_row w g j cs t h⟩

/-- 64 times false. -/
def no64 : Array Value := Array.replicate 64 (.bool false)

theorem store36 (w : World) : ∃ (W : World) (cs : Array Value), (storeCells ⟨w.heap.size, 0, none⟩ no64.toList).run Tryd.prog (w.alloc (.cells no64 36)) = .ok () W ∧
    W.heap[w.heap.size]? = some (.cells cs 36 (0, 0)) ∧ cs.size = 64 ∧ Below w.heap.size w W := by
  have ht := there_row (heap_alloc_new w (.cells no64 36))
  have hl : no64.toList.length = no64.size := by simp
  have := run_storeCells_cells (P := Tryd.prog) w.heap.size 0 no64.toList 0 (w.alloc (.cells no64 36)) (fun j hj => by simpa using (ht j (by rw [← hl]; exact hj)).1) (fun j hj => by have := (ht j (by rw [← hl]; exact hj)).2; simp only [Nat.zero_add] at this ⊢; exact this)
    (fun v hv => by simp [no64] at hv; rw [hv]; rfl)
  obtain ⟨cs, h1, h2⟩ := setCells_block w.heap.size 36 no64.toList 0 (w.alloc (.cells no64 36)) no64 (heap_alloc_new w _)
  exact ⟨_, cs, this, h1, by rw [h2]; rfl, setCells_below _ _ (Nat.le_refl _) w _ _ _ ((Below.refl _ _).alloc (Nat.le_refl _) _)⟩

theorem zero36 (W : World) : (zeroValue 36).run Tryd.prog W = .ok (.agg no64) W := by kernel_rfl
theorem build36 (W : World) : (Instr.build 36 #[]).run Tryd.prog W = .ok (.agg no64) W := by kernel_rfl

set_option maxRecDepth 100000 in
set_option maxHeartbeats 1000000 in
theorem rjoin_any (a b : Nat) (ha : a < 18446744073709551616) (hb : b < 18446744073709551616) (w : World) :
    Calls Tryd.prog 12 #[.int .u64 a, .int .u64 b] w fun e w' => e = .returned (.int .u64 (ofTo (fun i => a.testBit i || b.testBit i) 64)) ∧ Below w.heap.size w w' := by
  obtain ⟨W, cs, hst, hrow, hsz, hbw⟩ := store36 w
  have hz := zero36
  have hb0 := build36
  have HR : Hid _ := hrow
  have HS : Hid _ := hsz
  clear hrow hsz
  go_enter Tryd.func12, Tryd.ntmps12
  go_wp2
  clear hst
  go_loopw [6] (fun i wr => ∃ (k : Nat) (cs : Array Value), k ≤ 64 ∧ i = .int .i64 k ∧ Hid (wr.heap[w.heap.size]? = some (.cells cs 36 (0, 0))) ∧ Hid (cs.size = 64) ∧ Hid (∀ i, i < k → cs[i]? = some (.bool (a.testBit i || b.testBit i))) ∧ Below w.heap.size w wr) (fun i _ => 64 - (intOf i).toNat)
  case atStart => exact ⟨0, cs, Nat.zero_le _, rfl, HR, HS, fun i hi => absurd hi (Nat.not_lt_zero i), hbw⟩
  case round =>
    clear HR HS hbw
    obtain ⟨k, cs, hk, rfl, HR, HS, hall, hbw⟩ := hrel
    by_cases hlt : k < 64
    · have hk0 : (0 : Int) ≤ (k : Int) := by omega
      have hk1 : (k : Int) < 64 := by omega
      have hex : ∃ v, wr.cell? ⟨w.heap.size, k, none⟩ = some v := by
        rw [cell_of_row wr _ _ cs 36 (0, 0) HR]
        exact ⟨_, Array.getElem?_eq_getElem (by rw [HS]; exact hlt)⟩
      obtain ⟨v, hv⟩ := hex
      have hfz := frozen_of_row wr w.heap.size k cs 36 HR
      have HN : ∀ x : Bool, (a.testBit k || b.testBit k) = x → Hid ((wr.setCell ⟨w.heap.size, k, none⟩ (.bool x)).heap[w.heap.size]? = some (.cells (cs.setIfInBounds k (.bool x)) 36 (0, 0)) ∧ (cs.setIfInBounds k (.bool x)).size = 64 ∧ (∀ i, i < k + 1 → (cs.setIfInBounds k (.bool x))[i]? = some (.bool (a.testBit i || b.testBit i))) ∧ Below w.heap.size w (wr.setCell ⟨w.heap.size, k, none⟩ (.bool x))) := by
        intro x hx
        refine ⟨heap_setCell_same wr _ k cs 36 _ HR, by rw [Array.size_setIfInBounds, HS], ?_, hbw.setCell (Nat.le_refl _) _⟩
        intro i hi
        rw [Array.getElem?_setIfInBounds]
        by_cases e : k = i
        · subst e; rw [if_pos rfl, if_pos (by rw [HS]; exact hlt), hx]
        · rw [if_neg e]; exact hall i (by omega)
      have HN' : Hid _ := HN
      clear HN HR HS hall hbw
      cases h1 : a.testBit k
      · cases h2 : b.testBit k
        · have H := HN'.out false (by rw [h1, h2]; rfl)
          clear HN'
          go_wp2_with fail
          refine (rhas_at a k false ha hlt h1 _).mono ?_
          rintro e w' ⟨rfl, rfl⟩
          go_wp2_with fail
          refine (rhas_at b k false hb hlt h2 _).mono ?_
          rintro e w' ⟨rfl, rfl⟩
          go_wp2
          go_roundw
          case rel => exact ⟨k + 1, _, by omega, by go_num, H.1, H.2.1, H.2.2.1, H.2.2.2⟩
          case measure => simp [intOf]; omega
        · have H := HN'.out true (by rw [h1, h2]; rfl)
          clear HN'
          go_wp2_with fail
          refine (rhas_at a k false ha hlt h1 _).mono ?_
          rintro e w' ⟨rfl, rfl⟩
          go_wp2_with fail
          refine (rhas_at b k true hb hlt h2 _).mono ?_
          rintro e w' ⟨rfl, rfl⟩
          go_wp2
          go_roundw
          case rel => exact ⟨k + 1, _, by omega, by go_num, H.1, H.2.1, H.2.2.1, H.2.2.2⟩
          case measure => simp [intOf]; omega
      · have H := HN'.out true (by rw [h1]; rfl)
        clear HN'
        go_wp2_with (go_at_call 16; refine (rhas_at a k true ha hlt h1 _).mono ?_; rintro e w' ⟨rfl, rfl⟩)
        go_roundw
        case rel => exact ⟨k + 1, _, by omega, by go_num, H.1, H.2.1, H.2.2.1, H.2.2.2⟩
        case measure => simp [intOf]; omega
    · obtain rfl : k = 64 := by omega
      have hi36 : (Tryd.prog.info? 36).map (·.size) = some cs.size := by rw [HS]; kernel_rfl
      go_wp2_with (first | (refine wpList_load_row rfl 36 (.tmp 5) rfl w.heap.size rfl 36 cs (0, 0) _ HR Tryd.underlying36 rfl hi36 ?_) | (go_at_call 23; refine (of_any cs (fun i => a.testBit i || b.testBit i) hall _).mono ?_; rintro e w' ⟨rfl, hb2⟩))
      go_ret
      exact ⟨rfl, hbw.trans (hb2.mono hbw.size)⟩
set_option maxRecDepth 100000 in
set_option maxHeartbeats 1000000 in
theorem rmeet_any (a b : Nat) (ha : a < 18446744073709551616) (hb : b < 18446744073709551616) (w : World) :
    Calls Tryd.prog 14 #[.int .u64 a, .int .u64 b] w fun e w' => e = .returned (.int .u64 (ofTo (fun i => a.testBit i && b.testBit i) 64)) ∧ Below w.heap.size w w' := by
  obtain ⟨W, cs, hst, hrow, hsz, hbw⟩ := store36 w
  have hz := zero36
  have hb0 := build36
  have HR : Hid _ := hrow
  have HS : Hid _ := hsz
  clear hrow hsz
  go_enter Tryd.func14, Tryd.ntmps14
  go_wp2
  clear hst
  go_loopw [6] (fun i wr => ∃ (k : Nat) (cs : Array Value), k ≤ 64 ∧ i = .int .i64 k ∧ Hid (wr.heap[w.heap.size]? = some (.cells cs 36 (0, 0))) ∧ Hid (cs.size = 64) ∧ Hid (∀ i, i < k → cs[i]? = some (.bool (a.testBit i && b.testBit i))) ∧ Below w.heap.size w wr) (fun i _ => 64 - (intOf i).toNat)
  case atStart => exact ⟨0, cs, Nat.zero_le _, rfl, HR, HS, fun i hi => absurd hi (Nat.not_lt_zero i), hbw⟩
  case round =>
    clear HR HS hbw
    obtain ⟨k, cs, hk, rfl, HR, HS, hall, hbw⟩ := hrel
    by_cases hlt : k < 64
    · have hk0 : (0 : Int) ≤ (k : Int) := by omega
      have hk1 : (k : Int) < 64 := by omega
      have hex : ∃ v, wr.cell? ⟨w.heap.size, k, none⟩ = some v := by
        rw [cell_of_row wr _ _ cs 36 (0, 0) HR]
        exact ⟨_, Array.getElem?_eq_getElem (by rw [HS]; exact hlt)⟩
      obtain ⟨v, hv⟩ := hex
      have hfz := frozen_of_row wr w.heap.size k cs 36 HR
      have HN : ∀ x : Bool, (a.testBit k && b.testBit k) = x → Hid ((wr.setCell ⟨w.heap.size, k, none⟩ (.bool x)).heap[w.heap.size]? = some (.cells (cs.setIfInBounds k (.bool x)) 36 (0, 0)) ∧ (cs.setIfInBounds k (.bool x)).size = 64 ∧ (∀ i, i < k + 1 → (cs.setIfInBounds k (.bool x))[i]? = some (.bool (a.testBit i && b.testBit i))) ∧ Below w.heap.size w (wr.setCell ⟨w.heap.size, k, none⟩ (.bool x))) := by
        intro x hx
        refine ⟨heap_setCell_same wr _ k cs 36 _ HR, by rw [Array.size_setIfInBounds, HS], ?_, hbw.setCell (Nat.le_refl _) _⟩
        intro i hi
        rw [Array.getElem?_setIfInBounds]
        by_cases e : k = i
        · subst e; rw [if_pos rfl, if_pos (by rw [HS]; exact hlt), hx]
        · rw [if_neg e]; exact hall i (by omega)
      have HN' : Hid _ := HN
      clear HN HR HS hall hbw
      cases h1 : a.testBit k
      · have H := HN'.out false (by rw [h1]; rfl)
        clear HN'
        go_wp2_with (go_at_call 16; refine (rhas_at a k false ha hlt h1 _).mono ?_; rintro e w' ⟨rfl, rfl⟩)
        go_roundw
        case rel => exact ⟨k + 1, _, by omega, by go_num, H.1, H.2.1, H.2.2.1, H.2.2.2⟩
        case measure => simp [intOf]; omega
      · cases h2 : b.testBit k
        · have H := HN'.out false (by rw [h1, h2]; rfl)
          clear HN'
          go_wp2_with fail
          refine (rhas_at a k true ha hlt h1 _).mono ?_
          rintro e w' ⟨rfl, rfl⟩
          go_wp2_with fail
          refine (rhas_at b k false hb hlt h2 _).mono ?_
          rintro e w' ⟨rfl, rfl⟩
          go_wp2
          go_roundw
          case rel => exact ⟨k + 1, _, by omega, by go_num, H.1, H.2.1, H.2.2.1, H.2.2.2⟩
          case measure => simp [intOf]; omega
        · have H := HN'.out true (by rw [h1, h2]; rfl)
          clear HN'
          go_wp2_with fail
          refine (rhas_at a k true ha hlt h1 _).mono ?_
          rintro e w' ⟨rfl, rfl⟩
          go_wp2_with fail
          refine (rhas_at b k true hb hlt h2 _).mono ?_
          rintro e w' ⟨rfl, rfl⟩
          go_wp2
          go_roundw
          case rel => exact ⟨k + 1, _, by omega, by go_num, H.1, H.2.1, H.2.2.1, H.2.2.2⟩
          case measure => simp [intOf]; omega
    · obtain rfl : k = 64 := by omega
      have hi36 : (Tryd.prog.info? 36).map (·.size) = some cs.size := by rw [HS]; kernel_rfl
      go_wp2_with (first | (refine wpList_load_row rfl 36 (.tmp 5) rfl w.heap.size rfl 36 cs (0, 0) _ HR Tryd.underlying36 rfl hi36 ?_) | (go_at_call 23; refine (of_any cs (fun i => a.testBit i && b.testBit i) hall _).mono ?_; rintro e w' ⟨rfl, hb2⟩))
      go_ret
      exact ⟨rfl, hbw.trans (hb2.mono hbw.size)⟩

theorem ofTo_or (a b : Nat) (ha : a < 18446744073709551616) (hb : b < 18446744073709551616) : ofTo (fun i => a.testBit i || b.testBit i) 64 = a ||| b := by
  apply Nat.eq_of_testBit_eq
  intro i
  rw [ofTo_tb, Nat.testBit_or]
  by_cases h : i < 64
  · simp [h]
  · rw [tb_big a i ha (by omega), tb_big b i hb (by omega)]; simp
theorem ofTo_and (a b : Nat) (ha : a < 18446744073709551616) : ofTo (fun i => a.testBit i && b.testBit i) 64 = a &&& b := by
  apply Nat.eq_of_testBit_eq
  intro i
  rw [ofTo_tb, Nat.testBit_and]
  by_cases h : i < 64
  · simp [h]
  · rw [tb_big a i ha (by omega)]; simp
theorem rjoin_is (a b : Nat) (ha : a < 18446744073709551616) (hb : b < 18446744073709551616) (w : World) :
    Calls Tryd.prog 12 #[.int .u64 a, .int .u64 b] w fun e w' => e = .returned (.int .u64 (a ||| b : Nat)) ∧ Below w.heap.size w w' := by
  have := rjoin_any a b ha hb w
  rw [ofTo_or a b ha hb] at this
  exact this
theorem rmeet_is (a b : Nat) (ha : a < 18446744073709551616) (hb : b < 18446744073709551616) (w : World) :
    Calls Tryd.prog 14 #[.int .u64 a, .int .u64 b] w fun e w' => e = .returned (.int .u64 (a &&& b : Nat)) ∧ Below w.heap.size w w' := by
  have := rmeet_any a b ha hb w
  rw [ofTo_and a b ha] at this
  exact this
end Go.Proofs.YtjjhfmiegoohlaaDoor
