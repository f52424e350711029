/- The document's whole numbers of any size: sum, less. -/
import Derived.Test.YtadlppllbebkdaaGreatDoorW19
namespace Go.Proofs.YtadlppllbebkdaaGreatDoor
open Go.RowKit

theorem val_take_step (l : List Nat) (k : Nat) : val (l.take (k + 1)) = val (l.take k) + BB ^ k * l.getD k 0 := by
  by_cases h : k < l.length
  · exact val_take_succ l k h
  · have e1 : l.take (k + 1) = l := List.take_of_length_le (by omega)
    have e2 : l.take k = l := List.take_of_length_le (by omega)
    have e3 : l.getD k 0 = 0 := by simp [List.getD, Nat.le_of_not_lt h]
    rw [e1, e2, e3]; simp

/-- What is known of a row whose address may be none. -/
def At (w : World) (ao : Option Addr) (l : List Nat) : Prop := l.length ≠ 0 → ∃ b o, ao = some ⟨b, o, none⟩ ∧ ∀ i, i < l.length → w.cell? ⟨b, o + i, none⟩ = some (.int .u32 (l.getD i 0 : Nat))

set_option maxRecDepth 100000 in
set_option maxHeartbeats 2000000 in
theorem sum_any (va vb : Value) (A B : Nat) (hA : A < BB ^ 400) (hB : B < BB ^ 400) (w : World) (h : Num w va A) (h' : Num w vb B) :
    Calls Tryz.prog 45 #[va, vb] w fun e w' => ∃ v', e = .returned v' ∧ Num w' v' (A + B) ∧ Below w.heap.size w w' := by
  obtain ⟨i0, hi, hz0, hz1, hz2⟩ := info_parts info70
  obtain ⟨l, ⟨ao, cap, rfl, h1, h2, h3, h4⟩, hno, hva⟩ := h
  obtain ⟨m, ⟨bo, bap, rfl, g1, g2, g3, g4⟩, gno, gva⟩ := h'
  have hl := norm_len l hno 400 (by rw [hva]; exact hA)
  have hm := norm_len m gno 400 (by rw [gva]; exact hB)
  obtain ⟨p, hp⟩ : ∃ a, l.length = a := ⟨_, rfl⟩
  obtain ⟨q, hq⟩ : ∃ a, m.length = a := ⟨_, rfl⟩
  rw [hp] at h1 hl ⊢
  rw [hq] at g1 hm ⊢
  have H4 : Hid (At w ao l) := Lib.hid h4
  have G4 : Hid (At w bo m) := Lib.hid g4
  have HP := Lib.hid (And.intro hp hq)
  have HD := Lib.hid (And.intro h3 g3)
  have HV := Lib.hid (And.intro hva gva)
  clear hp hq h3 g3 hva gva h4 g4 hno gno
  have hB' : BB = 4294967296 := rfl
  go_enter Tryz.func45, Tryz.ntmps45
  go_wp2_with fail
  go_loopw [5, 6, 7] (fun x c i wr => ∃ (k C : Nat) (L : List Nat), (k ≤ p ∨ k ≤ q) ∧ i = .int .i64 k ∧ c = .int .u64 C ∧ C ≤ 1 ∧ wr.ownsRow w.heap.size 70 1 x k (u32s L) ∧ Hid (L.length = k ∧ Dig L ∧ val L + BB ^ k * C = val (l.take k) + val (m.take k)) ∧ Below w.heap.size w wr) (fun _ _ i _ => p + q - (intOf i).toNat)
  case atStart => exact ⟨0, 0, [], .inl (by omega), rfl, rfl, by decide, own_empty w, Lib.hid ⟨rfl, fun y hy => by simp at hy, by simp [val]⟩, (Below.refl _ w).alloc (Nat.le_refl _) _⟩
  case round =>
    obtain ⟨k, C, L, hk, rfl, rfl, hC, hown, HI, hb⟩ := hrel
    have hsz := hb.size
    rename World => wr
    obtain ⟨x, hx⟩ : ∃ x, x = l.getD k 0 := ⟨_, rfl⟩
    obtain ⟨y, hy⟩ : ∃ x, x = m.getD k 0 := ⟨_, rfl⟩
    have hxB : x < 4294967296 := by rw [hx]; exact dig_getD l HD.out.1 k
    have hyB : y < 4294967296 := by rw [hy]; exact dig_getD m HD.out.2 k
    have hst := sum_step (val L) (val (l.take k) + val (m.take k)) C (x + y) k HI.out.2.2
    have hst2 : val (l.take k) + val (m.take k) + BB ^ k * (x + y) = val (l.take (k + 1)) + val (m.take (k + 1)) := by
      rw [val_take_step, val_take_step, ← hx, ← hy, Nat.mul_add]; omega
    rw [hst2] at hst
    have HST := Lib.hid hst
    have HX := Lib.hid (And.intro hx hy)
    obtain ⟨D, hD⟩ : ∃ D, D = (C + (x + y)) % BB := ⟨_, rfl⟩
    obtain ⟨C', hC'⟩ : ∃ D, D = (C + (x + y)) / BB := ⟨_, rfl⟩
    have hd1 : D < BB := by rw [hD]; exact Nat.mod_lt _ (by decide)
    have hd2 : C' ≤ 1 := by rw [hC']; unfold BB; omega
    have HDC := Lib.hid (And.intro hD hC')
    by_cases ha : k < p
    · obtain ⟨b1, o1, rfl, c1⟩ := H4.out (by have := HP.out.1; omega)
      have k1 : wr.cell? ⟨b1, o1 + k, none⟩ = some (.int .u32 (x : Nat)) := by
        have h := c1 k (by have := HP.out.1; omega)
        rw [hx]
        exact (hb.cell (World.block_lt_of_cell? w _ h)).trans h
      have ha' : (k : Int) < (p : Int) := by omega
      clear c1
      by_cases hbq : k < q
      · obtain ⟨b2, o2, rfl, c2⟩ := G4.out (by have := HP.out.2; omega)
        have k2 : wr.cell? ⟨b2, o2 + k, none⟩ = some (.int .u32 (y : Nat)) := by
          have h := c2 k (by have := HP.out.2; omega)
          rw [hy]
          exact (hb.cell (World.block_lt_of_cell? w _ h)).trans h
        have hb' : (k : Int) < (q : Int) := by omega
        have e1 : IntKind.u32.wrap ((C : Int) + (x : Int) + (y : Int)) = (D : Int) := by
          rw [hD, IntKind.wrap_u32]; unfold BB; omega
        have e2 : ((C : Int) + (x : Int) + (y : Int)) / 4294967296 = (C' : Int) := by rw [hC']; unfold BB; omega
        clear c2 hst hst2 hx hy hD hC'
        go_wp2_with (at_builtin; refine wpList_append_own _ rfl _ _ 62 rfl w.heap.size 70 i0 (.int .u32 0) 1 4 Tryz.underlying62 hi hz0 hz1 hz2 rfl (by decide) _ _ _ rfl (hown.alloc _) ⟨_, 0, none⟩ 1 1 [.int .u32 (D : Int)] rfl rfl (cell_one_new _ _ _) (by simp [Value.oneCell']) (by unfold maxLen; omega) (by omega) (by simp; omega) ?_; intro v1 w1 hown1 hgrow1 hx1)
        rw [u32s_snoc] at hown1
        have hb1 : Below w.heap.size w w1 := (hb.alloc hsz _).grown hgrow1 (by simp; omega) (fun j hj => (hown.lt j hj).1)
        go_roundw
        case rel =>
          refine ⟨k + 1, C', L ++ [D], by omega, by go_num, rfl, hd2, hown1, Lib.hid ⟨by simp [HI.out.1], dig_snoc L D HI.out.2.1 hd1, ?_⟩, hb1⟩
          rw [val_snoc, HI.out.1, HDC.out.1, HDC.out.2]
          exact HST.out
        case measure => simp [intOf]; omega
      · have hb' : decide ((k : Int) < (q : Int)) = false := by simp; omega
        have hy0 : y = 0 := by rw [hy]; simp [List.getD, show m.length ≤ k by have := HP.out.2; omega]
        have e1 : IntKind.u32.wrap ((C : Int) + (x : Int)) = (D : Int) := by
          rw [hD, hy0, IntKind.wrap_u32]; unfold BB; omega
        have e2 : ((C : Int) + (x : Int)) / 4294967296 = (C' : Int) := by rw [hC', hy0]; unfold BB; omega
        clear hst hst2 hx hy hD hC' hy0
        go_wp2_with (at_builtin; refine wpList_append_own _ rfl _ _ 62 rfl w.heap.size 70 i0 (.int .u32 0) 1 4 Tryz.underlying62 hi hz0 hz1 hz2 rfl (by decide) _ _ _ rfl (hown.alloc _) ⟨_, 0, none⟩ 1 1 [.int .u32 (D : Int)] rfl rfl (cell_one_new _ _ _) (by simp [Value.oneCell']) (by unfold maxLen; omega) (by omega) (by simp; omega) ?_; intro v1 w1 hown1 hgrow1 hx1)
        rw [u32s_snoc] at hown1
        have hb1 : Below w.heap.size w w1 := (hb.alloc hsz _).grown hgrow1 (by simp; omega) (fun j hj => (hown.lt j hj).1)
        go_roundw
        case rel =>
          refine ⟨k + 1, C', L ++ [D], by omega, by go_num, rfl, hd2, hown1, Lib.hid ⟨by simp [HI.out.1], dig_snoc L D HI.out.2.1 hd1, ?_⟩, hb1⟩
          rw [val_snoc, HI.out.1, HDC.out.1, HDC.out.2]
          exact HST.out
        case measure => simp [intOf]; omega
    · have ha' : decide ((k : Int) < (p : Int)) = false := by simp; omega
      have hx0 : x = 0 := by rw [hx]; simp [List.getD, show l.length ≤ k by have := HP.out.1; omega]
      by_cases hbq : k < q
      · obtain ⟨b2, o2, rfl, c2⟩ := G4.out (by have := HP.out.2; omega)
        have k2 : wr.cell? ⟨b2, o2 + k, none⟩ = some (.int .u32 (y : Nat)) := by
          have h := c2 k (by have := HP.out.2; omega)
          rw [hy]
          exact (hb.cell (World.block_lt_of_cell? w _ h)).trans h
        have hb' : (k : Int) < (q : Int) := by omega
        have e1 : IntKind.u32.wrap ((C : Int) + (y : Int)) = (D : Int) := by
          rw [hD, hx0, IntKind.wrap_u32]; unfold BB; omega
        have e2 : ((C : Int) + (y : Int)) / 4294967296 = (C' : Int) := by rw [hC', hx0]; unfold BB; omega
        clear c2 hst hst2 hx hy hD hC' hx0
        go_wp2_with (at_builtin; refine wpList_append_own _ rfl _ _ 62 rfl w.heap.size 70 i0 (.int .u32 0) 1 4 Tryz.underlying62 hi hz0 hz1 hz2 rfl (by decide) _ _ _ rfl (hown.alloc _) ⟨_, 0, none⟩ 1 1 [.int .u32 (D : Int)] rfl rfl (cell_one_new _ _ _) (by simp [Value.oneCell']) (by unfold maxLen; omega) (by omega) (by simp; omega) ?_; intro v1 w1 hown1 hgrow1 hx1)
        rw [u32s_snoc] at hown1
        have hb1 : Below w.heap.size w w1 := (hb.alloc hsz _).grown hgrow1 (by simp; omega) (fun j hj => (hown.lt j hj).1)
        go_roundw
        case rel =>
          refine ⟨k + 1, C', L ++ [D], by omega, by go_num, rfl, hd2, hown1, Lib.hid ⟨by simp [HI.out.1], dig_snoc L D HI.out.2.1 hd1, ?_⟩, hb1⟩
          rw [val_snoc, HI.out.1, HDC.out.1, HDC.out.2]
          exact HST.out
        case measure => simp [intOf]; omega
      · have hb' : decide ((k : Int) < (q : Int)) = false := by simp; omega
        have e1 : IntKind.u32.wrap (C : Int) = (C : Int) := by
          rw [IntKind.wrap_u32]; omega
        have htk : val L + BB ^ k * C = A + B := by
          have := HI.out.2.2
          rw [List.take_of_length_le (by have := HP.out.1; omega), List.take_of_length_le (by have := HP.out.2; omega), HV.out.1, HV.out.2] at this
          exact this
        have HT := Lib.hid htk
        clear htk hst hst2 hx hy hD hC' hx0
        go_wp2_with (at_builtin; refine wpList_append_own _ rfl _ _ 62 rfl w.heap.size 70 i0 (.int .u32 0) 1 4 Tryz.underlying62 hi hz0 hz1 hz2 rfl (by decide) _ _ _ rfl (hown.alloc _) ⟨_, 0, none⟩ 1 1 [.int .u32 (C : Int)] rfl rfl (cell_one_new _ _ _) (by simp [Value.oneCell']) (by unfold maxLen; omega) (by omega) (by simp; omega) ?_; intro v1 w1 hown1 hgrow1 hx1)
        rw [u32s_snoc] at hown1
        have hb1 : Below w.heap.size w w1 := (hb.alloc hsz _).grown hgrow1 (by simp; omega) (fun j hj => (hown.lt j hj).1)
        refine (trim_any v1 (L ++ [C]) (by simp [HI.out.1]; omega) w1 (row_own hown1 (by simp [HI.out.1]) (dig_snoc L C HI.out.2.1 (by unfold BB; omega)))).mono ?_
        rintro e w2 ⟨v', l', rfl, rfl, r1, r2, r3⟩
        go_wp2
        go_ret
        exact ⟨v', rfl, ⟨l', r1, r3, by rw [r2, val_snoc, HI.out.1]; exact HT.out⟩, hb1⟩
end Go.Proofs.YtadlppllbebkdaaGreatDoor
