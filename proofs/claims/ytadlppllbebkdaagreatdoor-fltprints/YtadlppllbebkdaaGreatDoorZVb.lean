/- The document's whole numbers of any size: sum, less. -/
import Derived.Test.YtadlppllbebkdaaGreatDoorZVa
import Derived.Test.YtadlppllbebkdaaGreatDoorZMb
import Derived.Deep.AppendLies
import Derived.OneCell
namespace Go.Proofs.YtadlppllbebkdaaGreatDoor
open Go.RowKit

theorem val_take_step (l : List Nat) (k : Nat) : val (l.take (k + 1)) = val (l.take k) + BB ^ k * l.getD k 0 := by
  by_cases h : k < l.length
  · exact val_take_succ l k h
  · have e1 : l.take (k + 1) = l := List.take_of_length_le (by omega)
    have e2 : l.take k = l := List.take_of_length_le (by omega)
    have e3 : l.getD k 0 = 0 := by simp [List.getD, Nat.le_of_not_lt h]
    rw [e1, e2, e3]; simp

/-- What is known of a row whose address may be none. -/
def At (w : World) (ao : Option Addr) (l : List Nat) : Prop := l.length ≠ 0 → ∃ b o, ao = some ⟨b, o, none⟩ ∧ ∀ i, i < l.length → w.cell? ⟨b, o + i, none⟩ = some (.int .u32 (l.getD i 0 : Nat))

set_option maxRecDepth 100000 in
set_option maxHeartbeats 2000000 in
theorem sum_any (va vb : Value) (A B : Nat) (hA : A < BB ^ 400) (hB : B < BB ^ 400) (w : World) (h : Num w va A) (h' : Num w vb B) :
    Calls Tryz.prog 45 #[va, vb] w fun e w' => ∃ v', e = .returned v' ∧ Num w' v' (A + B) ∧ Below w.heap.size w w' := by
  obtain ⟨i0, hi, hz0, hz1, hz2⟩ := info_parts info70
  obtain ⟨l, ⟨ao, cap, rfl, h1, h2, h3, h4⟩, hno, hva⟩ := h
  obtain ⟨m, ⟨bo, bap, rfl, g1, g2, g3, g4⟩, gno, gva⟩ := h'
  have hl := norm_len l hno 400 (by rw [hva]; exact hA)
  have hm := norm_len m gno 400 (by rw [gva]; exact hB)
  obtain ⟨p, hp⟩ : ∃ a, l.length = a := ⟨_, rfl⟩
  obtain ⟨q, hq⟩ : ∃ a, m.length = a := ⟨_, rfl⟩
  rw [hp] at h1 hl ⊢
  rw [hq] at g1 hm ⊢
  have H4 : Hid (At w ao l) := Lib.hid h4
  have G4 : Hid (At w bo m) := Lib.hid g4
  have HP := Lib.hid (And.intro hp hq)
  have HD := Lib.hid (And.intro h3 g3)
  have HV := Lib.hid (And.intro hva gva)
  clear hp hq h3 g3 hva gva h4 g4 hno gno
  have hB' : BB = 4294967296 := rfl
  go_enter Tryz.func45, Tryz.ntmps45
  go_wp2_with fail
  go_loopw [5, 6, 7] (fun x c i wr => ∃ (k C : Nat) (L : List Nat), (k ≤ p ∨ k ≤ q) ∧ i = .int .i64 k ∧ c = .int .u64 C ∧ C ≤ 1 ∧ wr.ownsRow w.heap.size 70 1 x k (u32s L) ∧ Hid (L.length = k ∧ Dig L ∧ val L + BB ^ k * C = val (l.take k) + val (m.take k)) ∧ Below w.heap.size w wr) (fun _ _ i _ => p + q - (intOf i).toNat)
  case atStart => exact ⟨0, 0, [], .inl (by omega), rfl, rfl, by decide, own_empty w, Lib.hid ⟨rfl, fun y hy => by simp at hy, by simp [val]⟩, (Below.refl _ w).alloc (Nat.le_refl _) _⟩
  case round =>
    obtain ⟨k, C, L, hk, rfl, rfl, hC, hown, HI, hb⟩ := hrel
    have hsz := hb.size
    rename World => wr
    obtain ⟨x, hx⟩ : ∃ x, x = l.getD k 0 := ⟨_, rfl⟩
    obtain ⟨y, hy⟩ : ∃ x, x = m.getD k 0 := ⟨_, rfl⟩
    have hxB : x < 4294967296 := by rw [hx]; exact dig_getD l HD.out.1 k
    have hyB : y < 4294967296 := by rw [hy]; exact dig_getD m HD.out.2 k
    have hst := sum_step (val L) (val (l.take k) + val (m.take k)) C (x + y) k HI.out.2.2
    have hst2 : val (l.take k) + val (m.take k) + BB ^ k * (x + y) = val (l.take (k + 1)) + val (m.take (k + 1)) := by
      rw [val_take_step, val_take_step, ← hx, ← hy, Nat.mul_add]; omega
    rw [hst2] at hst
    have HST := Lib.hid hst
    have HX := Lib.hid (And.intro hx hy)
    obtain ⟨D, hD⟩ : ∃ D, D = (C + (x + y)) % BB := ⟨_, rfl⟩
    obtain ⟨C', hC'⟩ : ∃ D, D = (C + (x + y)) / BB := ⟨_, rfl⟩
    have hd1 : D < BB := by rw [hD]; exact Nat.mod_lt _ (by decide)
    have hd2 : C' ≤ 1 := by rw [hC']; unfold BB; omega
    have HDC := Lib.hid (And.intro hD hC')
    by_cases ha : k < p
    · obtain ⟨b1, o1, rfl, c1⟩ := H4.out (by have := HP.out.1; omega)
      have k1 : wr.cell? ⟨b1, o1 + k, none⟩ = some (.int .u32 (x : Nat)) := by
        have h := c1 k (by have := HP.out.1; omega)
        rw [hx]
        exact (hb.cell (World.block_lt_of_cell? w _ h)).trans h
      have ha' : (k : Int) < (p : Int) := by omega
      clear c1
      by_cases hbq : k < q
      · obtain ⟨b2, o2, rfl, c2⟩ := G4.out (by have := HP.out.2; omega)
        have k2 : wr.cell? ⟨b2, o2 + k, none⟩ = some (.int .u32 (y : Nat)) := by
          have h := c2 k (by have := HP.out.2; omega)
          rw [hy]
          exact (hb.cell (World.block_lt_of_cell? w _ h)).trans h
        have hb' : (k : Int) < (q : Int) := by omega
        have e1 : IntKind.u32.wrap ((C : Int) + (x : Int) + (y : Int)) = (D : Int) := by
          rw [hD, IntKind.wrap_u32]; unfold BB; omega
        have e2 : ((C : Int) + (x : Int) + (y : Int)) / 4294967296 = (C' : Int) := by rw [hC']; unfold BB; omega
        clear c2 hst hst2 hx hy hD hC'
        go_wp2_with (at_builtin; refine wpList_append_own _ rfl _ _ 62 rfl w.heap.size 70 i0 (.int .u32 0) 1 4 Tryz.underlying62 hi hz0 hz1 hz2 rfl (by decide) _ _ _ rfl (hown.alloc _) ⟨_, 0, none⟩ 1 1 [.int .u32 (D : Int)] rfl rfl (cell_one_new _ _ _) (by simp [Value.oneCell']) (by unfold maxLen; omega) (by omega) (by simp; omega) ?_; intro v1 w1 hown1 hgrow1 hx1)
        rw [u32s_snoc] at hown1
        have hb1 : Below w.heap.size w w1 := (hb.alloc hsz _).grown hgrow1 (by simp; omega) (fun j hj => (hown.lt j hj).1)
        go_roundw
        case rel =>
          refine ⟨k + 1, C', L ++ [D], by omega, by go_num, rfl, hd2, hown1, Lib.hid ⟨by simp [HI.out.1], dig_snoc L D HI.out.2.1 hd1, ?_⟩, hb1⟩
          rw [val_snoc, HI.out.1, HDC.out.1, HDC.out.2]
          exact HST.out
        case measure => simp [intOf]; omega
      · have hb' : decide ((k : Int) < (q : Int)) = false := by simp; omega
        have hy0 : y = 0 := by rw [hy]; simp [List.getD, show m.length ≤ k by have := HP.out.2; omega]
        have e1 : IntKind.u32.wrap ((C : Int) + (x : Int)) = (D : Int) := by
          rw [hD, hy0, IntKind.wrap_u32]; unfold BB; omega
        have e2 : ((C : Int) + (x : Int)) / 4294967296 = (C' : Int) := by rw [hC', hy0]; unfold BB; omega
        clear hst hst2 hx hy hD hC' hy0
        go_wp2_with (at_builtin; refine wpList_append_own _ rfl _ _ 62 rfl w.heap.size 70 i0 (.int .u32 0) 1 4 Tryz.underlying62 hi hz0 hz1 hz2 rfl (by decide) _ _ _ rfl (hown.alloc _) ⟨_, 0, none⟩ 1 1 [.int .u32 (D : Int)] rfl rfl (cell_one_new _ _ _) (by simp [Value.oneCell']) (by unfold maxLen; omega) (by omega) (by simp; omega) ?_; intro v1 w1 hown1 hgrow1 hx1)
        rw [u32s_snoc] at hown1
        have hb1 : Below w.heap.size w w1 := (hb.alloc hsz _).grown hgrow1 (by simp; omega) (fun j hj => (hown.lt j hj).1)
        go_roundw
        case rel =>
          refine ⟨k + 1, C', L ++ [D], by omega, by go_num, rfl, hd2, hown1, Lib.hid ⟨by simp [HI.out.1], dig_snoc L D HI.out.2.1 hd1, ?_⟩, hb1⟩
          rw [val_snoc, HI.out.1, HDC.out.1, HDC.out.2]
          exact HST.out
        case measure => simp [intOf]; omega
    · have ha' : decide ((k : Int) < (p : Int)) = false := by simp; omega
      have hx0 : x = 0 := by rw [hx]; simp [List.getD, show l.length ≤ k by have := HP.out.1; omega]
      by_cases hbq : k < q
      · obtain ⟨b2, o2, rfl, c2⟩ := G4.out (by have := HP.out.2; omega)
        have k2 : wr.cell? ⟨b2, o2 + k, none⟩ = some (.int .u32 (y : Nat)) := by
          have h := c2 k (by have := HP.out.2; omega)
          rw [hy]
          exact (hb.cell (World.block_lt_of_cell? w _ h)).trans h
        have hb' : (k : Int) < (q : Int) := by omega
        have e1 : IntKind.u32.wrap ((C : Int) + (y : Int)) = (D : Int) := by
          rw [hD, hx0, IntKind.wrap_u32]; unfold BB; omega
        have e2 : ((C : Int) + (y : Int)) / 4294967296 = (C' : Int) := by rw [hC', hx0]; unfold BB; omega
        clear c2 hst hst2 hx hy hD hC' hx0
        go_wp2_with (at_builtin; refine wpList_append_own _ rfl _ _ 62 rfl w.heap.size 70 i0 (.int .u32 0) 1 4 Tryz.underlying62 hi hz0 hz1 hz2 rfl (by decide) _ _ _ rfl (hown.alloc _) ⟨_, 0, none⟩ 1 1 [.int .u32 (D : Int)] rfl rfl (cell_one_new _ _ _) (by simp [Value.oneCell']) (by unfold maxLen; omega) (by omega) (by simp; omega) ?_; intro v1 w1 hown1 hgrow1 hx1)
        rw [u32s_snoc] at hown1
        have hb1 : Below w.heap.size w w1 := (hb.alloc hsz _).grown hgrow1 (by simp; omega) (fun j hj => (hown.lt j hj).1)
        go_roundw
        case rel =>
          refine ⟨k + 1, C', L ++ [D], by omega, by go_num, rfl, hd2, hown1, Lib.hid ⟨by simp [HI.out.1], dig_snoc L D HI.out.2.1 hd1, ?_⟩, hb1⟩
          rw [val_snoc, HI.out.1, HDC.out.1, HDC.out.2]
          exact HST.out
        case measure => simp [intOf]; omega
      · have hb' : decide ((k : Int) < (q : Int)) = false := by simp; omega
        have e1 : IntKind.u32.wrap (C : Int) = (C : Int) := by
          rw [IntKind.wrap_u32]; omega
        have htk : val L + BB ^ k * C = A + B := by
          have := HI.out.2.2
          rw [List.take_of_length_le (by have := HP.out.1; omega), List.take_of_length_le (by have := HP.out.2; omega), HV.out.1, HV.out.2] at this
          exact this
        have HT := Lib.hid htk
        clear htk hst hst2 hx hy hD hC' hx0
        go_wp2_with (at_builtin; refine wpList_append_own _ rfl _ _ 62 rfl w.heap.size 70 i0 (.int .u32 0) 1 4 Tryz.underlying62 hi hz0 hz1 hz2 rfl (by decide) _ _ _ rfl (hown.alloc _) ⟨_, 0, none⟩ 1 1 [.int .u32 (C : Int)] rfl rfl (cell_one_new _ _ _) (by simp [Value.oneCell']) (by unfold maxLen; omega) (by omega) (by simp; omega) ?_; intro v1 w1 hown1 hgrow1 hx1)
        rw [u32s_snoc] at hown1
        have hb1 : Below w.heap.size w w1 := (hb.alloc hsz _).grown hgrow1 (by simp; omega) (fun j hj => (hown.lt j hj).1)
        refine (trim_any v1 (L ++ [C]) (by simp [HI.out.1]; omega) w1 (row_own hown1 (by simp [HI.out.1]) (dig_snoc L C HI.out.2.1 (by unfold BB; omega)))).mono ?_
        rintro e w2 ⟨v', l', rfl, rfl, r1, r2, r3⟩
        go_wp2
        go_ret
        exact ⟨v', rfl, ⟨l', r1, r3, by rw [r2, val_snoc, HI.out.1]; exact HT.out⟩, hb1⟩
end Go.Proofs.YtadlppllbebkdaaGreatDoor

/- The document's whole numbers of any size: less. -/
namespace Go.Proofs.YtadlppllbebkdaaGreatDoor
open Go.RowKit

set_option maxRecDepth 100000 in
set_option maxHeartbeats 2000000 in
theorem less_any (va vb : Value) (A B : Nat) (hA : A < BB ^ 400) (hAB : B ≤ A) (w : World) (h : Num w va A) (h' : Num w vb B) :
    Calls Tryz.prog 47 #[va, vb] w fun e w' => ∃ v', e = .returned v' ∧ Num w' v' (A - B) ∧ Below w.heap.size w w' := by
  obtain ⟨i0, hi, hz0, hz1, hz2⟩ := info_parts info70
  obtain ⟨l, ⟨ao, cap, rfl, h1, h2, h3, h4⟩, hno, hva⟩ := h
  obtain ⟨m, ⟨bo, bap, rfl, g1, g2, g3, g4⟩, gno, gva⟩ := h'
  have hl := norm_len l hno 400 (by rw [hva]; exact hA)
  have hm : m.length ≤ l.length := norm_len m gno _ (by
    have := val_lt l h3
    omega)
  obtain ⟨p, hp⟩ : ∃ a, l.length = a := ⟨_, rfl⟩
  obtain ⟨q, hq⟩ : ∃ a, m.length = a := ⟨_, rfl⟩
  rw [hp] at h1 hl hm ⊢
  rw [hq] at g1 hm ⊢
  have H4 : Hid (At w ao l) := Lib.hid h4
  have G4 : Hid (At w bo m) := Lib.hid g4
  have HP := Lib.hid (And.intro hp hq)
  have HD := Lib.hid (And.intro h3 g3)
  have HV := Lib.hid (And.intro hva gva)
  clear hp hq h3 g3 hva gva h4 g4 hno gno
  go_enter Tryz.func47, Tryz.ntmps47
  go_wp2_with fail
  go_loopw [5, 6, 7] (fun x c i wr => ∃ (k d : Nat) (L : List Nat), k ≤ p ∧ i = .int .i64 k ∧ c = .int .i64 (-(d : Int)) ∧ d ≤ 1 ∧ wr.ownsRow w.heap.size 70 1 x k (u32s L) ∧ Hid (L.length = k ∧ Dig L ∧ val L + val (m.take k) = val (l.take k) + BB ^ k * d) ∧ Below w.heap.size w wr) (fun _ _ i _ => p - (intOf i).toNat)
  case atStart => exact ⟨0, 0, [], by omega, rfl, rfl, by decide, own_empty w, Lib.hid ⟨rfl, fun y hy => by simp at hy, by simp [val]⟩, (Below.refl _ w).alloc (Nat.le_refl _) _⟩
  case round =>
    obtain ⟨k, d, L, hk, rfl, rfl, hC, hown, HI, hb⟩ := hrel
    have hsz := hb.size
    rename World => wr
    by_cases ha : k < p
    · obtain ⟨x, hx⟩ : ∃ x, x = l.getD k 0 := ⟨_, rfl⟩
      obtain ⟨y, hy⟩ : ∃ x, x = m.getD k 0 := ⟨_, rfl⟩
      have hxB : x < 4294967296 := by rw [hx]; exact dig_getD l HD.out.1 k
      have hyB : y < 4294967296 := by rw [hy]; exact dig_getD m HD.out.2 k
      have hst := less_step (val L) (val (l.take k)) (val (m.take k)) d x y k hC hxB hyB HI.out.2.2
      rw [hx, hy, ← val_take_step, ← val_take_step, ← hx, ← hy] at hst
      have HST := Lib.hid hst
      obtain ⟨D, hD⟩ : ∃ D, D = (x + BB - y - d) % BB := ⟨_, rfl⟩
      obtain ⟨d', hd'⟩ : ∃ D, D = if x < y + d then 1 else 0 := ⟨_, rfl⟩
      have hd1 : D < BB := by rw [hD]; exact Nat.mod_lt _ (by decide)
      have hd2 : d' ≤ 1 := by rw [hd']; split <;> omega
      have HDC := Lib.hid (And.intro hD hd')
      obtain ⟨b1, o1, rfl, c1⟩ := H4.out (by have := HP.out.1; omega)
      have k1 : wr.cell? ⟨b1, o1 + k, none⟩ = some (.int .u32 (x : Nat)) := by
        have h := c1 k (by have := HP.out.1; omega)
        rw [hx]
        exact (hb.cell (World.block_lt_of_cell? w _ h)).trans h
      have ha' : (k : Int) < (p : Int) := by omega
      clear c1
      by_cases hbq : k < q
      · obtain ⟨b2, o2, rfl, c2⟩ := G4.out (by have := HP.out.2; omega)
        have k2 : wr.cell? ⟨b2, o2 + k, none⟩ = some (.int .u32 (y : Nat)) := by
          have h := c2 k (by have := HP.out.2; omega)
          rw [hy]
          exact (hb.cell (World.block_lt_of_cell? w _ h)).trans h
        have hb' : (k : Int) < (q : Int) := by omega
        have e1 : IntKind.u32.wrap (-(d : Int) + (x : Int) - (y : Int)) = (D : Int) := by
          rw [hD, IntKind.wrap_u32]; unfold BB; omega
        have e2 : (-(d : Int) + (x : Int) - (y : Int)) / 4294967296 = -(d' : Int) := by rw [hd']; split <;> omega
        clear c2 hst hx hy hD hd'
        go_wp2_with (at_builtin; refine wpList_append_own _ rfl _ _ 62 rfl w.heap.size 70 i0 (.int .u32 0) 1 4 Tryz.underlying62 hi hz0 hz1 hz2 rfl (by decide) _ _ _ rfl (hown.alloc _) ⟨_, 0, none⟩ 1 1 [.int .u32 (D : Int)] rfl rfl (cell_one_new _ _ _) (by simp [Value.oneCell']) (by unfold maxLen; omega) (by omega) (by simp; omega) ?_; intro v1 w1 hown1 hgrow1 hx1)
        rw [u32s_snoc] at hown1
        have hb1 : Below w.heap.size w w1 := (hb.alloc hsz _).grown hgrow1 (by simp; omega) (fun j hj => (hown.lt j hj).1)
        go_roundw
        case rel =>
          refine ⟨k + 1, d', L ++ [D], by omega, by go_num, rfl, hd2, hown1, Lib.hid ⟨by simp [HI.out.1], dig_snoc L D HI.out.2.1 hd1, ?_⟩, hb1⟩
          rw [val_snoc, HI.out.1, HDC.out.1, HDC.out.2]
          exact HST.out
        case measure => simp [intOf]; omega
      · have hb' : decide ((k : Int) < (q : Int)) = false := by simp; omega
        have hy0 : y = 0 := by rw [hy]; simp [List.getD, show m.length ≤ k by have := HP.out.2; omega]
        have e1 : IntKind.u32.wrap (-(d : Int) + (x : Int)) = (D : Int) := by
          rw [hD, hy0, IntKind.wrap_u32]; unfold BB; omega
        have e2 : (-(d : Int) + (x : Int)) / 4294967296 = -(d' : Int) := by rw [hd', hy0]; split <;> omega
        clear hst hx hy hD hd' hy0
        go_wp2_with (at_builtin; refine wpList_append_own _ rfl _ _ 62 rfl w.heap.size 70 i0 (.int .u32 0) 1 4 Tryz.underlying62 hi hz0 hz1 hz2 rfl (by decide) _ _ _ rfl (hown.alloc _) ⟨_, 0, none⟩ 1 1 [.int .u32 (D : Int)] rfl rfl (cell_one_new _ _ _) (by simp [Value.oneCell']) (by unfold maxLen; omega) (by omega) (by simp; omega) ?_; intro v1 w1 hown1 hgrow1 hx1)
        rw [u32s_snoc] at hown1
        have hb1 : Below w.heap.size w w1 := (hb.alloc hsz _).grown hgrow1 (by simp; omega) (fun j hj => (hown.lt j hj).1)
        go_roundw
        case rel =>
          refine ⟨k + 1, d', L ++ [D], by omega, by go_num, rfl, hd2, hown1, Lib.hid ⟨by simp [HI.out.1], dig_snoc L D HI.out.2.1 hd1, ?_⟩, hb1⟩
          rw [val_snoc, HI.out.1, HDC.out.1, HDC.out.2]
          exact HST.out
        case measure => simp [intOf]; omega
    · have hkp : k = p := by omega
      subst hkp
      have ha' : decide ((k : Int) < (k : Int)) = false := by simp
      have hfin : val L = A - B := by
        have h := HI.out.2.2
        rw [List.take_of_length_le (show m.length ≤ k by have := HP.out.2; omega), List.take_of_length_le (show l.length ≤ k by have := HP.out.1; omega), HV.out.1, HV.out.2] at h
        have hlt := val_lt L HI.out.2.1
        rw [HI.out.1] at hlt
        have hd0 : d = 0 ∨ d = 1 := by omega
        rcases hd0 with rfl | rfl
        · omega
        · rw [Nat.mul_one] at h; omega
      have HF := Lib.hid hfin
      have hrow := row_own hown HI.out.1 HI.out.2.1
      have hT := trim_any _ L (by rw [HI.out.1]; omega) wr hrow
      clear hfin hrow
      go_wp2_with fail
      refine hT.mono ?_
      rintro e w2 ⟨v', l', rfl, rfl, r1, r2, r3⟩
      go_wp2
      go_ret
      exact ⟨v', rfl, ⟨l', r1, r3, by rw [r2]; exact HF.out⟩, hb⟩
end Go.Proofs.YtadlppllbebkdaaGreatDoor

/- The document's whole numbers of any size: bits, small. -/
namespace Go.Proofs.YtadlppllbebkdaaGreatDoor
open Go.RowKit

def bitsN (n : Nat) : Nat := if n = 0 then 0 else n.log2 + 1

theorem bitsN_half (t : Nat) (h : 0 < t) : bitsN t = bitsN (t / 2) + 1 := by
  unfold bitsN
  rw [if_neg (by omega)]
  by_cases h1 : t = 1
  · subst h1; decide
  · have h2 : ¬ t / 2 = 0 := by omega
    rw [if_neg h2]
    have : t.log2 = (t / 2).log2 + 1 := by
      rw [Nat.log2_def, if_pos (by omega)]
    omega

theorem bitsN_top (r k t : Nat) (hr : r < BB ^ k) (ht : t ≠ 0) : bitsN (r + BB ^ k * t) = 32 * k + bitsN t := by
  have hp := BB_pow k
  have h0 : BB ^ k * t ≠ 0 := Nat.mul_ne_zero (by omega) ht
  unfold bitsN
  rw [if_neg (by omega), if_neg ht]
  have : (r + BB ^ k * t).log2 = 32 * k + t.log2 := by
    refine (Nat.log2_eq_iff (by omega)).2 ⟨?_, ?_⟩
    · rw [pow_add', ← BB_two]
      have := Nat.mul_le_mul_left (BB ^ k) (Nat.log2_self_le ht)
      omega
    · rw [Nat.add_assoc, pow_add', ← BB_two]
      have h1 : t + 1 ≤ 2 ^ (t.log2 + 1) := Nat.lt_log2_self
      have h2 := Nat.mul_le_mul_left (BB ^ k) h1
      rw [Nat.mul_add, Nat.mul_one] at h2
      omega
  omega

set_option maxRecDepth 100000 in
theorem bits_any (v : Value) (N : Nat) (hN : N < BB ^ 400) (w : World) (h : Num w v N) :
    Calls Tryz.prog 64 #[v] w fun e w' => e = .returned (.int .i64 (bitsN N)) ∧ w' = w := by
  obtain ⟨l, ⟨ao, cap, rfl, h1, h2, h3, h4⟩, hno, hva⟩ := h
  by_cases h0 : l.length = 0
  · have hz : N = 0 := by rw [← hva]; exact (norm_zero l hno).1 h0
    subst hz
    rw [h0]
    have e : bitsN 0 = 0 := rfl
    rw [e]
    clear h4 h3 hno hva h0 h1
    go_enter Tryz.func64, Tryz.ntmps64
    go_wp2
    go_ret
    exact ⟨rfl, rfl⟩
  · have hl := norm_len l hno 400 (by rw [hva]; exact hN)
    obtain ⟨b, o, rfl, c1⟩ := h4 h0
    obtain ⟨j, hj⟩ : ∃ j, l.length = j + 1 := ⟨l.length - 1, by omega⟩
    obtain ⟨t, ht⟩ : ∃ t, t = l.getD j 0 := ⟨_, rfl⟩
    have k1 : w.cell? ⟨b, o + j, none⟩ = some (.int .u32 (t : Nat)) := by rw [ht]; exact c1 j (by omega)
    have htB : t < 4294967296 := by rw [ht]; exact dig_getD l h3 j
    have ht0 : t ≠ 0 := by
      rcases hno with h | h
      · omega
      · rw [hj, show j + 1 - 1 = j by omega, ← ht] at h; exact h
    have hb : bitsN N = 32 * j + bitsN t := by
      have e := val_take_succ l j (by omega)
      rw [← hj, List.take_length, hva, ← ht] at e
      rw [e]
      refine bitsN_top _ _ _ ?_ ht0
      have := val_lt (l.take j) (dig_take l h3 j)
      have e2 : (l.take j).length = j := by simp; omega
      rw [e2] at this; exact this
    obtain ⟨R, hR⟩ : ∃ R, bitsN N = R := ⟨_, rfl⟩
    rw [hR, hj]
    have HR := Lib.hid (hR.symm.trans hb)
    have hj2 : j < 400 := by omega
    have hne : ¬ ((j : Int) + 1 = 0) := by omega
    clear hR hb c1 h4 ht hj h1 hl h0 hva hno h3
    go_enter Tryz.func64, Tryz.ntmps64
    go_wp2_with fail
    go_loopw [3, 4] (fun c x wr => ∃ k u : Nat, c = .int .i64 k ∧ x = .int .u32 u ∧ u ≤ t ∧ wr = w ∧ k ≤ 32 * j + 32 ∧ Hid (R = k + bitsN u) ∧ Hid (k + bitsN u ≤ 32 * j + 32)) (fun _ x _ => (intOf x).toNat)
    case atStart =>
      have hbt : bitsN t ≤ 32 := by
        unfold bitsN
        rw [if_neg ht0]
        have := (Nat.log2_lt ht0).2 (show t < 2 ^ 32 by omega)
        omega
      exact ⟨32 * j, t, by simp, rfl, by omega, rfl, by omega, HR, Lib.hid (by omega)⟩
    case round =>
      obtain ⟨k, u, rfl, rfl, hu, rfl, hk, HI, HJ⟩ := hrel
      by_cases hz : u = 0
      · subst hz
        have hr : R = k := HI.out
        go_wp2_with fail
        go_ret
        exact ⟨by rw [hr]; rfl, rfl⟩
      · have hu0 : (u : Int) > 0 := by omega
        have hh := bitsN_half u (by omega)
        obtain ⟨y, hy⟩ : ∃ y, u / 2 = y := ⟨_, rfl⟩
        rw [hy] at hh
        have eu : (u : Int) / 2 = (y : Int) := by omega
        have et : (u : Int).tdiv 2 = (y : Int) := by rw [← hy]; exact Int.ofNat_tdiv u 2
        have hy2 : y ≤ u := by omega
        have hy3 : y < u := by omega
        clear hy
        have hk2 : k + 1 ≤ 32 * j + 32 := by have := HJ.out; omega
        have HH := Lib.hid hh
        clear hh
        go_wp2_with fail
        go_roundw
        case rel => exact ⟨k + 1, y, by go_num, rfl, by omega, trivial, hk2, Lib.hid (by rw [HI.out, HH.out]; omega), Lib.hid (by have := HJ.out; have := HH.out; omega)⟩
        case measure => simp [intOf]; omega

theorem or_low (y x : Nat) (hx : x < 4294967296) : (y * 4294967296) ||| x = y * 4294967296 + x := by
  have h := Nat.shiftLeft_add_eq_or_of_lt (i := 32) (show x < 2 ^ 32 by omega) y
  rw [Nat.shiftLeft_eq] at h
  exact h.symm

set_option maxRecDepth 100000 in
theorem small_any (v : Value) (N : Nat) (hN : N < 18446744073709551616) (w : World) (h : Num w v N) :
    Calls Tryz.prog 65 #[v] w fun e w' => e = .returned (.int .u64 N) ∧ w' = w := by
  obtain ⟨l, ⟨ao, cap, rfl, h1, h2, h3, h4⟩, hno, hva⟩ := h
  have hl := norm_len l hno 2 (by rw [hva]; exact hN)
  obtain ⟨p, hp⟩ : ∃ a, l.length = a := ⟨_, rfl⟩
  rw [hp] at h1 hl ⊢
  have H4 : Hid (At w ao l) := Lib.hid h4
  have HP := Lib.hid hp
  have HD := Lib.hid h3
  have HV := Lib.hid hva
  clear hp h3 hva h4 hno
  go_enter Tryz.func65, Tryz.ntmps65
  go_wp2_with fail
  go_loopw [3, 4] (fun c i wr => ∃ k y : Nat, k ≤ p ∧ i = .int .i64 ((k : Int) - 1) ∧ c = .int .u64 y ∧ wr = w ∧ Hid (y = val (l.drop k))) (fun _ i _ => (intOf i + 1).toNat)
  case atStart => exact ⟨p, 0, by omega, rfl, rfl, rfl, Lib.hid (by rw [List.drop_of_length_le (by have := HP.out; omega)]; rfl)⟩
  case round =>
    obtain ⟨k, y, hk, rfl, rfl, rfl, HI⟩ := hrel
    cases k with
    | zero =>
      have hz : decide ((((0 : Nat) : Int) - 1) ≥ 0) = false := by decide
      have hy : y = N := by rw [HI.out, List.drop_zero]; exact HV.out
      go_wp2_with fail
      go_ret
      exact ⟨by rw [hy]; rfl, rfl⟩
    | succ j =>
      have ej : ((j + 1 : Nat) : Int) - 1 = (j : Int) := by omega
      rw [ej]
      rename World => W
      obtain ⟨b1, o1, rfl, c1⟩ := H4.out (by have := HP.out; omega)
      obtain ⟨x, hx⟩ : ∃ x, x = l.getD j 0 := ⟨_, rfl⟩
      have k1 : W.cell? ⟨b1, o1 + j, none⟩ = some (.int .u32 (x : Nat)) := by rw [hx]; exact c1 j (by have := HP.out; omega)
      have hxB : x < 4294967296 := by rw [hx]; exact dig_getD l HD.out j
      have hval : val (l.drop j) = y * 4294967296 + x := by
        rw [drop_cons l j (by have := HP.out; omega), ← hx, HI.out]
        simp only [val]; unfold BB; omega
      have hyB : y < 4294967296 := by
        have e := val_drop l j (by have := HP.out; omega)
        have h1 : 1 * val (l.drop j) ≤ BB ^ j * val (l.drop j) := Nat.mul_le_mul_right _ (BB_pow j)
        rw [HV.out] at e
        omega
      obtain ⟨Z, hZ⟩ : ∃ Z, Z = y * 4294967296 + x := ⟨_, rfl⟩
      have e1 : bits .or .u64 ((y : Int) * 4294967296) (x : Int) = (Z : Int) := by
        have h := u64_or_nat (y * 4294967296) x (by omega) (by omega)
        rw [or_low y x hxB, ← hZ] at h
        rw [← h]; simp
      have hjp : (j : Int) < (p : Int) := by omega
      have hj0 : (0 : Int) ≤ (j : Int) := by omega
      have HZ := Lib.hid (hZ.trans hval.symm)
      clear c1 hx hval hZ ej
      go_wp2_with fail
      go_roundw
      case rel => exact ⟨j, Z, by omega, by go_num, rfl, trivial, HZ⟩
      case measure => simp [intOf]
end Go.Proofs.YtadlppllbebkdaaGreatDoor

/- Two rows of the call's own behind two variables. -/
namespace Go.Proofs.YtadlppllbebkdaaGreatDoor
open Go.RowKit

/-- A variable that holds a row of the call's own. -/
structure Var (B : Nat) (w : World) (R g c : Nat) (L : List Nat) : Prop where
  cell : w.cell? ⟨R, 0, none⟩ = some (.slice (some ⟨g, 0, none⟩) L.length c)
  soft : w.frozen? ⟨R, 0, none⟩ = false
  own : w.ownsRow B 70 1 (.slice (some ⟨g, 0, none⟩) L.length c) L.length (u32s L)
  base : B ≤ R

structure St (B : Nat) (w : World) (Q g c : Nat) (L : List Nat) (S h d : Nat) (M : List Nat) : Prop where
  vq : Var B w Q g c L
  vs : Var B w S h d M
  ne : g ≠ h ∧ g ≠ Q ∧ g ≠ S ∧ h ≠ Q ∧ h ≠ S ∧ Q ≠ S

theorem St.swap {B : Nat} {w : World} {Q g c : Nat} {L : List Nat} {S h d : Nat} {M : List Nat} (s : St B w Q g c L S h d M) : St B w S h d M Q g c L := by
  obtain ⟨a, b, n1, n2, n3, n4, n5, n6⟩ := s
  exact ⟨b, a, n1.symm, n5, n4, n3, n2, n6.symm⟩

theorem Var.drew {B : Nat} {w : World} {R g c : Nat} {L : List Nat} (v : Var B w R g c L) : Var B w.drew R g c L := ⟨v.cell, v.soft, v.own, v.base⟩
theorem St.drew {B : Nat} {w : World} {Q g c : Nat} {L : List Nat} {S h d : Nat} {M : List Nat} (s : St B w Q g c L S h d M) : St B w.drew Q g c L S h d M := ⟨s.vq.drew, s.vs.drew, s.ne⟩

theorem Var.lt {B : Nat} {w : World} {R g c : Nat} {L : List Nat} (v : Var B w R g c L) : R < w.heap.size ∧ g < w.heap.size ∧ B ≤ g :=
  ⟨World.block_lt_of_cell? w _ v.cell, (v.own.lt g rfl).2, (v.own.lt g rfl).1⟩

/-- What touches none of its two blocks. -/
theorem Var.far {B : Nat} {w w' : World} {R g c : Nat} {L : List Nat} (v : Var B w R g c L) (hR : w'.heap[R]? = w.heap[R]?) (hg : w'.heap[g]? = w.heap[g]?) : Var B w' R g c L := by
  refine ⟨(World.cell?_of_block (w := w) hR).trans v.cell, (World.frozen?_of_block (w := w) hR).trans v.soft, ?_, v.base⟩
  obtain ⟨h1, h2⟩ := v.own
  refine ⟨h1, ?_⟩
  rcases h2 with ⟨h, _⟩ | ⟨g', cap, cur, h, r1, r2, r3⟩
  · simp at h
  · simp only [Value.slice.injEq, Option.some.injEq, Addr.mk.injEq, and_true, true_and] at h
    obtain ⟨rfl, rfl⟩ := h
    exact .inr ⟨g, c, cur, rfl, r1, by rw [hg]; exact r2, r3⟩

theorem St.set {B : Nat} {w : World} {Q g c : Nat} {L : List Nat} {S h d : Nat} {M : List Nat} (s : St B w Q g c L S h d M) (t z : Nat) :
    St B (w.setCell ⟨g, t, none⟩ (.int .u32 (z : Int))) Q g c (L.set t z) S h d M := by
  obtain ⟨n1, n2, n3, n4, n5, n6⟩ := s.ne
  have ho : ∀ k, k ≠ g → (w.setCell ⟨g, t, none⟩ (.int .u32 (z : Int))).heap[k]? = w.heap[k]? := fun k hk => heap_setCell_other w ⟨g, t, none⟩ k _ (fun e => hk (by simpa using e))
  have hl : (L.set t z).length = L.length := by simp
  have hu : (u32s L).set t (.int .u32 (z : Int)) = u32s (L.set t z) := by simp [u32s, List.map_set]
  refine ⟨⟨?_, ?_, ?_, s.vq.base⟩, s.vs.far (ho S n3.symm) (ho h n1.symm), s.ne⟩
  · rw [hl]; exact (World.cell?_of_block (w := w) (ho Q n2.symm)).trans s.vq.cell
  · exact (World.frozen?_of_block (w := w) (ho Q n2.symm)).trans s.vq.soft
  · rw [hl, ← hu]; exact (s.vq.own.stored t _).1

theorem St.push {B : Nat} {w w1 : World} {o : Obj} {Q g c g' c' : Nat} {L : List Nat} {S h d : Nat} {M : List Nat} (s : St B w Q g c L S h d M) (x : Nat)
    (hown : w1.ownsRow B 70 1 (.slice (some ⟨g', 0, none⟩) (L.length + 1) c') (L.length + 1) (u32s L ++ [.int .u32 (x : Int)]))
    (hg : (w.alloc o).grownBy w1 (some g)) (hat : some g = some g' ∨ g' = w.heap.size + 1) :
    St B (w1.setCell ⟨Q, 0, none⟩ (.slice (some ⟨g', 0, none⟩) (L.length + 1) c')) Q g' c' (L ++ [x]) S h d M := by
  obtain ⟨n1, n2, n3, n4, n5, n6⟩ := s.ne
  obtain ⟨q1, q2, q3⟩ := s.vq.lt
  obtain ⟨s1, s2, s3⟩ := s.vs.lt
  have hblk : ∀ k, k < w.heap.size → k ≠ g → w1.heap[k]? = w.heap[k]? := fun k hk hne => by
    rw [hg.block k (by simp; omega) (fun e => hne (Option.some.inj e)), Below.heap_alloc w o k hk]
  have ho : ∀ k, k ≠ Q → (w1.setCell ⟨Q, 0, none⟩ (.slice (some ⟨g', 0, none⟩) (L.length + 1) c')).heap[k]? = w1.heap[k]? := fun k hk => heap_setCell_other w1 ⟨Q, 0, none⟩ k _ (fun e => hk (by simpa using e))
  have hgQ : g' ≠ Q := by rcases hat with e | e; · cases e; exact n2
                          · omega
  have hgS : g' ≠ S := by rcases hat with e | e; · cases e; exact n3
                          · omega
  have hgh : g' ≠ h := by rcases hat with e | e; · cases e; exact n1
                          · omega
  have hll : (L ++ [x]).length = L.length + 1 := by simp
  have hQ1 : w1.cell? ⟨Q, 0, none⟩ = some (.slice (some ⟨g, 0, none⟩) L.length c) := (World.cell?_of_block (w := w) (hblk Q q1 n2.symm)).trans s.vq.cell
  have hQ2 : w1.frozen? ⟨Q, 0, none⟩ = false := (World.frozen?_of_block (w := w) (hblk Q q1 n2.symm)).trans s.vq.soft
  refine ⟨⟨?_, ?_, ?_, s.vq.base⟩, s.vs.far ?_ ?_, hgh, hgQ, hgS, n4, n5, n6⟩
  · rw [hll]; simp [go_sem, hQ1]
  · simp [go_sem, hQ2]
  · rw [hll, ← u32s_snoc]
    exact ownsRow_setCell_other hown (by simpa [Value.ownBlock] using hgQ) _
  · rw [ho S (by omega), hblk S s1 n3.symm]
  · rw [ho h n4, hblk h s2 n1.symm]

/-- What stands in the variable behind the append. -/
theorem St.pushed {B : Nat} {w w1 : World} {o : Obj} {Q g c : Nat} {L : List Nat} {S h d : Nat} {M : List Nat} (s : St B w Q g c L S h d M) (hg : (w.alloc o).grownBy w1 (some g)) :
    w1.cell? ⟨Q, 0, none⟩ = some (.slice (some ⟨g, 0, none⟩) L.length c) ∧ w1.frozen? ⟨Q, 0, none⟩ = false := by
  obtain ⟨n1, n2, n3, n4, n5, n6⟩ := s.ne
  obtain ⟨q1, q2, q3⟩ := s.vq.lt
  have hblk : w1.heap[Q]? = w.heap[Q]? := by
    rw [hg.block Q (by simp; omega) (fun e => n2.symm (Option.some.inj e)), Below.heap_alloc w o Q q1]
  exact ⟨(World.cell?_of_block (w := w) hblk).trans s.vq.cell, (World.frozen?_of_block (w := w) hblk).trans s.vq.soft⟩

theorem St.elem {B : Nat} {w : World} {Q g c : Nat} {L : List Nat} {S h d : Nat} {M : List Nat} (s : St B w Q g c L S h d M) (t : Nat) (ht : t < L.length) :
    w.cell? ⟨g, t, none⟩ = some (.int .u32 (L.getD t 0 : Nat)) ∧ w.frozen? ⟨g, t, none⟩ = false := by
  constructor
  · rw [s.vq.own.cellAt t (by omega)]
    simp [u32s, List.getD, ht]
  · rcases s.vq.own.2 with ⟨h', _⟩ | ⟨g', cap', cur, h', hb, hg, _⟩
    · simp at h'
    · simp only [Value.slice.injEq, Option.some.injEq, Addr.mk.injEq, and_true, true_and] at h'
      obtain ⟨rfl, rfl⟩ := h'
      exact frozen_of_row w g t cur 70 hg
end Go.Proofs.YtadlppllbebkdaaGreatDoor
