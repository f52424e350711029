/- The document's Step of what goes on. -/
import Derived.Test.YtfkdaimhdjaefaaDoorUH
namespace Go.Proofs.YtfkdaimhdjaefaaDoor
open Go.RowKit

set_option maxRecDepth 100000 in
set_option maxHeartbeats 2000000 in
theorem ds_timer (c : Core) (ad : Option Addr) (n cap : Nat) (tick self : Int) (w : World) (hF : Fld w) (op imm : Int) (a b d : Nat) (ha : a < 8) (hb : b < 8) (hd' : d < 8)
    (hat : Calls Tryd.prog 21 #[coreV c, .slice ad n cap] (((w.alloc (.cells (coreA c) 33)).alloc (.cells zeroC 33)).alloc (.cells zeroW 34)) fun e w' => e = .returned (.tuple #[insV ⟨op, a, b, d, imm⟩, .bool true]) ∧ Below (((w.alloc (.cells (coreA c) 33)).alloc (.cells zeroC 33)).alloc (.cells zeroW 34)).heap.size (((w.alloc (.cells (coreA c) 33)).alloc (.cells zeroC 33)).alloc (.cells zeroW 34)) w') (hop : op = 27) :
    Calls Tryd.prog 8 #[coreV c, .slice ad n cap, .int .i64 tick, .int .i64 self] w fun e w' => e = .returned (.tuple #[coreV c.next, wantV 5 0 (c.r a)]) ∧ Below w.heap.size w w' := by
  subst hop
  obtain ⟨D, hD⟩ : ∃ D, Hid (c.next = D) := ⟨_, rfl⟩
  have hnx := rnext_any c
  rw [hD.out] at hnx ⊢
  clear hD
  have HS := hd (fun w1 => StB.mk' (w1 := w1) (tc := 33) (tw := 34) (c := c) ⟨27, a, b, d, imm⟩ hF)
  have HA := hd ha
  have HBb := hd hb
  have HDd := hd hd'
  have la : (a : Int) < 8 := by omega
  have lb : (b : Int) < 8 := by omega
  have ld : (d : Int) < 8 := by omega
  clear hF ha hb hd'
  unfold wantV wantA
  unfold insV at *
  unfold coreV at *
  unfold coreA zeroC zeroW at *
  go_enter Tryd.func8, Tryd.ntmps8
  go_upto_region 2 with (first | (go_at_call 21; refine hat.mono ?_; rintro e w1 ⟨rfl, b1⟩))
  replace HS := hd (HS.out w1 b1)
  clear hat b1
  unfold insA at HS
  simp only at HS
  obtain ⟨g, hg⟩ : ∃ g, Hid (w1.heap.size = g) := ⟨_, rfl⟩
  obtain ⟨W1, hW1⟩ : ∃ W, Hid (w1.alloc (.cells #[.int .i64 27, .int .i64 a, .int .i64 b, .int .i64 d, .int .i64 imm] 28) = W) := ⟨_, rfl⟩
  rw [hW1.out] at HS ⊢
  rw [hg.out] at HS ⊢
  clear hW1 hg
  obtain ⟨i0, i1, i2, i3, i4⟩ := HS.out.x10.ci
  obtain ⟨c0, c1, c2, c3, c4, c5, c6, c7, c8⟩ := HS.out.x4.cs
  have ra := HS.out.x4.reg a HA.out
  have rb := HS.out.x4.reg b HBb.out
  have rd := HS.out.x4.reg d HDd.out
  have HN1 : ¬ g = w.heap.size + 1 := by have := HS.out.g3; omega
  have HN2 : ¬ w.heap.size + 1 = g := by omega
  have HN3 : ¬ g = w.heap.size + 1 + 1 := by have := HS.out.g3; omega
  have HN4 : ¬ w.heap.size + 1 + 1 = g := by omega
  replace hnx := hnx W1.drew
  have HR := hd (HS.out.kept ((Below.refl _ W1).drew))
  have hs1 : ∀ (W : World) (i : Nat) (u : Value) (j : Nat), (W.setCell ⟨w.heap.size + 1, i, none⟩ u).cell? ⟨w.heap.size, j, none⟩ = W.cell? ⟨w.heap.size, j, none⟩ := fun W i u j => World.cell?_of_block (Below.heap_setCell _ _ _ _ (by simp only; omega))
  have hs2 : ∀ (W : World) (i : Nat) (u : Value) (j : Nat), (W.setCell ⟨w.heap.size + 1 + 1, i, none⟩ u).cell? ⟨w.heap.size, j, none⟩ = W.cell? ⟨w.heap.size, j, none⟩ := fun W i u j => World.cell?_of_block (Below.heap_setCell _ _ _ _ (by simp only; omega))
  have hs3 : ∀ (W : World) (i : Nat) (u : Value) (j : Nat), (W.setCell ⟨w.heap.size + 1, i, none⟩ u).cell? ⟨g, j, none⟩ = W.cell? ⟨g, j, none⟩ := fun W i u j => World.cell?_of_block (Below.heap_setCell _ _ _ _ (by simp only; omega))
  have hs4 : ∀ (W : World) (i : Nat) (u : Value) (j : Nat), (W.setCell ⟨w.heap.size + 1 + 1, i, none⟩ u).cell? ⟨g, j, none⟩ = W.cell? ⟨g, j, none⟩ := fun W i u j => World.cell?_of_block (Below.heap_setCell _ _ _ _ (by simp only; omega))
  go_upto_region 14 with fail
  go_region_held3 (fun w' => w'.cell? ⟨w.heap.size, 0, none⟩ = some (.int .i64 c.pc) ∧ w'.cell? ⟨w.heap.size, 1, none⟩ = some (.int .i64 (c.r 0)) ∧ w'.cell? ⟨w.heap.size, 2, none⟩ = some (.int .i64 (c.r 1)) ∧ w'.cell? ⟨w.heap.size, 3, none⟩ = some (.int .i64 (c.r 2)) ∧ w'.cell? ⟨w.heap.size, 4, none⟩ = some (.int .i64 (c.r 3)) ∧ w'.cell? ⟨w.heap.size, 5, none⟩ = some (.int .i64 (c.r 4)) ∧ w'.cell? ⟨w.heap.size, 6, none⟩ = some (.int .i64 (c.r 5)) ∧ w'.cell? ⟨w.heap.size, 7, none⟩ = some (.int .i64 (c.r 6)) ∧ w'.cell? ⟨w.heap.size, 8, none⟩ = some (.int .i64 (c.r 7)) ∧ w'.cell? ⟨g, 1, none⟩ = some (.int .i64 a) ∧ w'.cell? ⟨w.heap.size, 1 + a, none⟩ = some (.int .i64 (c.r a))) (go_keep)
    (first
      | (go_at_call 16; refine hnx.mono ?_; rintro e w2 ⟨rfl, b2⟩
         have HT := hd (HR.out.kept b2)
         obtain ⟨i0, i1, i2, i3, i4⟩ := HT.out.x10.ci
         obtain ⟨c0, c1, c2, c3, c4, c5, c6, c7, c8⟩ := HT.out.x4.cs
         have ra := HT.out.x4.reg a HA.out
         obtain ⟨z0, z1, z2, z3, z4, z5, z6, z7, z8⟩ := HT.out.x8.cz
         obtain ⟨y0, y1, y2⟩ := Box.cw (k := 0) (u := 0) (v := 0) HT.out.x9
         have f8 := HT.out.x8.fr
         have f9 := HT.out.x9.fr
         clear b2))
  clear HS HR
  have HS := HT
  clear HT
  have HE := hd (HS.out.ends D 5 0 (c.r a))
  clear HS
  go_wp2
  unfold put9 put3 at HE
  clear i0 i1 i2 i3 i4 c0 c1 c2 c3 c4 c5 c6 c7 c8 z0 z1 z2 z3 z4 z5 z6 z7 z8 y0 y1 y2 f8 f9 ra rb rd HN1 HN2 HN3 HN4
  obtain ⟨R8, R9, RB⟩ := HE.out
  obtain ⟨c0, c1, c2, c3, c4, c5, c6, c7, c8⟩ := R8.cs
  obtain ⟨y0, y1, y2⟩ := R9.cw
  refine bodyPost_ret ?_ rfl ⟨rfl, RB⟩
  clear R8 R9 RB
  generalize World.setCell _ _ _ = Wf at *
  simp [results, Tryd.results8, go_sem, c0, c1, c2, c3, c4, c5, c6, c7, c8, y0, y1, y2]

set_option maxRecDepth 100000 in
set_option maxHeartbeats 2000000 in
theorem ds_unlock (c : Core) (ad : Option Addr) (n cap : Nat) (tick self : Int) (w : World) (hF : Fld w) (op imm : Int) (a b d : Nat) (ha : a < 8) (hb : b < 8) (hd' : d < 8)
    (hat : Calls Tryd.prog 21 #[coreV c, .slice ad n cap] (((w.alloc (.cells (coreA c) 33)).alloc (.cells zeroC 33)).alloc (.cells zeroW 34)) fun e w' => e = .returned (.tuple #[insV ⟨op, a, b, d, imm⟩, .bool true]) ∧ Below (((w.alloc (.cells (coreA c) 33)).alloc (.cells zeroC 33)).alloc (.cells zeroW 34)).heap.size (((w.alloc (.cells (coreA c) 33)).alloc (.cells zeroC 33)).alloc (.cells zeroW 34)) w') (hop : op = 30) :
    Calls Tryd.prog 8 #[coreV c, .slice ad n cap, .int .i64 tick, .int .i64 self] w fun e w' => e = .returned (.tuple #[coreV c.next, wantV 8 imm 0]) ∧ Below w.heap.size w w' := by
  subst hop
  obtain ⟨D, hD⟩ : ∃ D, Hid (c.next = D) := ⟨_, rfl⟩
  have hnx := rnext_any c
  rw [hD.out] at hnx ⊢
  clear hD
  have HS := hd (fun w1 => StB.mk' (w1 := w1) (tc := 33) (tw := 34) (c := c) ⟨30, a, b, d, imm⟩ hF)
  have HA := hd ha
  have HBb := hd hb
  have HDd := hd hd'
  have la : (a : Int) < 8 := by omega
  have lb : (b : Int) < 8 := by omega
  have ld : (d : Int) < 8 := by omega
  clear hF ha hb hd'
  unfold wantV wantA
  unfold insV at *
  unfold coreV at *
  unfold coreA zeroC zeroW at *
  go_enter Tryd.func8, Tryd.ntmps8
  go_upto_region 2 with (first | (go_at_call 21; refine hat.mono ?_; rintro e w1 ⟨rfl, b1⟩))
  replace HS := hd (HS.out w1 b1)
  clear hat b1
  unfold insA at HS
  simp only at HS
  obtain ⟨g, hg⟩ : ∃ g, Hid (w1.heap.size = g) := ⟨_, rfl⟩
  obtain ⟨W1, hW1⟩ : ∃ W, Hid (w1.alloc (.cells #[.int .i64 30, .int .i64 a, .int .i64 b, .int .i64 d, .int .i64 imm] 28) = W) := ⟨_, rfl⟩
  rw [hW1.out] at HS ⊢
  rw [hg.out] at HS ⊢
  clear hW1 hg
  obtain ⟨i0, i1, i2, i3, i4⟩ := HS.out.x10.ci
  obtain ⟨c0, c1, c2, c3, c4, c5, c6, c7, c8⟩ := HS.out.x4.cs
  have ra := HS.out.x4.reg a HA.out
  have rb := HS.out.x4.reg b HBb.out
  have rd := HS.out.x4.reg d HDd.out
  have HN1 : ¬ g = w.heap.size + 1 := by have := HS.out.g3; omega
  have HN2 : ¬ w.heap.size + 1 = g := by omega
  have HN3 : ¬ g = w.heap.size + 1 + 1 := by have := HS.out.g3; omega
  have HN4 : ¬ w.heap.size + 1 + 1 = g := by omega
  replace hnx := hnx W1.drew
  have HR := hd (HS.out.kept ((Below.refl _ W1).drew))
  have hs1 : ∀ (W : World) (i : Nat) (u : Value) (j : Nat), (W.setCell ⟨w.heap.size + 1, i, none⟩ u).cell? ⟨w.heap.size, j, none⟩ = W.cell? ⟨w.heap.size, j, none⟩ := fun W i u j => World.cell?_of_block (Below.heap_setCell _ _ _ _ (by simp only; omega))
  have hs2 : ∀ (W : World) (i : Nat) (u : Value) (j : Nat), (W.setCell ⟨w.heap.size + 1 + 1, i, none⟩ u).cell? ⟨w.heap.size, j, none⟩ = W.cell? ⟨w.heap.size, j, none⟩ := fun W i u j => World.cell?_of_block (Below.heap_setCell _ _ _ _ (by simp only; omega))
  have hs3 : ∀ (W : World) (i : Nat) (u : Value) (j : Nat), (W.setCell ⟨w.heap.size + 1, i, none⟩ u).cell? ⟨g, j, none⟩ = W.cell? ⟨g, j, none⟩ := fun W i u j => World.cell?_of_block (Below.heap_setCell _ _ _ _ (by simp only; omega))
  have hs4 : ∀ (W : World) (i : Nat) (u : Value) (j : Nat), (W.setCell ⟨w.heap.size + 1 + 1, i, none⟩ u).cell? ⟨g, j, none⟩ = W.cell? ⟨g, j, none⟩ := fun W i u j => World.cell?_of_block (Below.heap_setCell _ _ _ _ (by simp only; omega))
  go_upto_region 20 with fail
  go_region_held3 (fun w' => w'.cell? ⟨w.heap.size, 0, none⟩ = some (.int .i64 c.pc) ∧ w'.cell? ⟨w.heap.size, 1, none⟩ = some (.int .i64 (c.r 0)) ∧ w'.cell? ⟨w.heap.size, 2, none⟩ = some (.int .i64 (c.r 1)) ∧ w'.cell? ⟨w.heap.size, 3, none⟩ = some (.int .i64 (c.r 2)) ∧ w'.cell? ⟨w.heap.size, 4, none⟩ = some (.int .i64 (c.r 3)) ∧ w'.cell? ⟨w.heap.size, 5, none⟩ = some (.int .i64 (c.r 4)) ∧ w'.cell? ⟨w.heap.size, 6, none⟩ = some (.int .i64 (c.r 5)) ∧ w'.cell? ⟨w.heap.size, 7, none⟩ = some (.int .i64 (c.r 6)) ∧ w'.cell? ⟨w.heap.size, 8, none⟩ = some (.int .i64 (c.r 7)) ∧ w'.cell? ⟨g, 4, none⟩ = some (.int .i64 imm)) (go_keep)
    (first
      | (go_at_call 16; refine hnx.mono ?_; rintro e w2 ⟨rfl, b2⟩
         have HT := hd (HR.out.kept b2)
         obtain ⟨i0, i1, i2, i3, i4⟩ := HT.out.x10.ci
         obtain ⟨c0, c1, c2, c3, c4, c5, c6, c7, c8⟩ := HT.out.x4.cs
         have ra := HT.out.x4.reg a HA.out
         obtain ⟨z0, z1, z2, z3, z4, z5, z6, z7, z8⟩ := HT.out.x8.cz
         obtain ⟨y0, y1, y2⟩ := Box.cw (k := 0) (u := 0) (v := 0) HT.out.x9
         have f8 := HT.out.x8.fr
         have f9 := HT.out.x9.fr
         clear b2))
  clear HS HR
  have HS := HT
  clear HT
  have HE := hd (HS.out.ends D 8 imm 0)
  clear HS
  go_wp2
  unfold put9 put3 at HE
  clear i0 i1 i2 i3 i4 c0 c1 c2 c3 c4 c5 c6 c7 c8 z0 z1 z2 z3 z4 z5 z6 z7 z8 y0 y1 y2 f8 f9 ra rb rd HN1 HN2 HN3 HN4
  obtain ⟨R8, R9, RB⟩ := HE.out
  obtain ⟨c0, c1, c2, c3, c4, c5, c6, c7, c8⟩ := R8.cs
  obtain ⟨y0, y1, y2⟩ := R9.cw
  refine bodyPost_ret ?_ rfl ⟨rfl, RB⟩
  clear R8 R9 RB
  generalize World.setCell _ _ _ = Wf at *
  simp [results, Tryd.results8, go_sem, c0, c1, c2, c3, c4, c5, c6, c7, c8, y0, y1, y2]

set_option maxRecDepth 100000 in
set_option maxHeartbeats 2000000 in
theorem ds_out (c : Core) (ad : Option Addr) (n cap : Nat) (tick self : Int) (w : World) (hF : Fld w) (op imm : Int) (a b d : Nat) (ha : a < 8) (hb : b < 8) (hd' : d < 8)
    (hat : Calls Tryd.prog 21 #[coreV c, .slice ad n cap] (((w.alloc (.cells (coreA c) 33)).alloc (.cells zeroC 33)).alloc (.cells zeroW 34)) fun e w' => e = .returned (.tuple #[insV ⟨op, a, b, d, imm⟩, .bool true]) ∧ Below (((w.alloc (.cells (coreA c) 33)).alloc (.cells zeroC 33)).alloc (.cells zeroW 34)).heap.size (((w.alloc (.cells (coreA c) 33)).alloc (.cells zeroC 33)).alloc (.cells zeroW 34)) w') (hop : op = 31) :
    Calls Tryd.prog 8 #[coreV c, .slice ad n cap, .int .i64 tick, .int .i64 self] w fun e w' => e = .returned (.tuple #[coreV c.next, wantV 9 0 (c.r a)]) ∧ Below w.heap.size w w' := by
  subst hop
  obtain ⟨D, hD⟩ : ∃ D, Hid (c.next = D) := ⟨_, rfl⟩
  have hnx := rnext_any c
  rw [hD.out] at hnx ⊢
  clear hD
  have HS := hd (fun w1 => StB.mk' (w1 := w1) (tc := 33) (tw := 34) (c := c) ⟨31, a, b, d, imm⟩ hF)
  have HA := hd ha
  have HBb := hd hb
  have HDd := hd hd'
  have la : (a : Int) < 8 := by omega
  have lb : (b : Int) < 8 := by omega
  have ld : (d : Int) < 8 := by omega
  clear hF ha hb hd'
  unfold wantV wantA
  unfold insV at *
  unfold coreV at *
  unfold coreA zeroC zeroW at *
  go_enter Tryd.func8, Tryd.ntmps8
  go_upto_region 2 with (first | (go_at_call 21; refine hat.mono ?_; rintro e w1 ⟨rfl, b1⟩))
  replace HS := hd (HS.out w1 b1)
  clear hat b1
  unfold insA at HS
  simp only at HS
  obtain ⟨g, hg⟩ : ∃ g, Hid (w1.heap.size = g) := ⟨_, rfl⟩
  obtain ⟨W1, hW1⟩ : ∃ W, Hid (w1.alloc (.cells #[.int .i64 31, .int .i64 a, .int .i64 b, .int .i64 d, .int .i64 imm] 28) = W) := ⟨_, rfl⟩
  rw [hW1.out] at HS ⊢
  rw [hg.out] at HS ⊢
  clear hW1 hg
  obtain ⟨i0, i1, i2, i3, i4⟩ := HS.out.x10.ci
  obtain ⟨c0, c1, c2, c3, c4, c5, c6, c7, c8⟩ := HS.out.x4.cs
  have ra := HS.out.x4.reg a HA.out
  have rb := HS.out.x4.reg b HBb.out
  have rd := HS.out.x4.reg d HDd.out
  have HN1 : ¬ g = w.heap.size + 1 := by have := HS.out.g3; omega
  have HN2 : ¬ w.heap.size + 1 = g := by omega
  have HN3 : ¬ g = w.heap.size + 1 + 1 := by have := HS.out.g3; omega
  have HN4 : ¬ w.heap.size + 1 + 1 = g := by omega
  replace hnx := hnx W1.drew
  have HR := hd (HS.out.kept ((Below.refl _ W1).drew))
  have hs1 : ∀ (W : World) (i : Nat) (u : Value) (j : Nat), (W.setCell ⟨w.heap.size + 1, i, none⟩ u).cell? ⟨w.heap.size, j, none⟩ = W.cell? ⟨w.heap.size, j, none⟩ := fun W i u j => World.cell?_of_block (Below.heap_setCell _ _ _ _ (by simp only; omega))
  have hs2 : ∀ (W : World) (i : Nat) (u : Value) (j : Nat), (W.setCell ⟨w.heap.size + 1 + 1, i, none⟩ u).cell? ⟨w.heap.size, j, none⟩ = W.cell? ⟨w.heap.size, j, none⟩ := fun W i u j => World.cell?_of_block (Below.heap_setCell _ _ _ _ (by simp only; omega))
  have hs3 : ∀ (W : World) (i : Nat) (u : Value) (j : Nat), (W.setCell ⟨w.heap.size + 1, i, none⟩ u).cell? ⟨g, j, none⟩ = W.cell? ⟨g, j, none⟩ := fun W i u j => World.cell?_of_block (Below.heap_setCell _ _ _ _ (by simp only; omega))
  have hs4 : ∀ (W : World) (i : Nat) (u : Value) (j : Nat), (W.setCell ⟨w.heap.size + 1 + 1, i, none⟩ u).cell? ⟨g, j, none⟩ = W.cell? ⟨g, j, none⟩ := fun W i u j => World.cell?_of_block (Below.heap_setCell _ _ _ _ (by simp only; omega))
  go_upto_region 22 with fail
  go_region_held3 (fun w' => w'.cell? ⟨w.heap.size, 0, none⟩ = some (.int .i64 c.pc) ∧ w'.cell? ⟨w.heap.size, 1, none⟩ = some (.int .i64 (c.r 0)) ∧ w'.cell? ⟨w.heap.size, 2, none⟩ = some (.int .i64 (c.r 1)) ∧ w'.cell? ⟨w.heap.size, 3, none⟩ = some (.int .i64 (c.r 2)) ∧ w'.cell? ⟨w.heap.size, 4, none⟩ = some (.int .i64 (c.r 3)) ∧ w'.cell? ⟨w.heap.size, 5, none⟩ = some (.int .i64 (c.r 4)) ∧ w'.cell? ⟨w.heap.size, 6, none⟩ = some (.int .i64 (c.r 5)) ∧ w'.cell? ⟨w.heap.size, 7, none⟩ = some (.int .i64 (c.r 6)) ∧ w'.cell? ⟨w.heap.size, 8, none⟩ = some (.int .i64 (c.r 7)) ∧ w'.cell? ⟨g, 1, none⟩ = some (.int .i64 a) ∧ w'.cell? ⟨w.heap.size, 1 + a, none⟩ = some (.int .i64 (c.r a))) (go_keep)
    (first
      | (go_at_call 16; refine hnx.mono ?_; rintro e w2 ⟨rfl, b2⟩
         have HT := hd (HR.out.kept b2)
         obtain ⟨i0, i1, i2, i3, i4⟩ := HT.out.x10.ci
         obtain ⟨c0, c1, c2, c3, c4, c5, c6, c7, c8⟩ := HT.out.x4.cs
         have ra := HT.out.x4.reg a HA.out
         obtain ⟨z0, z1, z2, z3, z4, z5, z6, z7, z8⟩ := HT.out.x8.cz
         obtain ⟨y0, y1, y2⟩ := Box.cw (k := 0) (u := 0) (v := 0) HT.out.x9
         have f8 := HT.out.x8.fr
         have f9 := HT.out.x9.fr
         clear b2))
  clear HS HR
  have HS := HT
  clear HT
  have HE := hd (HS.out.ends D 9 0 (c.r a))
  clear HS
  go_wp2
  unfold put9 put3 at HE
  clear i0 i1 i2 i3 i4 c0 c1 c2 c3 c4 c5 c6 c7 c8 z0 z1 z2 z3 z4 z5 z6 z7 z8 y0 y1 y2 f8 f9 ra rb rd HN1 HN2 HN3 HN4
  obtain ⟨R8, R9, RB⟩ := HE.out
  obtain ⟨c0, c1, c2, c3, c4, c5, c6, c7, c8⟩ := R8.cs
  obtain ⟨y0, y1, y2⟩ := R9.cw
  refine bodyPost_ret ?_ rfl ⟨rfl, RB⟩
  clear R8 R9 RB
  generalize World.setCell _ _ _ = Wf at *
  simp [results, Tryd.results8, go_sem, c0, c1, c2, c3, c4, c5, c6, c7, c8, y0, y1, y2]

set_option maxRecDepth 100000 in
set_option maxHeartbeats 2000000 in
theorem ds_reck (c : Core) (ad : Option Addr) (n cap : Nat) (tick self : Int) (w : World) (hF : Fld w) (op imm : Int) (a b d : Nat) (ha : a < 8) (hb : b < 8) (hd' : d < 8)
    (hat : Calls Tryd.prog 21 #[coreV c, .slice ad n cap] (((w.alloc (.cells (coreA c) 33)).alloc (.cells zeroC 33)).alloc (.cells zeroW 34)) fun e w' => e = .returned (.tuple #[insV ⟨op, a, b, d, imm⟩, .bool true]) ∧ Below (((w.alloc (.cells (coreA c) 33)).alloc (.cells zeroC 33)).alloc (.cells zeroW 34)).heap.size (((w.alloc (.cells (coreA c) 33)).alloc (.cells zeroC 33)).alloc (.cells zeroW 34)) w') (n0 : op ≠ 0) (n1 : op < 24 ∨ 31 < op) (D : Core) (hre : ∀ W : World, Calls Tryd.prog 22 #[coreV c, insV ⟨op, a, b, d, imm⟩, .int .i64 tick, .int .i64 self] W fun e w' => e = .returned (coreV D) ∧ Below W.heap.size W w') :
    Calls Tryd.prog 8 #[coreV c, .slice ad n cap, .int .i64 tick, .int .i64 self] w fun e w' => e = .returned (.tuple #[coreV D, wantV 0 0 0]) ∧ Below w.heap.size w w' := by
  have m0 : (op == 0) = false := by simp; omega
  have m1 : (op == 24) = false := by simp; omega
  have m2 : (op == 25) = false := by simp; omega
  have m3 : (op == 26) = false := by simp; omega
  have m4 : (op == 27) = false := by simp; omega
  have m5 : (op == 28) = false := by simp; omega
  have m6 : (op == 29) = false := by simp; omega
  have m7 : (op == 30) = false := by simp; omega
  have m8 : (op == 31) = false := by simp; omega
  clear n0 n1
  have HS := hd (fun w1 => StB.mk' (w1 := w1) (tc := 33) (tw := 34) (c := c) ⟨op, a, b, d, imm⟩ hF)
  have HA := hd ha
  have HBb := hd hb
  have HDd := hd hd'
  have la : (a : Int) < 8 := by omega
  have lb : (b : Int) < 8 := by omega
  have ld : (d : Int) < 8 := by omega
  clear hF ha hb hd'
  unfold wantV wantA
  unfold insV at *
  unfold coreV at *
  unfold coreA zeroC zeroW at *
  go_enter Tryd.func8, Tryd.ntmps8
  go_upto_region 2 with (first | (go_at_call 21; refine hat.mono ?_; rintro e w1 ⟨rfl, b1⟩))
  replace HS := hd (HS.out w1 b1)
  clear hat b1
  unfold insA at HS
  simp only at HS
  obtain ⟨g, hg⟩ : ∃ g, Hid (w1.heap.size = g) := ⟨_, rfl⟩
  obtain ⟨W1, hW1⟩ : ∃ W, Hid (w1.alloc (.cells #[.int .i64 op, .int .i64 a, .int .i64 b, .int .i64 d, .int .i64 imm] 28) = W) := ⟨_, rfl⟩
  rw [hW1.out] at HS ⊢
  rw [hg.out] at HS ⊢
  clear hW1 hg
  obtain ⟨i0, i1, i2, i3, i4⟩ := HS.out.x10.ci
  obtain ⟨c0, c1, c2, c3, c4, c5, c6, c7, c8⟩ := HS.out.x4.cs
  have ra := HS.out.x4.reg a HA.out
  have rb := HS.out.x4.reg b HBb.out
  have rd := HS.out.x4.reg d HDd.out
  have HN1 : ¬ g = w.heap.size + 1 := by have := HS.out.g3; omega
  have HN2 : ¬ w.heap.size + 1 = g := by omega
  have HN3 : ¬ g = w.heap.size + 1 + 1 := by have := HS.out.g3; omega
  have HN4 : ¬ w.heap.size + 1 + 1 = g := by omega
  replace hre := hre W1
  go_upto_region 23 with fail
  go_wp2_with (go_at_call 22; refine hre.mono ?_; rintro e w2 ⟨rfl, b2⟩; have HT := hd (HS.out.kept b2); obtain ⟨z0, z1, z2, z3, z4, z5, z6, z7, z8⟩ := HT.out.x8.cz; obtain ⟨y0, y1, y2⟩ := Box.cw (k := 0) (u := 0) (v := 0) HT.out.x9; have f8 := HT.out.x8.fr; have f9 := HT.out.x9.fr)
  have HE := hd (HT.out.ends D 0 0 0)
  clear HS HT b2
  unfold put9 put3 at HE
  clear i0 i1 i2 i3 i4 c0 c1 c2 c3 c4 c5 c6 c7 c8 z0 z1 z2 z3 z4 z5 z6 z7 z8 y0 y1 y2 f8 f9 ra rb rd HN1 HN2 HN3 HN4
  obtain ⟨R8, R9, RB⟩ := HE.out
  obtain ⟨c0, c1, c2, c3, c4, c5, c6, c7, c8⟩ := R8.cs
  obtain ⟨y0, y1, y2⟩ := R9.cw
  refine bodyPost_ret ?_ rfl ⟨rfl, RB⟩
  clear R8 R9 RB
  generalize World.setCell _ _ _ = Wf at *
  simp [results, Tryd.results8, go_sem, c0, c1, c2, c3, c4, c5, c6, c7, c8, y0, y1, y2]

end Go.Proofs.YtfkdaimhdjaefaaDoor

/- The document's Step where an instruction may not stand. -/
namespace Go.Proofs.YtfkdaimhdjaefaaDoor
open Go.RowKit

set_option maxRecDepth 100000 in
set_option maxHeartbeats 2000000 in
theorem ds_bad (c : Core) (ad : Option Addr) (n cap : Nat) (tick self : Int) (w : World) (hF : Fld w) (x : Ins)
    (hat : Calls Tryd.prog 21 #[coreV c, .slice ad n cap] (((w.alloc (.cells (coreA c) 33)).alloc (.cells zeroC 33)).alloc (.cells zeroW 34)) fun e w' => e = .returned (.tuple #[insV x, .bool false]) ∧ Below (((w.alloc (.cells (coreA c) 33)).alloc (.cells zeroC 33)).alloc (.cells zeroW 34)).heap.size (((w.alloc (.cells (coreA c) 33)).alloc (.cells zeroC 33)).alloc (.cells zeroW 34)) w')  :
    Calls Tryd.prog 8 #[coreV c, .slice ad n cap, .int .i64 tick, .int .i64 self] w fun e w' => e = .returned (.tuple #[coreV c, wantV 1 0 0]) ∧ Below w.heap.size w w' := by
  have HS := hd (fun w1 => StB.mk' (w1 := w1) (tc := 33) (tw := 34) (c := c) x hF)
  clear hF
  unfold wantV wantA
  unfold insV at *
  unfold coreV at *
  unfold coreA zeroC zeroW at *
  go_enter Tryd.func8, Tryd.ntmps8
  go_upto_region 2 with (first | (go_at_call 21; refine hat.mono ?_; rintro e w1 ⟨rfl, b1⟩))
  replace HS := hd (HS.out w1 b1)
  clear hat b1
  unfold insA at HS
  obtain ⟨g, hg⟩ : ∃ g, Hid (w1.heap.size = g) := ⟨_, rfl⟩
  obtain ⟨W1, hW1⟩ : ∃ W, Hid (w1.alloc (.cells #[.int .i64 x.op, .int .i64 x.a, .int .i64 x.b, .int .i64 x.c, .int .i64 x.imm] 28) = W) := ⟨_, rfl⟩
  rw [hW1.out] at HS ⊢
  rw [hg.out] at HS ⊢
  clear hW1 hg
  obtain ⟨i0, i1, i2, i3, i4⟩ := HS.out.x10.ci
  obtain ⟨c0, c1, c2, c3, c4, c5, c6, c7, c8⟩ := HS.out.x4.cs
  have HN1 : ¬ g = w.heap.size + 1 := by have := HS.out.g3; omega
  have HN2 : ¬ w.heap.size + 1 = g := by omega
  have HN3 : ¬ g = w.heap.size + 1 + 1 := by have := HS.out.g3; omega
  have HN4 : ¬ w.heap.size + 1 + 1 = g := by omega
  obtain ⟨z0, z1, z2, z3, z4, z5, z6, z7, z8⟩ := HS.out.x8.cz
  obtain ⟨y0, y1, y2⟩ := Box.cw (k := 0) (u := 0) (v := 0) HS.out.x9
  have f8 := HS.out.x8.fr
  have f9 := HS.out.x9.fr
  have HE := hd (HS.out.ends c 1 0 0)
  clear HS
  go_wp2
  unfold put9 put3 at HE
  clear i0 i1 i2 i3 i4 c0 c1 c2 c3 c4 c5 c6 c7 c8 z0 z1 z2 z3 z4 z5 z6 z7 z8 y0 y1 y2 f8 f9 HN1 HN2 HN3 HN4
  obtain ⟨R8, R9, RB⟩ := HE.out
  obtain ⟨c0, c1, c2, c3, c4, c5, c6, c7, c8⟩ := R8.cs
  obtain ⟨y0, y1, y2⟩ := R9.cw
  refine bodyPost_ret ?_ rfl ⟨rfl, RB⟩
  clear R8 R9 RB
  generalize World.setCell _ _ _ = Wf at *
  simp [results, Tryd.results8, go_sem, c0, c1, c2, c3, c4, c5, c6, c7, c8, y0, y1, y2]

end Go.Proofs.YtfkdaimhdjaefaaDoor
