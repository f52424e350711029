/- The document's reckoning with two numbers (continued). -/
import Derived.Test.YtfkdaimhdjaefaaDoorU6b
import Derived.Test.YtfkdaimhdjaefaaDoorUF
import Derived.Deep.RegionHeld3
namespace Go.Proofs.YtfkdaimhdjaefaaDoor
open Go.RowKit

set_option maxRecDepth 100000 in
set_option maxHeartbeats 2000000 in
theorem rk_flt_17 (c : Core) (imm tick self : Int) (a b d : Nat) (ha : a < 8) (hb : b < 8) (hd' : d < 8) (hfb : Alu.Fits (c.r b)) (_hfd : Alu.Fits (c.r d)) (w : World) :
    Calls Tryd.prog 22 #[coreV c, insV ⟨17, a, b, d, imm⟩, .int .i64 tick, .int .i64 self] w fun e w' => e = .returned (coreV ((c.set a (reckL 17 (c.r b) (c.r d))).next)) ∧ Below w.heap.size w w' := by
  have hre := rflt_reck 17 (c.r b) (c.r d) (by omega) (by omega) hfb
  obtain ⟨V, hV⟩ : ∃ V, Hid (reckL 17 (c.r b) (c.r d) = V) := ⟨_, rfl⟩
  rw [hV.out] at hre ⊢
  clear hV hfb
  rw [show (c.set a V).next = c.next.set a V from rfl]
  obtain ⟨D, hD⟩ : ∃ D, Hid (c.next.set a V = D) := ⟨_, rfl⟩
  rw [hD.out]
  have HA := hd ha
  have HBb := hd hb
  have HDd := hd hd'
  have HS := hd (StR.new w c ⟨17, a, b, d, imm⟩ c.next)
  have la : (a : Int) < 8 := by omega
  have lb : (b : Int) < 8 := by omega
  have ld : (d : Int) < 8 := by omega
  clear ha hb hd'
  unfold insA zeroC at HS
  unfold coreV insV
  rw [show coreA c.next = #[.int .i64 (wrap64 (c.pc + 1)), .int .i64 (c.r 0), .int .i64 (c.r 1), .int .i64 (c.r 2), .int .i64 (c.r 3), .int .i64 (c.r 4), .int .i64 (c.r 5), .int .i64 (c.r 6), .int .i64 (c.r 7)] from rfl] at HS
  unfold coreA at *
  simp only at HS
  go_enter Tryd.func22, Tryd.ntmps22
  go_upto_region 3 with fail
  obtain ⟨W1, hW1⟩ : ∃ W, Hid (World.alloc (World.alloc (World.alloc (World.alloc w (.cells #[.int .i64 c.pc, .int .i64 (c.r 0), .int .i64 (c.r 1), .int .i64 (c.r 2), .int .i64 (c.r 3), .int .i64 (c.r 4), .int .i64 (c.r 5), .int .i64 (c.r 6), .int .i64 (c.r 7)] 33)) (.cells #[.int .i64 17, .int .i64 a, .int .i64 b, .int .i64 d, .int .i64 imm] 28)) (.cells #[.int .i64 0, .int .i64 0, .int .i64 0, .int .i64 0, .int .i64 0, .int .i64 0, .int .i64 0, .int .i64 0, .int .i64 0] 33)) (.cells #[.int .i64 (wrap64 (c.pc + 1)), .int .i64 (c.r 0), .int .i64 (c.r 1), .int .i64 (c.r 2), .int .i64 (c.r 3), .int .i64 (c.r 4), .int .i64 (c.r 5), .int .i64 (c.r 6), .int .i64 (c.r 7)] 33) = W) := ⟨_, rfl⟩
  rw [hW1.out] at HS ⊢
  clear hW1
  obtain ⟨i0, i1, i2, i3, i4⟩ := HS.out.x5.ci
  have rb := HS.out.x4.reg b HBb.out
  have rd := HS.out.x4.reg d HDd.out
  have HR := hd (HS.out.kept ((Below.refl _ W1).drew))
  have hs4 : ∀ (W : World) (i : Nat) (u : Value) (j : Nat), (W.setCell ⟨w.heap.size + 1 + 1 + 1, i, none⟩ u).cell? ⟨w.heap.size, j, none⟩ = W.cell? ⟨w.heap.size, j, none⟩ := fun W i u j => World.cell?_of_block (Below.heap_setCell _ _ _ _ (by simp only; omega))
  have hs5 : ∀ (W : World) (i : Nat) (u : Value) (j : Nat), (W.setCell ⟨w.heap.size + 1 + 1 + 1, i, none⟩ u).cell? ⟨w.heap.size + 1, j, none⟩ = W.cell? ⟨w.heap.size + 1, j, none⟩ := fun W i u j => World.cell?_of_block (Below.heap_setCell _ _ _ _ (by simp only; omega))
  replace hre := hre W1.drew
  go_upto_region 23 with fail
  go_region_held3 (fun w' => w'.cell? ⟨w.heap.size + 1, 0, none⟩ = some (.int .i64 17) ∧ w'.cell? ⟨w.heap.size + 1, 1, none⟩ = some (.int .i64 a) ∧ w'.cell? ⟨w.heap.size + 1, 2, none⟩ = some (.int .i64 b) ∧ w'.cell? ⟨w.heap.size + 1, 3, none⟩ = some (.int .i64 d) ∧ w'.cell? ⟨w.heap.size, 1 + b, none⟩ = some (.int .i64 (c.r b)) ∧ w'.cell? ⟨w.heap.size, 1 + d, none⟩ = some (.int .i64 (c.r d))) (go_keep)
    (first
      | (go_at_call 29; refine hre.mono ?_; rintro e w2 ⟨rfl, b2⟩
         have HT := hd (HR.out.kept b2)
         obtain ⟨i0, i1, i2, i3, i4⟩ := HT.out.x5.ci
         have rb := HT.out.x4.reg b HBb.out
         have rd := HT.out.x4.reg d HDd.out
         have na := HT.out.x9.reg a HA.out
         have f9 := HT.out.x9.fr
         clear b2))
  go_upto_region 27 with fail
  clear i0 i1 i2 i3 i4 rb rd na f9 HR HS hs4 hs5
  have HS := HT
  clear HT
  obtain ⟨W4, hW4⟩ : ∃ W, Hid (w2.setCell ⟨w.heap.size + 1 + 1 + 1, 1 + a, none⟩ (.int .i64 V) = W) := ⟨_, rfl⟩
  have HS4 := hd (HS.out.core (Oth.setCell _ _ _ _) (HS.out.x9.set a HA.out V))
  rw [hW4.out] at HS4
  rw [hW4.out]
  clear HS hW4
  have HS := HS4
  clear HS4
  rw [hD.out] at HS
  obtain ⟨c0, c1, c2, c3, c4, c5, c6, c7, c8⟩ := HS.out.x9.cs
  obtain ⟨z0, z1, z2, z3, z4, z5, z6, z7, z8⟩ := HS.out.x8.cz
  have f8 := HS.out.x8.fr
  have HE := hd (HS.out.ends D)
  clear HS
  go_wp2
  unfold put9 at HE
  clear c0 c1 c2 c3 c4 c5 c6 c7 c8 z0 z1 z2 z3 z4 z5 z6 z7 z8 f8
  obtain ⟨R8, RB⟩ := HE.out
  obtain ⟨c0, c1, c2, c3, c4, c5, c6, c7, c8⟩ := R8.cs
  refine bodyPost_ret ?_ rfl ⟨rfl, RB⟩
  clear R8 RB
  generalize World.setCell _ _ _ = Wf at *
  simp [results, Tryd.results22, go_sem, c0, c1, c2, c3, c4, c5, c6, c7, c8]

set_option maxRecDepth 100000 in
set_option maxHeartbeats 2000000 in
theorem rk_flt_18 (c : Core) (imm tick self : Int) (a b d : Nat) (ha : a < 8) (hb : b < 8) (hd' : d < 8) (hfb : Alu.Fits (c.r b)) (_hfd : Alu.Fits (c.r d)) (w : World) :
    Calls Tryd.prog 22 #[coreV c, insV ⟨18, a, b, d, imm⟩, .int .i64 tick, .int .i64 self] w fun e w' => e = .returned (coreV ((c.set a (reckL 18 (c.r b) (c.r d))).next)) ∧ Below w.heap.size w w' := by
  have hre := rflt_reck 18 (c.r b) (c.r d) (by omega) (by omega) hfb
  obtain ⟨V, hV⟩ : ∃ V, Hid (reckL 18 (c.r b) (c.r d) = V) := ⟨_, rfl⟩
  rw [hV.out] at hre ⊢
  clear hV hfb
  rw [show (c.set a V).next = c.next.set a V from rfl]
  obtain ⟨D, hD⟩ : ∃ D, Hid (c.next.set a V = D) := ⟨_, rfl⟩
  rw [hD.out]
  have HA := hd ha
  have HBb := hd hb
  have HDd := hd hd'
  have HS := hd (StR.new w c ⟨18, a, b, d, imm⟩ c.next)
  have la : (a : Int) < 8 := by omega
  have lb : (b : Int) < 8 := by omega
  have ld : (d : Int) < 8 := by omega
  clear ha hb hd'
  unfold insA zeroC at HS
  unfold coreV insV
  rw [show coreA c.next = #[.int .i64 (wrap64 (c.pc + 1)), .int .i64 (c.r 0), .int .i64 (c.r 1), .int .i64 (c.r 2), .int .i64 (c.r 3), .int .i64 (c.r 4), .int .i64 (c.r 5), .int .i64 (c.r 6), .int .i64 (c.r 7)] from rfl] at HS
  unfold coreA at *
  simp only at HS
  go_enter Tryd.func22, Tryd.ntmps22
  go_upto_region 3 with fail
  obtain ⟨W1, hW1⟩ : ∃ W, Hid (World.alloc (World.alloc (World.alloc (World.alloc w (.cells #[.int .i64 c.pc, .int .i64 (c.r 0), .int .i64 (c.r 1), .int .i64 (c.r 2), .int .i64 (c.r 3), .int .i64 (c.r 4), .int .i64 (c.r 5), .int .i64 (c.r 6), .int .i64 (c.r 7)] 33)) (.cells #[.int .i64 18, .int .i64 a, .int .i64 b, .int .i64 d, .int .i64 imm] 28)) (.cells #[.int .i64 0, .int .i64 0, .int .i64 0, .int .i64 0, .int .i64 0, .int .i64 0, .int .i64 0, .int .i64 0, .int .i64 0] 33)) (.cells #[.int .i64 (wrap64 (c.pc + 1)), .int .i64 (c.r 0), .int .i64 (c.r 1), .int .i64 (c.r 2), .int .i64 (c.r 3), .int .i64 (c.r 4), .int .i64 (c.r 5), .int .i64 (c.r 6), .int .i64 (c.r 7)] 33) = W) := ⟨_, rfl⟩
  rw [hW1.out] at HS ⊢
  clear hW1
  obtain ⟨i0, i1, i2, i3, i4⟩ := HS.out.x5.ci
  have rb := HS.out.x4.reg b HBb.out
  have rd := HS.out.x4.reg d HDd.out
  have HR := hd (HS.out.kept ((Below.refl _ W1).drew))
  have hs4 : ∀ (W : World) (i : Nat) (u : Value) (j : Nat), (W.setCell ⟨w.heap.size + 1 + 1 + 1, i, none⟩ u).cell? ⟨w.heap.size, j, none⟩ = W.cell? ⟨w.heap.size, j, none⟩ := fun W i u j => World.cell?_of_block (Below.heap_setCell _ _ _ _ (by simp only; omega))
  have hs5 : ∀ (W : World) (i : Nat) (u : Value) (j : Nat), (W.setCell ⟨w.heap.size + 1 + 1 + 1, i, none⟩ u).cell? ⟨w.heap.size + 1, j, none⟩ = W.cell? ⟨w.heap.size + 1, j, none⟩ := fun W i u j => World.cell?_of_block (Below.heap_setCell _ _ _ _ (by simp only; omega))
  replace hre := hre W1.drew
  go_upto_region 23 with fail
  go_region_held3 (fun w' => w'.cell? ⟨w.heap.size + 1, 0, none⟩ = some (.int .i64 18) ∧ w'.cell? ⟨w.heap.size + 1, 1, none⟩ = some (.int .i64 a) ∧ w'.cell? ⟨w.heap.size + 1, 2, none⟩ = some (.int .i64 b) ∧ w'.cell? ⟨w.heap.size + 1, 3, none⟩ = some (.int .i64 d) ∧ w'.cell? ⟨w.heap.size, 1 + b, none⟩ = some (.int .i64 (c.r b)) ∧ w'.cell? ⟨w.heap.size, 1 + d, none⟩ = some (.int .i64 (c.r d))) (go_keep)
    (first
      | (go_at_call 29; refine hre.mono ?_; rintro e w2 ⟨rfl, b2⟩
         have HT := hd (HR.out.kept b2)
         obtain ⟨i0, i1, i2, i3, i4⟩ := HT.out.x5.ci
         have rb := HT.out.x4.reg b HBb.out
         have rd := HT.out.x4.reg d HDd.out
         have na := HT.out.x9.reg a HA.out
         have f9 := HT.out.x9.fr
         clear b2))
  go_upto_region 27 with fail
  clear i0 i1 i2 i3 i4 rb rd na f9 HR HS hs4 hs5
  have HS := HT
  clear HT
  obtain ⟨W4, hW4⟩ : ∃ W, Hid (w2.setCell ⟨w.heap.size + 1 + 1 + 1, 1 + a, none⟩ (.int .i64 V) = W) := ⟨_, rfl⟩
  have HS4 := hd (HS.out.core (Oth.setCell _ _ _ _) (HS.out.x9.set a HA.out V))
  rw [hW4.out] at HS4
  rw [hW4.out]
  clear HS hW4
  have HS := HS4
  clear HS4
  rw [hD.out] at HS
  obtain ⟨c0, c1, c2, c3, c4, c5, c6, c7, c8⟩ := HS.out.x9.cs
  obtain ⟨z0, z1, z2, z3, z4, z5, z6, z7, z8⟩ := HS.out.x8.cz
  have f8 := HS.out.x8.fr
  have HE := hd (HS.out.ends D)
  clear HS
  go_wp2
  unfold put9 at HE
  clear c0 c1 c2 c3 c4 c5 c6 c7 c8 z0 z1 z2 z3 z4 z5 z6 z7 z8 f8
  obtain ⟨R8, RB⟩ := HE.out
  obtain ⟨c0, c1, c2, c3, c4, c5, c6, c7, c8⟩ := R8.cs
  refine bodyPost_ret ?_ rfl ⟨rfl, RB⟩
  clear R8 RB
  generalize World.setCell _ _ _ = Wf at *
  simp [results, Tryd.results22, go_sem, c0, c1, c2, c3, c4, c5, c6, c7, c8]

set_option maxRecDepth 100000 in
set_option maxHeartbeats 2000000 in
theorem rk_flt_19 (c : Core) (imm tick self : Int) (a b d : Nat) (ha : a < 8) (hb : b < 8) (hd' : d < 8) (hfb : Alu.Fits (c.r b)) (_hfd : Alu.Fits (c.r d)) (w : World) :
    Calls Tryd.prog 22 #[coreV c, insV ⟨19, a, b, d, imm⟩, .int .i64 tick, .int .i64 self] w fun e w' => e = .returned (coreV ((c.set a (reckL 19 (c.r b) (c.r d))).next)) ∧ Below w.heap.size w w' := by
  have hre := rflt_reck 19 (c.r b) (c.r d) (by omega) (by omega) hfb
  obtain ⟨V, hV⟩ : ∃ V, Hid (reckL 19 (c.r b) (c.r d) = V) := ⟨_, rfl⟩
  rw [hV.out] at hre ⊢
  clear hV hfb
  rw [show (c.set a V).next = c.next.set a V from rfl]
  obtain ⟨D, hD⟩ : ∃ D, Hid (c.next.set a V = D) := ⟨_, rfl⟩
  rw [hD.out]
  have HA := hd ha
  have HBb := hd hb
  have HDd := hd hd'
  have HS := hd (StR.new w c ⟨19, a, b, d, imm⟩ c.next)
  have la : (a : Int) < 8 := by omega
  have lb : (b : Int) < 8 := by omega
  have ld : (d : Int) < 8 := by omega
  clear ha hb hd'
  unfold insA zeroC at HS
  unfold coreV insV
  rw [show coreA c.next = #[.int .i64 (wrap64 (c.pc + 1)), .int .i64 (c.r 0), .int .i64 (c.r 1), .int .i64 (c.r 2), .int .i64 (c.r 3), .int .i64 (c.r 4), .int .i64 (c.r 5), .int .i64 (c.r 6), .int .i64 (c.r 7)] from rfl] at HS
  unfold coreA at *
  simp only at HS
  go_enter Tryd.func22, Tryd.ntmps22
  go_upto_region 3 with fail
  obtain ⟨W1, hW1⟩ : ∃ W, Hid (World.alloc (World.alloc (World.alloc (World.alloc w (.cells #[.int .i64 c.pc, .int .i64 (c.r 0), .int .i64 (c.r 1), .int .i64 (c.r 2), .int .i64 (c.r 3), .int .i64 (c.r 4), .int .i64 (c.r 5), .int .i64 (c.r 6), .int .i64 (c.r 7)] 33)) (.cells #[.int .i64 19, .int .i64 a, .int .i64 b, .int .i64 d, .int .i64 imm] 28)) (.cells #[.int .i64 0, .int .i64 0, .int .i64 0, .int .i64 0, .int .i64 0, .int .i64 0, .int .i64 0, .int .i64 0, .int .i64 0] 33)) (.cells #[.int .i64 (wrap64 (c.pc + 1)), .int .i64 (c.r 0), .int .i64 (c.r 1), .int .i64 (c.r 2), .int .i64 (c.r 3), .int .i64 (c.r 4), .int .i64 (c.r 5), .int .i64 (c.r 6), .int .i64 (c.r 7)] 33) = W) := ⟨_, rfl⟩
  rw [hW1.out] at HS ⊢
  clear hW1
  obtain ⟨i0, i1, i2, i3, i4⟩ := HS.out.x5.ci
  have rb := HS.out.x4.reg b HBb.out
  have rd := HS.out.x4.reg d HDd.out
  have HR := hd (HS.out.kept ((Below.refl _ W1).drew))
  have hs4 : ∀ (W : World) (i : Nat) (u : Value) (j : Nat), (W.setCell ⟨w.heap.size + 1 + 1 + 1, i, none⟩ u).cell? ⟨w.heap.size, j, none⟩ = W.cell? ⟨w.heap.size, j, none⟩ := fun W i u j => World.cell?_of_block (Below.heap_setCell _ _ _ _ (by simp only; omega))
  have hs5 : ∀ (W : World) (i : Nat) (u : Value) (j : Nat), (W.setCell ⟨w.heap.size + 1 + 1 + 1, i, none⟩ u).cell? ⟨w.heap.size + 1, j, none⟩ = W.cell? ⟨w.heap.size + 1, j, none⟩ := fun W i u j => World.cell?_of_block (Below.heap_setCell _ _ _ _ (by simp only; omega))
  replace hre := hre W1.drew
  go_upto_region 23 with fail
  go_region_held3 (fun w' => w'.cell? ⟨w.heap.size + 1, 0, none⟩ = some (.int .i64 19) ∧ w'.cell? ⟨w.heap.size + 1, 1, none⟩ = some (.int .i64 a) ∧ w'.cell? ⟨w.heap.size + 1, 2, none⟩ = some (.int .i64 b) ∧ w'.cell? ⟨w.heap.size + 1, 3, none⟩ = some (.int .i64 d) ∧ w'.cell? ⟨w.heap.size, 1 + b, none⟩ = some (.int .i64 (c.r b)) ∧ w'.cell? ⟨w.heap.size, 1 + d, none⟩ = some (.int .i64 (c.r d))) (go_keep)
    (first
      | (go_at_call 29; refine hre.mono ?_; rintro e w2 ⟨rfl, b2⟩
         have HT := hd (HR.out.kept b2)
         obtain ⟨i0, i1, i2, i3, i4⟩ := HT.out.x5.ci
         have rb := HT.out.x4.reg b HBb.out
         have rd := HT.out.x4.reg d HDd.out
         have na := HT.out.x9.reg a HA.out
         have f9 := HT.out.x9.fr
         clear b2))
  go_upto_region 27 with fail
  clear i0 i1 i2 i3 i4 rb rd na f9 HR HS hs4 hs5
  have HS := HT
  clear HT
  obtain ⟨W4, hW4⟩ : ∃ W, Hid (w2.setCell ⟨w.heap.size + 1 + 1 + 1, 1 + a, none⟩ (.int .i64 V) = W) := ⟨_, rfl⟩
  have HS4 := hd (HS.out.core (Oth.setCell _ _ _ _) (HS.out.x9.set a HA.out V))
  rw [hW4.out] at HS4
  rw [hW4.out]
  clear HS hW4
  have HS := HS4
  clear HS4
  rw [hD.out] at HS
  obtain ⟨c0, c1, c2, c3, c4, c5, c6, c7, c8⟩ := HS.out.x9.cs
  obtain ⟨z0, z1, z2, z3, z4, z5, z6, z7, z8⟩ := HS.out.x8.cz
  have f8 := HS.out.x8.fr
  have HE := hd (HS.out.ends D)
  clear HS
  go_wp2
  unfold put9 at HE
  clear c0 c1 c2 c3 c4 c5 c6 c7 c8 z0 z1 z2 z3 z4 z5 z6 z7 z8 f8
  obtain ⟨R8, RB⟩ := HE.out
  obtain ⟨c0, c1, c2, c3, c4, c5, c6, c7, c8⟩ := R8.cs
  refine bodyPost_ret ?_ rfl ⟨rfl, RB⟩
  clear R8 RB
  generalize World.setCell _ _ _ = Wf at *
  simp [results, Tryd.results22, go_sem, c0, c1, c2, c3, c4, c5, c6, c7, c8]

end Go.Proofs.YtfkdaimhdjaefaaDoor

/- The document's reckoning with two numbers (continued). -/
namespace Go.Proofs.YtfkdaimhdjaefaaDoor
open Go.RowKit

set_option maxRecDepth 100000 in
set_option maxHeartbeats 2000000 in
theorem rk_conv_20 (c : Core) (imm tick self : Int) (a b d : Nat) (ha : a < 8) (hb : b < 8) (hd' : d < 8) (hfb : Alu.Fits (c.r b)) (_hfd : Alu.Fits (c.r d)) (w : World) :
    Calls Tryd.prog 22 #[coreV c, insV ⟨20, a, b, d, imm⟩, .int .i64 tick, .int .i64 self] w fun e w' => e = .returned (coreV ((c.set a (reckL 20 (c.r b) (c.r d))).next)) ∧ Below w.heap.size w w' := by
  have hre := rflt_reck 20 (c.r b) 0 (by omega) (by omega) hfb
  rw [reck_conv 20 (c.r b) (c.r d) (by omega)] at hre
  obtain ⟨V, hV⟩ : ∃ V, Hid (reckL 20 (c.r b) (c.r d) = V) := ⟨_, rfl⟩
  rw [hV.out] at hre ⊢
  clear hV hfb
  rw [show (c.set a V).next = c.next.set a V from rfl]
  obtain ⟨D, hD⟩ : ∃ D, Hid (c.next.set a V = D) := ⟨_, rfl⟩
  rw [hD.out]
  have HA := hd ha
  have HBb := hd hb
  have HDd := hd hd'
  have HS := hd (StR.new w c ⟨20, a, b, d, imm⟩ c.next)
  have la : (a : Int) < 8 := by omega
  have lb : (b : Int) < 8 := by omega
  have ld : (d : Int) < 8 := by omega
  clear ha hb hd'
  unfold insA zeroC at HS
  unfold coreV insV
  rw [show coreA c.next = #[.int .i64 (wrap64 (c.pc + 1)), .int .i64 (c.r 0), .int .i64 (c.r 1), .int .i64 (c.r 2), .int .i64 (c.r 3), .int .i64 (c.r 4), .int .i64 (c.r 5), .int .i64 (c.r 6), .int .i64 (c.r 7)] from rfl] at HS
  unfold coreA at *
  simp only at HS
  go_enter Tryd.func22, Tryd.ntmps22
  go_upto_region 3 with fail
  obtain ⟨W1, hW1⟩ : ∃ W, Hid (World.alloc (World.alloc (World.alloc (World.alloc w (.cells #[.int .i64 c.pc, .int .i64 (c.r 0), .int .i64 (c.r 1), .int .i64 (c.r 2), .int .i64 (c.r 3), .int .i64 (c.r 4), .int .i64 (c.r 5), .int .i64 (c.r 6), .int .i64 (c.r 7)] 33)) (.cells #[.int .i64 20, .int .i64 a, .int .i64 b, .int .i64 d, .int .i64 imm] 28)) (.cells #[.int .i64 0, .int .i64 0, .int .i64 0, .int .i64 0, .int .i64 0, .int .i64 0, .int .i64 0, .int .i64 0, .int .i64 0] 33)) (.cells #[.int .i64 (wrap64 (c.pc + 1)), .int .i64 (c.r 0), .int .i64 (c.r 1), .int .i64 (c.r 2), .int .i64 (c.r 3), .int .i64 (c.r 4), .int .i64 (c.r 5), .int .i64 (c.r 6), .int .i64 (c.r 7)] 33) = W) := ⟨_, rfl⟩
  rw [hW1.out] at HS ⊢
  clear hW1
  obtain ⟨i0, i1, i2, i3, i4⟩ := HS.out.x5.ci
  have rb := HS.out.x4.reg b HBb.out
  have rd := HS.out.x4.reg d HDd.out
  have HR := hd (HS.out.kept ((Below.refl _ W1).drew))
  have hs4 : ∀ (W : World) (i : Nat) (u : Value) (j : Nat), (W.setCell ⟨w.heap.size + 1 + 1 + 1, i, none⟩ u).cell? ⟨w.heap.size, j, none⟩ = W.cell? ⟨w.heap.size, j, none⟩ := fun W i u j => World.cell?_of_block (Below.heap_setCell _ _ _ _ (by simp only; omega))
  have hs5 : ∀ (W : World) (i : Nat) (u : Value) (j : Nat), (W.setCell ⟨w.heap.size + 1 + 1 + 1, i, none⟩ u).cell? ⟨w.heap.size + 1, j, none⟩ = W.cell? ⟨w.heap.size + 1, j, none⟩ := fun W i u j => World.cell?_of_block (Below.heap_setCell _ _ _ _ (by simp only; omega))
  replace hre := hre W1.drew
  go_upto_region 26 with fail
  go_region_held3 (fun w' => w'.cell? ⟨w.heap.size + 1, 0, none⟩ = some (.int .i64 20) ∧ w'.cell? ⟨w.heap.size + 1, 1, none⟩ = some (.int .i64 a) ∧ w'.cell? ⟨w.heap.size + 1, 2, none⟩ = some (.int .i64 b) ∧ w'.cell? ⟨w.heap.size + 1, 3, none⟩ = some (.int .i64 d) ∧ w'.cell? ⟨w.heap.size, 1 + b, none⟩ = some (.int .i64 (c.r b)) ∧ w'.cell? ⟨w.heap.size, 1 + d, none⟩ = some (.int .i64 (c.r d))) (go_keep)
    (first
      | (go_at_call 29; refine hre.mono ?_; rintro e w2 ⟨rfl, b2⟩
         have HT := hd (HR.out.kept b2)
         obtain ⟨i0, i1, i2, i3, i4⟩ := HT.out.x5.ci
         have rb := HT.out.x4.reg b HBb.out
         have rd := HT.out.x4.reg d HDd.out
         have na := HT.out.x9.reg a HA.out
         have f9 := HT.out.x9.fr
         clear b2))
  go_upto_region 27 with fail
  clear i0 i1 i2 i3 i4 rb rd na f9 HR HS hs4 hs5
  have HS := HT
  clear HT
  obtain ⟨W4, hW4⟩ : ∃ W, Hid (w2.setCell ⟨w.heap.size + 1 + 1 + 1, 1 + a, none⟩ (.int .i64 V) = W) := ⟨_, rfl⟩
  have HS4 := hd (HS.out.core (Oth.setCell _ _ _ _) (HS.out.x9.set a HA.out V))
  rw [hW4.out] at HS4
  rw [hW4.out]
  clear HS hW4
  have HS := HS4
  clear HS4
  rw [hD.out] at HS
  obtain ⟨c0, c1, c2, c3, c4, c5, c6, c7, c8⟩ := HS.out.x9.cs
  obtain ⟨z0, z1, z2, z3, z4, z5, z6, z7, z8⟩ := HS.out.x8.cz
  have f8 := HS.out.x8.fr
  have HE := hd (HS.out.ends D)
  clear HS
  go_wp2
  unfold put9 at HE
  clear c0 c1 c2 c3 c4 c5 c6 c7 c8 z0 z1 z2 z3 z4 z5 z6 z7 z8 f8
  obtain ⟨R8, RB⟩ := HE.out
  obtain ⟨c0, c1, c2, c3, c4, c5, c6, c7, c8⟩ := R8.cs
  refine bodyPost_ret ?_ rfl ⟨rfl, RB⟩
  clear R8 RB
  generalize World.setCell _ _ _ = Wf at *
  simp [results, Tryd.results22, go_sem, c0, c1, c2, c3, c4, c5, c6, c7, c8]

set_option maxRecDepth 100000 in
set_option maxHeartbeats 2000000 in
theorem rk_conv_21 (c : Core) (imm tick self : Int) (a b d : Nat) (ha : a < 8) (hb : b < 8) (hd' : d < 8) (hfb : Alu.Fits (c.r b)) (_hfd : Alu.Fits (c.r d)) (w : World) :
    Calls Tryd.prog 22 #[coreV c, insV ⟨21, a, b, d, imm⟩, .int .i64 tick, .int .i64 self] w fun e w' => e = .returned (coreV ((c.set a (reckL 21 (c.r b) (c.r d))).next)) ∧ Below w.heap.size w w' := by
  have hre := rflt_reck 21 (c.r b) 0 (by omega) (by omega) hfb
  rw [reck_conv 21 (c.r b) (c.r d) (by omega)] at hre
  obtain ⟨V, hV⟩ : ∃ V, Hid (reckL 21 (c.r b) (c.r d) = V) := ⟨_, rfl⟩
  rw [hV.out] at hre ⊢
  clear hV hfb
  rw [show (c.set a V).next = c.next.set a V from rfl]
  obtain ⟨D, hD⟩ : ∃ D, Hid (c.next.set a V = D) := ⟨_, rfl⟩
  rw [hD.out]
  have HA := hd ha
  have HBb := hd hb
  have HDd := hd hd'
  have HS := hd (StR.new w c ⟨21, a, b, d, imm⟩ c.next)
  have la : (a : Int) < 8 := by omega
  have lb : (b : Int) < 8 := by omega
  have ld : (d : Int) < 8 := by omega
  clear ha hb hd'
  unfold insA zeroC at HS
  unfold coreV insV
  rw [show coreA c.next = #[.int .i64 (wrap64 (c.pc + 1)), .int .i64 (c.r 0), .int .i64 (c.r 1), .int .i64 (c.r 2), .int .i64 (c.r 3), .int .i64 (c.r 4), .int .i64 (c.r 5), .int .i64 (c.r 6), .int .i64 (c.r 7)] from rfl] at HS
  unfold coreA at *
  simp only at HS
  go_enter Tryd.func22, Tryd.ntmps22
  go_upto_region 3 with fail
  obtain ⟨W1, hW1⟩ : ∃ W, Hid (World.alloc (World.alloc (World.alloc (World.alloc w (.cells #[.int .i64 c.pc, .int .i64 (c.r 0), .int .i64 (c.r 1), .int .i64 (c.r 2), .int .i64 (c.r 3), .int .i64 (c.r 4), .int .i64 (c.r 5), .int .i64 (c.r 6), .int .i64 (c.r 7)] 33)) (.cells #[.int .i64 21, .int .i64 a, .int .i64 b, .int .i64 d, .int .i64 imm] 28)) (.cells #[.int .i64 0, .int .i64 0, .int .i64 0, .int .i64 0, .int .i64 0, .int .i64 0, .int .i64 0, .int .i64 0, .int .i64 0] 33)) (.cells #[.int .i64 (wrap64 (c.pc + 1)), .int .i64 (c.r 0), .int .i64 (c.r 1), .int .i64 (c.r 2), .int .i64 (c.r 3), .int .i64 (c.r 4), .int .i64 (c.r 5), .int .i64 (c.r 6), .int .i64 (c.r 7)] 33) = W) := ⟨_, rfl⟩
  rw [hW1.out] at HS ⊢
  clear hW1
  obtain ⟨i0, i1, i2, i3, i4⟩ := HS.out.x5.ci
  have rb := HS.out.x4.reg b HBb.out
  have rd := HS.out.x4.reg d HDd.out
  have HR := hd (HS.out.kept ((Below.refl _ W1).drew))
  have hs4 : ∀ (W : World) (i : Nat) (u : Value) (j : Nat), (W.setCell ⟨w.heap.size + 1 + 1 + 1, i, none⟩ u).cell? ⟨w.heap.size, j, none⟩ = W.cell? ⟨w.heap.size, j, none⟩ := fun W i u j => World.cell?_of_block (Below.heap_setCell _ _ _ _ (by simp only; omega))
  have hs5 : ∀ (W : World) (i : Nat) (u : Value) (j : Nat), (W.setCell ⟨w.heap.size + 1 + 1 + 1, i, none⟩ u).cell? ⟨w.heap.size + 1, j, none⟩ = W.cell? ⟨w.heap.size + 1, j, none⟩ := fun W i u j => World.cell?_of_block (Below.heap_setCell _ _ _ _ (by simp only; omega))
  replace hre := hre W1.drew
  go_upto_region 26 with fail
  go_region_held3 (fun w' => w'.cell? ⟨w.heap.size + 1, 0, none⟩ = some (.int .i64 21) ∧ w'.cell? ⟨w.heap.size + 1, 1, none⟩ = some (.int .i64 a) ∧ w'.cell? ⟨w.heap.size + 1, 2, none⟩ = some (.int .i64 b) ∧ w'.cell? ⟨w.heap.size + 1, 3, none⟩ = some (.int .i64 d) ∧ w'.cell? ⟨w.heap.size, 1 + b, none⟩ = some (.int .i64 (c.r b)) ∧ w'.cell? ⟨w.heap.size, 1 + d, none⟩ = some (.int .i64 (c.r d))) (go_keep)
    (first
      | (go_at_call 29; refine hre.mono ?_; rintro e w2 ⟨rfl, b2⟩
         have HT := hd (HR.out.kept b2)
         obtain ⟨i0, i1, i2, i3, i4⟩ := HT.out.x5.ci
         have rb := HT.out.x4.reg b HBb.out
         have rd := HT.out.x4.reg d HDd.out
         have na := HT.out.x9.reg a HA.out
         have f9 := HT.out.x9.fr
         clear b2))
  go_upto_region 27 with fail
  clear i0 i1 i2 i3 i4 rb rd na f9 HR HS hs4 hs5
  have HS := HT
  clear HT
  obtain ⟨W4, hW4⟩ : ∃ W, Hid (w2.setCell ⟨w.heap.size + 1 + 1 + 1, 1 + a, none⟩ (.int .i64 V) = W) := ⟨_, rfl⟩
  have HS4 := hd (HS.out.core (Oth.setCell _ _ _ _) (HS.out.x9.set a HA.out V))
  rw [hW4.out] at HS4
  rw [hW4.out]
  clear HS hW4
  have HS := HS4
  clear HS4
  rw [hD.out] at HS
  obtain ⟨c0, c1, c2, c3, c4, c5, c6, c7, c8⟩ := HS.out.x9.cs
  obtain ⟨z0, z1, z2, z3, z4, z5, z6, z7, z8⟩ := HS.out.x8.cz
  have f8 := HS.out.x8.fr
  have HE := hd (HS.out.ends D)
  clear HS
  go_wp2
  unfold put9 at HE
  clear c0 c1 c2 c3 c4 c5 c6 c7 c8 z0 z1 z2 z3 z4 z5 z6 z7 z8 f8
  obtain ⟨R8, RB⟩ := HE.out
  obtain ⟨c0, c1, c2, c3, c4, c5, c6, c7, c8⟩ := R8.cs
  refine bodyPost_ret ?_ rfl ⟨rfl, RB⟩
  clear R8 RB
  generalize World.setCell _ _ _ = Wf at *
  simp [results, Tryd.results22, go_sem, c0, c1, c2, c3, c4, c5, c6, c7, c8]

end Go.Proofs.YtfkdaimhdjaefaaDoor
