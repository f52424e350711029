/- The document's reckoning with two numbers. -/
import Derived.Test.YtfkdaimhdjaefaaDoorUF
import Derived.Test.YtfkdaimhdjaefaaDoorU6b
import Derived.Deep.RegionHeld3
namespace Go.Proofs.YtfkdaimhdjaefaaDoor
open Go.RowKit

set_option maxRecDepth 100000 in
set_option maxHeartbeats 2000000 in
theorem rk_alu (c : Core) (op imm tick self : Int) (a b d : Nat) (ha : a < 8) (hb : b < 8) (hd' : d < 8) (n1 : 3 ≤ op) (n2 : op ≤ 14) (hfb : Alu.Fits (c.r b)) (hfd : Alu.Fits (c.r d)) (w : World) :
    Calls Tryd.prog 22 #[coreV c, insV ⟨op, a, b, d, imm⟩, .int .i64 tick, .int .i64 self] w fun e w' => e = .returned (coreV ((c.set a (reckL op (c.r b) (c.r d))).next)) ∧ Below w.heap.size w w' := by
  have hre := ralu_reck op (c.r b) (c.r d) n1 n2 hfb hfd
  obtain ⟨V, hV⟩ : ∃ V, Hid (reckL op (c.r b) (c.r d) = V) := ⟨_, rfl⟩
  rw [hV.out] at hre ⊢
  clear hV hfb hfd
  have m0 : (op == 1) = false := by simp; omega
  have m1 : (op == 2) = false := by simp; omega
  have m2 : (op == 22) = false := by simp; omega
  have m3 : (op == 23) = false := by simp; omega
  have m4 : (op == 32) = false := by simp; omega
  have m5 : (op == 33) = false := by simp; omega
  have m6 : (op == 15) = false := by simp; omega
  have m7 : (op == 16) = false := by simp; omega
  have m8 : (op == 17) = false := by simp; omega
  have m9 : (op == 18) = false := by simp; omega
  have m10 : (op == 19) = false := by simp; omega
  have m11 : (op == 20) = false := by simp; omega
  have m12 : (op == 21) = false := by simp; omega
  clear n1 n2
  rw [show (c.set a V).next = c.next.set a V from rfl]
  obtain ⟨D, hD⟩ : ∃ D, Hid (c.next.set a V = D) := ⟨_, rfl⟩
  rw [hD.out]
  have HA := hd ha
  have HBb := hd hb
  have HDd := hd hd'
  have HS := hd (StR.new w c ⟨op, a, b, d, imm⟩ c.next)
  have la : (a : Int) < 8 := by omega
  have lb : (b : Int) < 8 := by omega
  have ld : (d : Int) < 8 := by omega
  clear ha hb hd'
  unfold insA zeroC at HS
  unfold coreV insV
  rw [show coreA c.next = #[.int .i64 (wrap64 (c.pc + 1)), .int .i64 (c.r 0), .int .i64 (c.r 1), .int .i64 (c.r 2), .int .i64 (c.r 3), .int .i64 (c.r 4), .int .i64 (c.r 5), .int .i64 (c.r 6), .int .i64 (c.r 7)] from rfl] at HS
  unfold coreA at *
  simp only at HS
  go_enter Tryd.func22, Tryd.ntmps22
  go_upto_region 3 with fail
  obtain ⟨W1, hW1⟩ : ∃ W, Hid (World.alloc (World.alloc (World.alloc (World.alloc w (.cells #[.int .i64 c.pc, .int .i64 (c.r 0), .int .i64 (c.r 1), .int .i64 (c.r 2), .int .i64 (c.r 3), .int .i64 (c.r 4), .int .i64 (c.r 5), .int .i64 (c.r 6), .int .i64 (c.r 7)] 33)) (.cells #[.int .i64 op, .int .i64 a, .int .i64 b, .int .i64 d, .int .i64 imm] 28)) (.cells #[.int .i64 0, .int .i64 0, .int .i64 0, .int .i64 0, .int .i64 0, .int .i64 0, .int .i64 0, .int .i64 0, .int .i64 0] 33)) (.cells #[.int .i64 (wrap64 (c.pc + 1)), .int .i64 (c.r 0), .int .i64 (c.r 1), .int .i64 (c.r 2), .int .i64 (c.r 3), .int .i64 (c.r 4), .int .i64 (c.r 5), .int .i64 (c.r 6), .int .i64 (c.r 7)] 33) = W) := ⟨_, rfl⟩
  rw [hW1.out] at HS ⊢
  clear hW1
  obtain ⟨i0, i1, i2, i3, i4⟩ := HS.out.x5.ci
  have rb := HS.out.x4.reg b HBb.out
  have rd := HS.out.x4.reg d HDd.out
  have HR := hd (HS.out.kept ((Below.refl _ W1).drew))
  have hs4 : ∀ (W : World) (i : Nat) (u : Value) (j : Nat), (W.setCell ⟨w.heap.size + 1 + 1 + 1, i, none⟩ u).cell? ⟨w.heap.size, j, none⟩ = W.cell? ⟨w.heap.size, j, none⟩ := fun W i u j => World.cell?_of_block (Below.heap_setCell _ _ _ _ (by simp only; omega))
  have hs5 : ∀ (W : World) (i : Nat) (u : Value) (j : Nat), (W.setCell ⟨w.heap.size + 1 + 1 + 1, i, none⟩ u).cell? ⟨w.heap.size + 1, j, none⟩ = W.cell? ⟨w.heap.size + 1, j, none⟩ := fun W i u j => World.cell?_of_block (Below.heap_setCell _ _ _ _ (by simp only; omega))
  replace hre := hre W1.drew
  go_upto_region 4 with fail
  go_region_held3 (fun w' => w'.cell? ⟨w.heap.size + 1, 0, none⟩ = some (.int .i64 op) ∧ w'.cell? ⟨w.heap.size + 1, 1, none⟩ = some (.int .i64 a) ∧ w'.cell? ⟨w.heap.size + 1, 2, none⟩ = some (.int .i64 b) ∧ w'.cell? ⟨w.heap.size + 1, 3, none⟩ = some (.int .i64 d) ∧ w'.cell? ⟨w.heap.size, 1 + b, none⟩ = some (.int .i64 (c.r b)) ∧ w'.cell? ⟨w.heap.size, 1 + d, none⟩ = some (.int .i64 (c.r d))) (go_keep)
    (first
      | (go_at_call 30; refine hre.mono ?_; rintro e w2 ⟨rfl, b2⟩
         have HT := hd (HR.out.kept b2)
         obtain ⟨i0, i1, i2, i3, i4⟩ := HT.out.x5.ci
         have rb := HT.out.x4.reg b HBb.out
         have rd := HT.out.x4.reg d HDd.out
         have na := HT.out.x9.reg a HA.out
         have f9 := HT.out.x9.fr
         clear b2))
  go_upto_region 27 with fail
  clear i0 i1 i2 i3 i4 rb rd na f9 HR HS hs4 hs5
  have HS := HT
  clear HT
  obtain ⟨W4, hW4⟩ : ∃ W, Hid (w2.setCell ⟨w.heap.size + 1 + 1 + 1, 1 + a, none⟩ (.int .i64 V) = W) := ⟨_, rfl⟩
  have HS4 := hd (HS.out.core (Oth.setCell _ _ _ _) (HS.out.x9.set a HA.out V))
  rw [hW4.out] at HS4
  rw [hW4.out]
  clear HS hW4
  have HS := HS4
  clear HS4
  rw [hD.out] at HS
  obtain ⟨c0, c1, c2, c3, c4, c5, c6, c7, c8⟩ := HS.out.x9.cs
  obtain ⟨z0, z1, z2, z3, z4, z5, z6, z7, z8⟩ := HS.out.x8.cz
  have f8 := HS.out.x8.fr
  have HE := hd (HS.out.ends D)
  clear HS
  go_wp2
  unfold put9 at HE
  clear c0 c1 c2 c3 c4 c5 c6 c7 c8 z0 z1 z2 z3 z4 z5 z6 z7 z8 f8
  obtain ⟨R8, RB⟩ := HE.out
  obtain ⟨c0, c1, c2, c3, c4, c5, c6, c7, c8⟩ := R8.cs
  refine bodyPost_ret ?_ rfl ⟨rfl, RB⟩
  clear R8 RB
  generalize World.setCell _ _ _ = Wf at *
  simp [results, Tryd.results22, go_sem, c0, c1, c2, c3, c4, c5, c6, c7, c8]

set_option maxRecDepth 100000 in
set_option maxHeartbeats 2000000 in
theorem rk_flt_15 (c : Core) (imm tick self : Int) (a b d : Nat) (ha : a < 8) (hb : b < 8) (hd' : d < 8) (hfb : Alu.Fits (c.r b)) (_hfd : Alu.Fits (c.r d)) (w : World) :
    Calls Tryd.prog 22 #[coreV c, insV ⟨15, a, b, d, imm⟩, .int .i64 tick, .int .i64 self] w fun e w' => e = .returned (coreV ((c.set a (reckL 15 (c.r b) (c.r d))).next)) ∧ Below w.heap.size w w' := by
  have hre := rflt_reck 15 (c.r b) (c.r d) (by omega) (by omega) hfb
  obtain ⟨V, hV⟩ : ∃ V, Hid (reckL 15 (c.r b) (c.r d) = V) := ⟨_, rfl⟩
  rw [hV.out] at hre ⊢
  clear hV hfb
  rw [show (c.set a V).next = c.next.set a V from rfl]
  obtain ⟨D, hD⟩ : ∃ D, Hid (c.next.set a V = D) := ⟨_, rfl⟩
  rw [hD.out]
  have HA := hd ha
  have HBb := hd hb
  have HDd := hd hd'
  have HS := hd (StR.new w c ⟨15, a, b, d, imm⟩ c.next)
  have la : (a : Int) < 8 := by omega
  have lb : (b : Int) < 8 := by omega
  have ld : (d : Int) < 8 := by omega
  clear ha hb hd'
  unfold insA zeroC at HS
  unfold coreV insV
  rw [show coreA c.next = #[.int .i64 (wrap64 (c.pc + 1)), .int .i64 (c.r 0), .int .i64 (c.r 1), .int .i64 (c.r 2), .int .i64 (c.r 3), .int .i64 (c.r 4), .int .i64 (c.r 5), .int .i64 (c.r 6), .int .i64 (c.r 7)] from rfl] at HS
  unfold coreA at *
  simp only at HS
  go_enter Tryd.func22, Tryd.ntmps22
  go_upto_region 3 with fail
  obtain ⟨W1, hW1⟩ : ∃ W, Hid (World.alloc (World.alloc (World.alloc (World.alloc w (.cells #[.int .i64 c.pc, .int .i64 (c.r 0), .int .i64 (c.r 1), .int .i64 (c.r 2), .int .i64 (c.r 3), .int .i64 (c.r 4), .int .i64 (c.r 5), .int .i64 (c.r 6), .int .i64 (c.r 7)] 33)) (.cells #[.int .i64 15, .int .i64 a, .int .i64 b, .int .i64 d, .int .i64 imm] 28)) (.cells #[.int .i64 0, .int .i64 0, .int .i64 0, .int .i64 0, .int .i64 0, .int .i64 0, .int .i64 0, .int .i64 0, .int .i64 0] 33)) (.cells #[.int .i64 (wrap64 (c.pc + 1)), .int .i64 (c.r 0), .int .i64 (c.r 1), .int .i64 (c.r 2), .int .i64 (c.r 3), .int .i64 (c.r 4), .int .i64 (c.r 5), .int .i64 (c.r 6), .int .i64 (c.r 7)] 33) = W) := ⟨_, rfl⟩
  rw [hW1.out] at HS ⊢
  clear hW1
  obtain ⟨i0, i1, i2, i3, i4⟩ := HS.out.x5.ci
  have rb := HS.out.x4.reg b HBb.out
  have rd := HS.out.x4.reg d HDd.out
  have HR := hd (HS.out.kept ((Below.refl _ W1).drew))
  have hs4 : ∀ (W : World) (i : Nat) (u : Value) (j : Nat), (W.setCell ⟨w.heap.size + 1 + 1 + 1, i, none⟩ u).cell? ⟨w.heap.size, j, none⟩ = W.cell? ⟨w.heap.size, j, none⟩ := fun W i u j => World.cell?_of_block (Below.heap_setCell _ _ _ _ (by simp only; omega))
  have hs5 : ∀ (W : World) (i : Nat) (u : Value) (j : Nat), (W.setCell ⟨w.heap.size + 1 + 1 + 1, i, none⟩ u).cell? ⟨w.heap.size + 1, j, none⟩ = W.cell? ⟨w.heap.size + 1, j, none⟩ := fun W i u j => World.cell?_of_block (Below.heap_setCell _ _ _ _ (by simp only; omega))
  replace hre := hre W1.drew
  go_upto_region 23 with fail
  go_region_held3 (fun w' => w'.cell? ⟨w.heap.size + 1, 0, none⟩ = some (.int .i64 15) ∧ w'.cell? ⟨w.heap.size + 1, 1, none⟩ = some (.int .i64 a) ∧ w'.cell? ⟨w.heap.size + 1, 2, none⟩ = some (.int .i64 b) ∧ w'.cell? ⟨w.heap.size + 1, 3, none⟩ = some (.int .i64 d) ∧ w'.cell? ⟨w.heap.size, 1 + b, none⟩ = some (.int .i64 (c.r b)) ∧ w'.cell? ⟨w.heap.size, 1 + d, none⟩ = some (.int .i64 (c.r d))) (go_keep)
    (first
      | (go_at_call 29; refine hre.mono ?_; rintro e w2 ⟨rfl, b2⟩
         have HT := hd (HR.out.kept b2)
         obtain ⟨i0, i1, i2, i3, i4⟩ := HT.out.x5.ci
         have rb := HT.out.x4.reg b HBb.out
         have rd := HT.out.x4.reg d HDd.out
         have na := HT.out.x9.reg a HA.out
         have f9 := HT.out.x9.fr
         clear b2))
  go_upto_region 27 with fail
  clear i0 i1 i2 i3 i4 rb rd na f9 HR HS hs4 hs5
  have HS := HT
  clear HT
  obtain ⟨W4, hW4⟩ : ∃ W, Hid (w2.setCell ⟨w.heap.size + 1 + 1 + 1, 1 + a, none⟩ (.int .i64 V) = W) := ⟨_, rfl⟩
  have HS4 := hd (HS.out.core (Oth.setCell _ _ _ _) (HS.out.x9.set a HA.out V))
  rw [hW4.out] at HS4
  rw [hW4.out]
  clear HS hW4
  have HS := HS4
  clear HS4
  rw [hD.out] at HS
  obtain ⟨c0, c1, c2, c3, c4, c5, c6, c7, c8⟩ := HS.out.x9.cs
  obtain ⟨z0, z1, z2, z3, z4, z5, z6, z7, z8⟩ := HS.out.x8.cz
  have f8 := HS.out.x8.fr
  have HE := hd (HS.out.ends D)
  clear HS
  go_wp2
  unfold put9 at HE
  clear c0 c1 c2 c3 c4 c5 c6 c7 c8 z0 z1 z2 z3 z4 z5 z6 z7 z8 f8
  obtain ⟨R8, RB⟩ := HE.out
  obtain ⟨c0, c1, c2, c3, c4, c5, c6, c7, c8⟩ := R8.cs
  refine bodyPost_ret ?_ rfl ⟨rfl, RB⟩
  clear R8 RB
  generalize World.setCell _ _ _ = Wf at *
  simp [results, Tryd.results22, go_sem, c0, c1, c2, c3, c4, c5, c6, c7, c8]

set_option maxRecDepth 100000 in
set_option maxHeartbeats 2000000 in
theorem rk_flt_16 (c : Core) (imm tick self : Int) (a b d : Nat) (ha : a < 8) (hb : b < 8) (hd' : d < 8) (hfb : Alu.Fits (c.r b)) (_hfd : Alu.Fits (c.r d)) (w : World) :
    Calls Tryd.prog 22 #[coreV c, insV ⟨16, a, b, d, imm⟩, .int .i64 tick, .int .i64 self] w fun e w' => e = .returned (coreV ((c.set a (reckL 16 (c.r b) (c.r d))).next)) ∧ Below w.heap.size w w' := by
  have hre := rflt_reck 16 (c.r b) (c.r d) (by omega) (by omega) hfb
  obtain ⟨V, hV⟩ : ∃ V, Hid (reckL 16 (c.r b) (c.r d) = V) := ⟨_, rfl⟩
  rw [hV.out] at hre ⊢
  clear hV hfb
  rw [show (c.set a V).next = c.next.set a V from rfl]
  obtain ⟨D, hD⟩ : ∃ D, Hid (c.next.set a V = D) := ⟨_, rfl⟩
  rw [hD.out]
  have HA := hd ha
  have HBb := hd hb
  have HDd := hd hd'
  have HS := hd (StR.new w c ⟨16, a, b, d, imm⟩ c.next)
  have la : (a : Int) < 8 := by omega
  have lb : (b : Int) < 8 := by omega
  have ld : (d : Int) < 8 := by omega
  clear ha hb hd'
  unfold insA zeroC at HS
  unfold coreV insV
  rw [show coreA c.next = #[.int .i64 (wrap64 (c.pc + 1)), .int .i64 (c.r 0), .int .i64 (c.r 1), .int .i64 (c.r 2), .int .i64 (c.r 3), .int .i64 (c.r 4), .int .i64 (c.r 5), .int .i64 (c.r 6), .int .i64 (c.r 7)] from rfl] at HS
  unfold coreA at *
  simp only at HS
  go_enter Tryd.func22, Tryd.ntmps22
  go_upto_region 3 with fail
  obtain ⟨W1, hW1⟩ : ∃ W, Hid (World.alloc (World.alloc (World.alloc (World.alloc w (.cells #[.int .i64 c.pc, .int .i64 (c.r 0), .int .i64 (c.r 1), .int .i64 (c.r 2), .int .i64 (c.r 3), .int .i64 (c.r 4), .int .i64 (c.r 5), .int .i64 (c.r 6), .int .i64 (c.r 7)] 33)) (.cells #[.int .i64 16, .int .i64 a, .int .i64 b, .int .i64 d, .int .i64 imm] 28)) (.cells #[.int .i64 0, .int .i64 0, .int .i64 0, .int .i64 0, .int .i64 0, .int .i64 0, .int .i64 0, .int .i64 0, .int .i64 0] 33)) (.cells #[.int .i64 (wrap64 (c.pc + 1)), .int .i64 (c.r 0), .int .i64 (c.r 1), .int .i64 (c.r 2), .int .i64 (c.r 3), .int .i64 (c.r 4), .int .i64 (c.r 5), .int .i64 (c.r 6), .int .i64 (c.r 7)] 33) = W) := ⟨_, rfl⟩
  rw [hW1.out] at HS ⊢
  clear hW1
  obtain ⟨i0, i1, i2, i3, i4⟩ := HS.out.x5.ci
  have rb := HS.out.x4.reg b HBb.out
  have rd := HS.out.x4.reg d HDd.out
  have HR := hd (HS.out.kept ((Below.refl _ W1).drew))
  have hs4 : ∀ (W : World) (i : Nat) (u : Value) (j : Nat), (W.setCell ⟨w.heap.size + 1 + 1 + 1, i, none⟩ u).cell? ⟨w.heap.size, j, none⟩ = W.cell? ⟨w.heap.size, j, none⟩ := fun W i u j => World.cell?_of_block (Below.heap_setCell _ _ _ _ (by simp only; omega))
  have hs5 : ∀ (W : World) (i : Nat) (u : Value) (j : Nat), (W.setCell ⟨w.heap.size + 1 + 1 + 1, i, none⟩ u).cell? ⟨w.heap.size + 1, j, none⟩ = W.cell? ⟨w.heap.size + 1, j, none⟩ := fun W i u j => World.cell?_of_block (Below.heap_setCell _ _ _ _ (by simp only; omega))
  replace hre := hre W1.drew
  go_upto_region 23 with fail
  go_region_held3 (fun w' => w'.cell? ⟨w.heap.size + 1, 0, none⟩ = some (.int .i64 16) ∧ w'.cell? ⟨w.heap.size + 1, 1, none⟩ = some (.int .i64 a) ∧ w'.cell? ⟨w.heap.size + 1, 2, none⟩ = some (.int .i64 b) ∧ w'.cell? ⟨w.heap.size + 1, 3, none⟩ = some (.int .i64 d) ∧ w'.cell? ⟨w.heap.size, 1 + b, none⟩ = some (.int .i64 (c.r b)) ∧ w'.cell? ⟨w.heap.size, 1 + d, none⟩ = some (.int .i64 (c.r d))) (go_keep)
    (first
      | (go_at_call 29; refine hre.mono ?_; rintro e w2 ⟨rfl, b2⟩
         have HT := hd (HR.out.kept b2)
         obtain ⟨i0, i1, i2, i3, i4⟩ := HT.out.x5.ci
         have rb := HT.out.x4.reg b HBb.out
         have rd := HT.out.x4.reg d HDd.out
         have na := HT.out.x9.reg a HA.out
         have f9 := HT.out.x9.fr
         clear b2))
  go_upto_region 27 with fail
  clear i0 i1 i2 i3 i4 rb rd na f9 HR HS hs4 hs5
  have HS := HT
  clear HT
  obtain ⟨W4, hW4⟩ : ∃ W, Hid (w2.setCell ⟨w.heap.size + 1 + 1 + 1, 1 + a, none⟩ (.int .i64 V) = W) := ⟨_, rfl⟩
  have HS4 := hd (HS.out.core (Oth.setCell _ _ _ _) (HS.out.x9.set a HA.out V))
  rw [hW4.out] at HS4
  rw [hW4.out]
  clear HS hW4
  have HS := HS4
  clear HS4
  rw [hD.out] at HS
  obtain ⟨c0, c1, c2, c3, c4, c5, c6, c7, c8⟩ := HS.out.x9.cs
  obtain ⟨z0, z1, z2, z3, z4, z5, z6, z7, z8⟩ := HS.out.x8.cz
  have f8 := HS.out.x8.fr
  have HE := hd (HS.out.ends D)
  clear HS
  go_wp2
  unfold put9 at HE
  clear c0 c1 c2 c3 c4 c5 c6 c7 c8 z0 z1 z2 z3 z4 z5 z6 z7 z8 f8
  obtain ⟨R8, RB⟩ := HE.out
  obtain ⟨c0, c1, c2, c3, c4, c5, c6, c7, c8⟩ := R8.cs
  refine bodyPost_ret ?_ rfl ⟨rfl, RB⟩
  clear R8 RB
  generalize World.setCell _ _ _ = Wf at *
  simp [results, Tryd.results22, go_sem, c0, c1, c2, c3, c4, c5, c6, c7, c8]

end Go.Proofs.YtfkdaimhdjaefaaDoor
