/- The document's reckoning. -/
import Derived.Test.YtfkdaimhdjaefaaDoorU7
namespace Go.Proofs.YtfkdaimhdjaefaaDoor
open Go.RowKit

/-- The boxes of the document's reckoning: the core, the instruction, the answer, the new core. -/
structure StR (w W : World) (c : Core) (x : Ins) (n : Core) : Prop where
  x4 : Box W 33 w.heap.size (coreA c)
  x5 : Box W 28 (w.heap.size + 1) (insA x)
  x8 : Box W 33 (w.heap.size + 1 + 1) zeroC
  x9 : Box W 33 (w.heap.size + 1 + 1 + 1) (coreA n)
  bel : Below w.heap.size w W
theorem StR.new (w : World) (c : Core) (x : Ins) (n : Core) : StR w ((((w.alloc (.cells (coreA c) 33)).alloc (.cells (insA x) 28)).alloc (.cells zeroC 33)).alloc (.cells (coreA n) 33)) c x n := by
  refine ⟨(((Box.new w _ (coreA c)).bel (below_al' _ _)).bel (below_al' _ _)).bel (below_al' _ _), ?_, ?_, ?_, (three_bel _ _ _ _).alloc (by simp; omega) _⟩
  · have h := ((Box.new (w.alloc (.cells (coreA c) 33)) 28 (insA x)).bel (below_al' _ (.cells zeroC 33))).bel (below_al' _ (.cells (coreA n) 33))
    simpa using h
  · have h := (Box.new ((w.alloc (.cells (coreA c) 33)).alloc (.cells (insA x) 28)) 33 zeroC).bel (below_al' _ (.cells (coreA n) 33))
    simpa using h
  · have h := Box.new (((w.alloc (.cells (coreA c) 33)).alloc (.cells (insA x) 28)).alloc (.cells zeroC 33)) 33 (coreA n)
    simpa using h
theorem StR.kept {w W W' : World} {c n : Core} {x : Ins} (h : StR w W c x n) (hb : Below W.heap.size W W') : StR w W' c x n :=
  ⟨h.x4.bel hb, h.x5.bel hb, h.x8.bel hb, h.x9.bel hb, h.bel.trans (hb.mono h.bel.size)⟩
theorem StR.core {w W W' : World} {c n m : Core} {x : Ins} (h : StR w W c x n) (ho : Oth (w.heap.size + 1 + 1 + 1) W W') (hx : Box W' 33 (w.heap.size + 1 + 1 + 1) (coreA m)) : StR w W' c x m :=
  ⟨h.x4.oth ho (by omega), h.x5.oth ho (by omega), h.x8.oth ho (by omega), hx, ho.below h.bel (by omega)⟩
theorem StR.ends {w W : World} {c n : Core} {x : Ins} (h : StR w W c x n) (d : Core) : Box (put9 W (w.heap.size + 1 + 1) d) 33 (w.heap.size + 1 + 1) (coreA d) ∧ Below w.heap.size w (put9 W (w.heap.size + 1 + 1) d) :=
  ⟨h.x8.nine d, (put9_oth _ _ d).below h.bel (by omega)⟩
/-- A world in which they stay. -/
structure StS (w : World) (c : Core) (x : Ins) (n : Core) where
  val : World
  kp : StR w val c x n

set_option maxRecDepth 100000 in
set_option maxHeartbeats 2000000 in
theorem rk_set (c : Core) (op imm tick self : Int) (a b d : Nat) (ha : a < 8) (hb : b < 8) (hd' : d < 8) (hop : op = 1) (w : World) :
    Calls Tryd.prog 22 #[coreV c, insV ⟨op, a, b, d, imm⟩, .int .i64 tick, .int .i64 self] w fun e w' => e = .returned (coreV ((c.set a imm).next)) ∧ Below w.heap.size w w' := by
  subst hop
  rw [show (c.set a imm).next = c.next.set a imm from rfl]
  obtain ⟨D, hD⟩ : ∃ D, Hid (c.next.set a imm = D) := ⟨_, rfl⟩
  rw [hD.out]
  have HA := hd ha
  have HBb := hd hb
  have HDd := hd hd'
  have HS := hd (StR.new w c ⟨1, a, b, d, imm⟩ c.next)
  have la : (a : Int) < 8 := by omega
  have lb : (b : Int) < 8 := by omega
  have ld : (d : Int) < 8 := by omega
  clear ha hb hd'
  unfold insA zeroC at HS
  unfold coreV insV
  rw [show coreA c.next = #[.int .i64 (wrap64 (c.pc + 1)), .int .i64 (c.r 0), .int .i64 (c.r 1), .int .i64 (c.r 2), .int .i64 (c.r 3), .int .i64 (c.r 4), .int .i64 (c.r 5), .int .i64 (c.r 6), .int .i64 (c.r 7)] from rfl] at HS
  unfold coreA at *
  simp only at HS
  go_enter Tryd.func22, Tryd.ntmps22
  go_upto_region 3 with fail
  obtain ⟨W1, hW1⟩ : ∃ W, Hid (World.alloc (World.alloc (World.alloc (World.alloc w (.cells #[.int .i64 c.pc, .int .i64 (c.r 0), .int .i64 (c.r 1), .int .i64 (c.r 2), .int .i64 (c.r 3), .int .i64 (c.r 4), .int .i64 (c.r 5), .int .i64 (c.r 6), .int .i64 (c.r 7)] 33)) (.cells #[.int .i64 1, .int .i64 a, .int .i64 b, .int .i64 d, .int .i64 imm] 28)) (.cells #[.int .i64 0, .int .i64 0, .int .i64 0, .int .i64 0, .int .i64 0, .int .i64 0, .int .i64 0, .int .i64 0, .int .i64 0] 33)) (.cells #[.int .i64 (wrap64 (c.pc + 1)), .int .i64 (c.r 0), .int .i64 (c.r 1), .int .i64 (c.r 2), .int .i64 (c.r 3), .int .i64 (c.r 4), .int .i64 (c.r 5), .int .i64 (c.r 6), .int .i64 (c.r 7)] 33) = W) := ⟨_, rfl⟩
  rw [hW1.out] at HS ⊢
  clear hW1
  obtain ⟨i0, i1, i2, i3, i4⟩ := HS.out.x5.ci
  have ra := HS.out.x4.reg a HA.out
  have rb := HS.out.x4.reg b HBb.out
  have rd := HS.out.x4.reg d HDd.out
  have na := HS.out.x9.reg a HA.out
  have np := HS.out.x9.pc
  have f9 := HS.out.x9.fr
  go_upto_region 27 with fail
  clear i0 i1 i2 i3 i4 ra rb rd na np f9
  obtain ⟨W4, hW4⟩ : ∃ W, Hid ((W1.setCell ⟨w.heap.size + 1 + 1 + 1, 1 + a, none⟩ (.int .i64 imm)) = W) := ⟨_, rfl⟩
  have HS4 := hd (HS.out.core (Oth.setCell _ _ _ _) (HS.out.x9.set a HA.out imm))
  rw [hW4.out] at HS4
  rw [hW4.out]
  clear HS hW4
  have HS := HS4
  clear HS4
  rw [hD.out] at HS
  obtain ⟨c0, c1, c2, c3, c4, c5, c6, c7, c8⟩ := HS.out.x9.cs
  obtain ⟨z0, z1, z2, z3, z4, z5, z6, z7, z8⟩ := HS.out.x8.cz
  have f8 := HS.out.x8.fr
  have HE := hd (HS.out.ends D)
  clear HS
  go_wp2
  unfold put9 at HE
  clear c0 c1 c2 c3 c4 c5 c6 c7 c8 z0 z1 z2 z3 z4 z5 z6 z7 z8 f8
  obtain ⟨R8, RB⟩ := HE.out
  obtain ⟨c0, c1, c2, c3, c4, c5, c6, c7, c8⟩ := R8.cs
  refine bodyPost_ret ?_ rfl ⟨rfl, RB⟩
  clear R8 RB
  generalize World.setCell _ _ _ = Wf at *
  simp [results, Tryd.results22, go_sem, c0, c1, c2, c3, c4, c5, c6, c7, c8]

set_option maxRecDepth 100000 in
set_option maxHeartbeats 2000000 in
theorem rk_now (c : Core) (op imm tick self : Int) (a b d : Nat) (ha : a < 8) (hb : b < 8) (hd' : d < 8) (hop : op = 32) (w : World) :
    Calls Tryd.prog 22 #[coreV c, insV ⟨op, a, b, d, imm⟩, .int .i64 tick, .int .i64 self] w fun e w' => e = .returned (coreV ((c.set a tick).next)) ∧ Below w.heap.size w w' := by
  subst hop
  rw [show (c.set a tick).next = c.next.set a tick from rfl]
  obtain ⟨D, hD⟩ : ∃ D, Hid (c.next.set a tick = D) := ⟨_, rfl⟩
  rw [hD.out]
  have HA := hd ha
  have HBb := hd hb
  have HDd := hd hd'
  have HS := hd (StR.new w c ⟨32, a, b, d, imm⟩ c.next)
  have la : (a : Int) < 8 := by omega
  have lb : (b : Int) < 8 := by omega
  have ld : (d : Int) < 8 := by omega
  clear ha hb hd'
  unfold insA zeroC at HS
  unfold coreV insV
  rw [show coreA c.next = #[.int .i64 (wrap64 (c.pc + 1)), .int .i64 (c.r 0), .int .i64 (c.r 1), .int .i64 (c.r 2), .int .i64 (c.r 3), .int .i64 (c.r 4), .int .i64 (c.r 5), .int .i64 (c.r 6), .int .i64 (c.r 7)] from rfl] at HS
  unfold coreA at *
  simp only at HS
  go_enter Tryd.func22, Tryd.ntmps22
  go_upto_region 3 with fail
  obtain ⟨W1, hW1⟩ : ∃ W, Hid (World.alloc (World.alloc (World.alloc (World.alloc w (.cells #[.int .i64 c.pc, .int .i64 (c.r 0), .int .i64 (c.r 1), .int .i64 (c.r 2), .int .i64 (c.r 3), .int .i64 (c.r 4), .int .i64 (c.r 5), .int .i64 (c.r 6), .int .i64 (c.r 7)] 33)) (.cells #[.int .i64 32, .int .i64 a, .int .i64 b, .int .i64 d, .int .i64 imm] 28)) (.cells #[.int .i64 0, .int .i64 0, .int .i64 0, .int .i64 0, .int .i64 0, .int .i64 0, .int .i64 0, .int .i64 0, .int .i64 0] 33)) (.cells #[.int .i64 (wrap64 (c.pc + 1)), .int .i64 (c.r 0), .int .i64 (c.r 1), .int .i64 (c.r 2), .int .i64 (c.r 3), .int .i64 (c.r 4), .int .i64 (c.r 5), .int .i64 (c.r 6), .int .i64 (c.r 7)] 33) = W) := ⟨_, rfl⟩
  rw [hW1.out] at HS ⊢
  clear hW1
  obtain ⟨i0, i1, i2, i3, i4⟩ := HS.out.x5.ci
  have ra := HS.out.x4.reg a HA.out
  have rb := HS.out.x4.reg b HBb.out
  have rd := HS.out.x4.reg d HDd.out
  have na := HS.out.x9.reg a HA.out
  have np := HS.out.x9.pc
  have f9 := HS.out.x9.fr
  go_upto_region 27 with fail
  clear i0 i1 i2 i3 i4 ra rb rd na np f9
  obtain ⟨W4, hW4⟩ : ∃ W, Hid ((W1.setCell ⟨w.heap.size + 1 + 1 + 1, 1 + a, none⟩ (.int .i64 tick)) = W) := ⟨_, rfl⟩
  have HS4 := hd (HS.out.core (Oth.setCell _ _ _ _) (HS.out.x9.set a HA.out tick))
  rw [hW4.out] at HS4
  rw [hW4.out]
  clear HS hW4
  have HS := HS4
  clear HS4
  rw [hD.out] at HS
  obtain ⟨c0, c1, c2, c3, c4, c5, c6, c7, c8⟩ := HS.out.x9.cs
  obtain ⟨z0, z1, z2, z3, z4, z5, z6, z7, z8⟩ := HS.out.x8.cz
  have f8 := HS.out.x8.fr
  have HE := hd (HS.out.ends D)
  clear HS
  go_wp2
  unfold put9 at HE
  clear c0 c1 c2 c3 c4 c5 c6 c7 c8 z0 z1 z2 z3 z4 z5 z6 z7 z8 f8
  obtain ⟨R8, RB⟩ := HE.out
  obtain ⟨c0, c1, c2, c3, c4, c5, c6, c7, c8⟩ := R8.cs
  refine bodyPost_ret ?_ rfl ⟨rfl, RB⟩
  clear R8 RB
  generalize World.setCell _ _ _ = Wf at *
  simp [results, Tryd.results22, go_sem, c0, c1, c2, c3, c4, c5, c6, c7, c8]

set_option maxRecDepth 100000 in
set_option maxHeartbeats 2000000 in
theorem rk_self (c : Core) (op imm tick self : Int) (a b d : Nat) (ha : a < 8) (hb : b < 8) (hd' : d < 8) (hop : op = 33) (w : World) :
    Calls Tryd.prog 22 #[coreV c, insV ⟨op, a, b, d, imm⟩, .int .i64 tick, .int .i64 self] w fun e w' => e = .returned (coreV ((c.set a self).next)) ∧ Below w.heap.size w w' := by
  subst hop
  rw [show (c.set a self).next = c.next.set a self from rfl]
  obtain ⟨D, hD⟩ : ∃ D, Hid (c.next.set a self = D) := ⟨_, rfl⟩
  rw [hD.out]
  have HA := hd ha
  have HBb := hd hb
  have HDd := hd hd'
  have HS := hd (StR.new w c ⟨33, a, b, d, imm⟩ c.next)
  have la : (a : Int) < 8 := by omega
  have lb : (b : Int) < 8 := by omega
  have ld : (d : Int) < 8 := by omega
  clear ha hb hd'
  unfold insA zeroC at HS
  unfold coreV insV
  rw [show coreA c.next = #[.int .i64 (wrap64 (c.pc + 1)), .int .i64 (c.r 0), .int .i64 (c.r 1), .int .i64 (c.r 2), .int .i64 (c.r 3), .int .i64 (c.r 4), .int .i64 (c.r 5), .int .i64 (c.r 6), .int .i64 (c.r 7)] from rfl] at HS
  unfold coreA at *
  simp only at HS
  go_enter Tryd.func22, Tryd.ntmps22
  go_upto_region 3 with fail
  obtain ⟨W1, hW1⟩ : ∃ W, Hid (World.alloc (World.alloc (World.alloc (World.alloc w (.cells #[.int .i64 c.pc, .int .i64 (c.r 0), .int .i64 (c.r 1), .int .i64 (c.r 2), .int .i64 (c.r 3), .int .i64 (c.r 4), .int .i64 (c.r 5), .int .i64 (c.r 6), .int .i64 (c.r 7)] 33)) (.cells #[.int .i64 33, .int .i64 a, .int .i64 b, .int .i64 d, .int .i64 imm] 28)) (.cells #[.int .i64 0, .int .i64 0, .int .i64 0, .int .i64 0, .int .i64 0, .int .i64 0, .int .i64 0, .int .i64 0, .int .i64 0] 33)) (.cells #[.int .i64 (wrap64 (c.pc + 1)), .int .i64 (c.r 0), .int .i64 (c.r 1), .int .i64 (c.r 2), .int .i64 (c.r 3), .int .i64 (c.r 4), .int .i64 (c.r 5), .int .i64 (c.r 6), .int .i64 (c.r 7)] 33) = W) := ⟨_, rfl⟩
  rw [hW1.out] at HS ⊢
  clear hW1
  obtain ⟨i0, i1, i2, i3, i4⟩ := HS.out.x5.ci
  have ra := HS.out.x4.reg a HA.out
  have rb := HS.out.x4.reg b HBb.out
  have rd := HS.out.x4.reg d HDd.out
  have na := HS.out.x9.reg a HA.out
  have np := HS.out.x9.pc
  have f9 := HS.out.x9.fr
  go_upto_region 27 with fail
  clear i0 i1 i2 i3 i4 ra rb rd na np f9
  obtain ⟨W4, hW4⟩ : ∃ W, Hid ((W1.setCell ⟨w.heap.size + 1 + 1 + 1, 1 + a, none⟩ (.int .i64 self)) = W) := ⟨_, rfl⟩
  have HS4 := hd (HS.out.core (Oth.setCell _ _ _ _) (HS.out.x9.set a HA.out self))
  rw [hW4.out] at HS4
  rw [hW4.out]
  clear HS hW4
  have HS := HS4
  clear HS4
  rw [hD.out] at HS
  obtain ⟨c0, c1, c2, c3, c4, c5, c6, c7, c8⟩ := HS.out.x9.cs
  obtain ⟨z0, z1, z2, z3, z4, z5, z6, z7, z8⟩ := HS.out.x8.cz
  have f8 := HS.out.x8.fr
  have HE := hd (HS.out.ends D)
  clear HS
  go_wp2
  unfold put9 at HE
  clear c0 c1 c2 c3 c4 c5 c6 c7 c8 z0 z1 z2 z3 z4 z5 z6 z7 z8 f8
  obtain ⟨R8, RB⟩ := HE.out
  obtain ⟨c0, c1, c2, c3, c4, c5, c6, c7, c8⟩ := R8.cs
  refine bodyPost_ret ?_ rfl ⟨rfl, RB⟩
  clear R8 RB
  generalize World.setCell _ _ _ = Wf at *
  simp [results, Tryd.results22, go_sem, c0, c1, c2, c3, c4, c5, c6, c7, c8]

set_option maxRecDepth 100000 in
set_option maxHeartbeats 2000000 in
theorem rk_move (c : Core) (op imm tick self : Int) (a b d : Nat) (ha : a < 8) (hb : b < 8) (hd' : d < 8) (hop : op = 2) (w : World) :
    Calls Tryd.prog 22 #[coreV c, insV ⟨op, a, b, d, imm⟩, .int .i64 tick, .int .i64 self] w fun e w' => e = .returned (coreV ((c.set a (c.r b)).next)) ∧ Below w.heap.size w w' := by
  subst hop
  rw [show (c.set a (c.r b)).next = c.next.set a (c.r b) from rfl]
  obtain ⟨D, hD⟩ : ∃ D, Hid (c.next.set a (c.r b) = D) := ⟨_, rfl⟩
  rw [hD.out]
  have HA := hd ha
  have HBb := hd hb
  have HDd := hd hd'
  have HS := hd (StR.new w c ⟨2, a, b, d, imm⟩ c.next)
  have la : (a : Int) < 8 := by omega
  have lb : (b : Int) < 8 := by omega
  have ld : (d : Int) < 8 := by omega
  clear ha hb hd'
  unfold insA zeroC at HS
  unfold coreV insV
  rw [show coreA c.next = #[.int .i64 (wrap64 (c.pc + 1)), .int .i64 (c.r 0), .int .i64 (c.r 1), .int .i64 (c.r 2), .int .i64 (c.r 3), .int .i64 (c.r 4), .int .i64 (c.r 5), .int .i64 (c.r 6), .int .i64 (c.r 7)] from rfl] at HS
  unfold coreA at *
  simp only at HS
  go_enter Tryd.func22, Tryd.ntmps22
  go_upto_region 3 with fail
  obtain ⟨W1, hW1⟩ : ∃ W, Hid (World.alloc (World.alloc (World.alloc (World.alloc w (.cells #[.int .i64 c.pc, .int .i64 (c.r 0), .int .i64 (c.r 1), .int .i64 (c.r 2), .int .i64 (c.r 3), .int .i64 (c.r 4), .int .i64 (c.r 5), .int .i64 (c.r 6), .int .i64 (c.r 7)] 33)) (.cells #[.int .i64 2, .int .i64 a, .int .i64 b, .int .i64 d, .int .i64 imm] 28)) (.cells #[.int .i64 0, .int .i64 0, .int .i64 0, .int .i64 0, .int .i64 0, .int .i64 0, .int .i64 0, .int .i64 0, .int .i64 0] 33)) (.cells #[.int .i64 (wrap64 (c.pc + 1)), .int .i64 (c.r 0), .int .i64 (c.r 1), .int .i64 (c.r 2), .int .i64 (c.r 3), .int .i64 (c.r 4), .int .i64 (c.r 5), .int .i64 (c.r 6), .int .i64 (c.r 7)] 33) = W) := ⟨_, rfl⟩
  rw [hW1.out] at HS ⊢
  clear hW1
  obtain ⟨i0, i1, i2, i3, i4⟩ := HS.out.x5.ci
  have ra := HS.out.x4.reg a HA.out
  have rb := HS.out.x4.reg b HBb.out
  have rd := HS.out.x4.reg d HDd.out
  have na := HS.out.x9.reg a HA.out
  have np := HS.out.x9.pc
  have f9 := HS.out.x9.fr
  go_upto_region 8 with fail
  go_region
  go_upto_region 27 with fail
  clear i0 i1 i2 i3 i4 ra rb rd na np f9
  obtain ⟨W4, hW4⟩ : ∃ W, Hid ((W1.setCell ⟨w.heap.size + 1 + 1 + 1, 1 + a, none⟩ (.int .i64 (c.r b))).drew = W) := ⟨_, rfl⟩
  have HS4 := hd (HS.out.core (Oth.setCell _ _ _ _) (HS.out.x9.set a HA.out (c.r b)))
  replace HS4 := hd (HS4.out.kept ((Below.refl _ _).drew))
  rw [hW4.out] at HS4
  rw [hW4.out]
  clear HS hW4
  have HS := HS4
  clear HS4
  rw [hD.out] at HS
  obtain ⟨c0, c1, c2, c3, c4, c5, c6, c7, c8⟩ := HS.out.x9.cs
  obtain ⟨z0, z1, z2, z3, z4, z5, z6, z7, z8⟩ := HS.out.x8.cz
  have f8 := HS.out.x8.fr
  have HE := hd (HS.out.ends D)
  clear HS
  go_wp2
  unfold put9 at HE
  clear c0 c1 c2 c3 c4 c5 c6 c7 c8 z0 z1 z2 z3 z4 z5 z6 z7 z8 f8
  obtain ⟨R8, RB⟩ := HE.out
  obtain ⟨c0, c1, c2, c3, c4, c5, c6, c7, c8⟩ := R8.cs
  refine bodyPost_ret ?_ rfl ⟨rfl, RB⟩
  clear R8 RB
  generalize World.setCell _ _ _ = Wf at *
  simp [results, Tryd.results22, go_sem, c0, c1, c2, c3, c4, c5, c6, c7, c8]

set_option maxRecDepth 100000 in
set_option maxHeartbeats 2000000 in
theorem rk_jump (c : Core) (op imm tick self : Int) (a b d : Nat) (ha : a < 8) (hb : b < 8) (hd' : d < 8) (hop : op = 22) (w : World) :
    Calls Tryd.prog 22 #[coreV c, insV ⟨op, a, b, d, imm⟩, .int .i64 tick, .int .i64 self] w fun e w' => e = .returned (coreV (Core.mk imm c.r)) ∧ Below w.heap.size w w' := by
  subst hop
  rw [show Core.mk imm c.r = Core.mk imm c.next.r from rfl]
  obtain ⟨D, hD⟩ : ∃ D, Hid (Core.mk imm c.next.r = D) := ⟨_, rfl⟩
  rw [hD.out]
  have HA := hd ha
  have HBb := hd hb
  have HDd := hd hd'
  have HS := hd (StR.new w c ⟨22, a, b, d, imm⟩ c.next)
  have la : (a : Int) < 8 := by omega
  have lb : (b : Int) < 8 := by omega
  have ld : (d : Int) < 8 := by omega
  clear ha hb hd'
  unfold insA zeroC at HS
  unfold coreV insV
  rw [show coreA c.next = #[.int .i64 (wrap64 (c.pc + 1)), .int .i64 (c.r 0), .int .i64 (c.r 1), .int .i64 (c.r 2), .int .i64 (c.r 3), .int .i64 (c.r 4), .int .i64 (c.r 5), .int .i64 (c.r 6), .int .i64 (c.r 7)] from rfl] at HS
  unfold coreA at *
  simp only at HS
  go_enter Tryd.func22, Tryd.ntmps22
  go_upto_region 3 with fail
  obtain ⟨W1, hW1⟩ : ∃ W, Hid (World.alloc (World.alloc (World.alloc (World.alloc w (.cells #[.int .i64 c.pc, .int .i64 (c.r 0), .int .i64 (c.r 1), .int .i64 (c.r 2), .int .i64 (c.r 3), .int .i64 (c.r 4), .int .i64 (c.r 5), .int .i64 (c.r 6), .int .i64 (c.r 7)] 33)) (.cells #[.int .i64 22, .int .i64 a, .int .i64 b, .int .i64 d, .int .i64 imm] 28)) (.cells #[.int .i64 0, .int .i64 0, .int .i64 0, .int .i64 0, .int .i64 0, .int .i64 0, .int .i64 0, .int .i64 0, .int .i64 0] 33)) (.cells #[.int .i64 (wrap64 (c.pc + 1)), .int .i64 (c.r 0), .int .i64 (c.r 1), .int .i64 (c.r 2), .int .i64 (c.r 3), .int .i64 (c.r 4), .int .i64 (c.r 5), .int .i64 (c.r 6), .int .i64 (c.r 7)] 33) = W) := ⟨_, rfl⟩
  rw [hW1.out] at HS ⊢
  clear hW1
  obtain ⟨i0, i1, i2, i3, i4⟩ := HS.out.x5.ci
  have ra := HS.out.x4.reg a HA.out
  have rb := HS.out.x4.reg b HBb.out
  have rd := HS.out.x4.reg d HDd.out
  have na := HS.out.x9.reg a HA.out
  have np := HS.out.x9.pc
  have f9 := HS.out.x9.fr
  go_upto_region 27 with fail
  clear i0 i1 i2 i3 i4 ra rb rd na np f9
  obtain ⟨W4, hW4⟩ : ∃ W, Hid (W1.setCell ⟨w.heap.size + 1 + 1 + 1, 0, none⟩ (.int .i64 imm) = W) := ⟨_, rfl⟩
  have HS4 := hd (HS.out.core (Oth.setCell _ _ _ _) (HS.out.x9.setPc imm))
  rw [hW4.out] at HS4
  rw [hW4.out]
  clear HS hW4
  have HS := HS4
  clear HS4
  rw [hD.out] at HS
  obtain ⟨c0, c1, c2, c3, c4, c5, c6, c7, c8⟩ := HS.out.x9.cs
  obtain ⟨z0, z1, z2, z3, z4, z5, z6, z7, z8⟩ := HS.out.x8.cz
  have f8 := HS.out.x8.fr
  have HE := hd (HS.out.ends D)
  clear HS
  go_wp2
  unfold put9 at HE
  clear c0 c1 c2 c3 c4 c5 c6 c7 c8 z0 z1 z2 z3 z4 z5 z6 z7 z8 f8
  obtain ⟨R8, RB⟩ := HE.out
  obtain ⟨c0, c1, c2, c3, c4, c5, c6, c7, c8⟩ := R8.cs
  refine bodyPost_ret ?_ rfl ⟨rfl, RB⟩
  clear R8 RB
  generalize World.setCell _ _ _ = Wf at *
  simp [results, Tryd.results22, go_sem, c0, c1, c2, c3, c4, c5, c6, c7, c8]

set_option maxRecDepth 100000 in
set_option maxHeartbeats 2000000 in
theorem rk_if (c : Core) (op imm tick self : Int) (a b d : Nat) (ha : a < 8) (hb : b < 8) (hd' : d < 8) (hop : op = 23) (hr : (c.r a == 0) = false) (w : World) :
    Calls Tryd.prog 22 #[coreV c, insV ⟨op, a, b, d, imm⟩, .int .i64 tick, .int .i64 self] w fun e w' => e = .returned (coreV (Core.mk imm c.r)) ∧ Below w.heap.size w w' := by
  subst hop
  rw [show Core.mk imm c.r = Core.mk imm c.next.r from rfl]
  obtain ⟨D, hD⟩ : ∃ D, Hid (Core.mk imm c.next.r = D) := ⟨_, rfl⟩
  rw [hD.out]
  have HA := hd ha
  have HBb := hd hb
  have HDd := hd hd'
  have HS := hd (StR.new w c ⟨23, a, b, d, imm⟩ c.next)
  have la : (a : Int) < 8 := by omega
  have lb : (b : Int) < 8 := by omega
  have ld : (d : Int) < 8 := by omega
  clear ha hb hd'
  unfold insA zeroC at HS
  unfold coreV insV
  rw [show coreA c.next = #[.int .i64 (wrap64 (c.pc + 1)), .int .i64 (c.r 0), .int .i64 (c.r 1), .int .i64 (c.r 2), .int .i64 (c.r 3), .int .i64 (c.r 4), .int .i64 (c.r 5), .int .i64 (c.r 6), .int .i64 (c.r 7)] from rfl] at HS
  unfold coreA at *
  simp only at HS
  go_enter Tryd.func22, Tryd.ntmps22
  go_upto_region 3 with fail
  obtain ⟨W1, hW1⟩ : ∃ W, Hid (World.alloc (World.alloc (World.alloc (World.alloc w (.cells #[.int .i64 c.pc, .int .i64 (c.r 0), .int .i64 (c.r 1), .int .i64 (c.r 2), .int .i64 (c.r 3), .int .i64 (c.r 4), .int .i64 (c.r 5), .int .i64 (c.r 6), .int .i64 (c.r 7)] 33)) (.cells #[.int .i64 23, .int .i64 a, .int .i64 b, .int .i64 d, .int .i64 imm] 28)) (.cells #[.int .i64 0, .int .i64 0, .int .i64 0, .int .i64 0, .int .i64 0, .int .i64 0, .int .i64 0, .int .i64 0, .int .i64 0] 33)) (.cells #[.int .i64 (wrap64 (c.pc + 1)), .int .i64 (c.r 0), .int .i64 (c.r 1), .int .i64 (c.r 2), .int .i64 (c.r 3), .int .i64 (c.r 4), .int .i64 (c.r 5), .int .i64 (c.r 6), .int .i64 (c.r 7)] 33) = W) := ⟨_, rfl⟩
  rw [hW1.out] at HS ⊢
  clear hW1
  obtain ⟨i0, i1, i2, i3, i4⟩ := HS.out.x5.ci
  have ra := HS.out.x4.reg a HA.out
  have rb := HS.out.x4.reg b HBb.out
  have rd := HS.out.x4.reg d HDd.out
  have na := HS.out.x9.reg a HA.out
  have np := HS.out.x9.pc
  have f9 := HS.out.x9.fr
  go_upto_region 27 with fail
  clear i0 i1 i2 i3 i4 ra rb rd na np f9
  obtain ⟨W4, hW4⟩ : ∃ W, Hid (W1.setCell ⟨w.heap.size + 1 + 1 + 1, 0, none⟩ (.int .i64 imm) = W) := ⟨_, rfl⟩
  have HS4 := hd (HS.out.core (Oth.setCell _ _ _ _) (HS.out.x9.setPc imm))
  rw [hW4.out] at HS4
  rw [hW4.out]
  clear HS hW4
  have HS := HS4
  clear HS4
  rw [hD.out] at HS
  obtain ⟨c0, c1, c2, c3, c4, c5, c6, c7, c8⟩ := HS.out.x9.cs
  obtain ⟨z0, z1, z2, z3, z4, z5, z6, z7, z8⟩ := HS.out.x8.cz
  have f8 := HS.out.x8.fr
  have HE := hd (HS.out.ends D)
  clear HS
  go_wp2
  unfold put9 at HE
  clear c0 c1 c2 c3 c4 c5 c6 c7 c8 z0 z1 z2 z3 z4 z5 z6 z7 z8 f8
  obtain ⟨R8, RB⟩ := HE.out
  obtain ⟨c0, c1, c2, c3, c4, c5, c6, c7, c8⟩ := R8.cs
  refine bodyPost_ret ?_ rfl ⟨rfl, RB⟩
  clear R8 RB
  generalize World.setCell _ _ _ = Wf at *
  simp [results, Tryd.results22, go_sem, c0, c1, c2, c3, c4, c5, c6, c7, c8]

set_option maxRecDepth 100000 in
set_option maxHeartbeats 2000000 in
theorem rk_else (c : Core) (op imm tick self : Int) (a b d : Nat) (ha : a < 8) (hb : b < 8) (hd' : d < 8) (hop : op = 23) (hr : (c.r a == 0) = true) (w : World) :
    Calls Tryd.prog 22 #[coreV c, insV ⟨op, a, b, d, imm⟩, .int .i64 tick, .int .i64 self] w fun e w' => e = .returned (coreV (c.next)) ∧ Below w.heap.size w w' := by
  subst hop
  rw [show c.next = c.next from rfl]
  obtain ⟨D, hD⟩ : ∃ D, Hid (c.next = D) := ⟨_, rfl⟩
  rw [hD.out]
  have HA := hd ha
  have HBb := hd hb
  have HDd := hd hd'
  have HS := hd (StR.new w c ⟨23, a, b, d, imm⟩ c.next)
  have la : (a : Int) < 8 := by omega
  have lb : (b : Int) < 8 := by omega
  have ld : (d : Int) < 8 := by omega
  clear ha hb hd'
  unfold insA zeroC at HS
  unfold coreV insV
  rw [show coreA c.next = #[.int .i64 (wrap64 (c.pc + 1)), .int .i64 (c.r 0), .int .i64 (c.r 1), .int .i64 (c.r 2), .int .i64 (c.r 3), .int .i64 (c.r 4), .int .i64 (c.r 5), .int .i64 (c.r 6), .int .i64 (c.r 7)] from rfl] at HS
  unfold coreA at *
  simp only at HS
  go_enter Tryd.func22, Tryd.ntmps22
  go_upto_region 3 with fail
  obtain ⟨W1, hW1⟩ : ∃ W, Hid (World.alloc (World.alloc (World.alloc (World.alloc w (.cells #[.int .i64 c.pc, .int .i64 (c.r 0), .int .i64 (c.r 1), .int .i64 (c.r 2), .int .i64 (c.r 3), .int .i64 (c.r 4), .int .i64 (c.r 5), .int .i64 (c.r 6), .int .i64 (c.r 7)] 33)) (.cells #[.int .i64 23, .int .i64 a, .int .i64 b, .int .i64 d, .int .i64 imm] 28)) (.cells #[.int .i64 0, .int .i64 0, .int .i64 0, .int .i64 0, .int .i64 0, .int .i64 0, .int .i64 0, .int .i64 0, .int .i64 0] 33)) (.cells #[.int .i64 (wrap64 (c.pc + 1)), .int .i64 (c.r 0), .int .i64 (c.r 1), .int .i64 (c.r 2), .int .i64 (c.r 3), .int .i64 (c.r 4), .int .i64 (c.r 5), .int .i64 (c.r 6), .int .i64 (c.r 7)] 33) = W) := ⟨_, rfl⟩
  rw [hW1.out] at HS ⊢
  clear hW1
  obtain ⟨i0, i1, i2, i3, i4⟩ := HS.out.x5.ci
  have ra := HS.out.x4.reg a HA.out
  have rb := HS.out.x4.reg b HBb.out
  have rd := HS.out.x4.reg d HDd.out
  have na := HS.out.x9.reg a HA.out
  have np := HS.out.x9.pc
  have f9 := HS.out.x9.fr
  go_upto_region 27 with fail
  clear i0 i1 i2 i3 i4 ra rb rd na np f9
  rw [hD.out] at HS
  obtain ⟨c0, c1, c2, c3, c4, c5, c6, c7, c8⟩ := HS.out.x9.cs
  obtain ⟨z0, z1, z2, z3, z4, z5, z6, z7, z8⟩ := HS.out.x8.cz
  have f8 := HS.out.x8.fr
  have HE := hd (HS.out.ends D)
  clear HS
  go_wp2
  unfold put9 at HE
  clear c0 c1 c2 c3 c4 c5 c6 c7 c8 z0 z1 z2 z3 z4 z5 z6 z7 z8 f8
  obtain ⟨R8, RB⟩ := HE.out
  obtain ⟨c0, c1, c2, c3, c4, c5, c6, c7, c8⟩ := R8.cs
  refine bodyPost_ret ?_ rfl ⟨rfl, RB⟩
  clear R8 RB
  generalize World.setCell _ _ _ = Wf at *
  simp [results, Tryd.results22, go_sem, c0, c1, c2, c3, c4, c5, c6, c7, c8]

end Go.Proofs.YtfkdaimhdjaefaaDoor
