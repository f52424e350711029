/- Told and Took. -/
import Derived.Test.YtfkdaimhdjaefaaDoorU7
import Derived.Test.YtfkdaimhdjaefaaDoorUT
namespace Go.Proofs.YtfkdaimhdjaefaaDoor
open Go.RowKit

/-- What Told and Took make of a core. -/
def toldL (c : Core) (l : List Ins) (v : Int) : Core :=
  if 0 ≤ c.pc ∧ c.pc < l.length then (c.lay (l.getD c.pc.toNat default).a v).next else c.next
def tookL (c : Core) (l : List Ins) (v u : Int) : Core :=
  if 0 ≤ c.pc ∧ c.pc < l.length then ((c.lay (l.getD c.pc.toNat default).a v).lay (l.getD c.pc.toNat default).b u).next else c.next

/-- The boxes of Told and Took: the core, the answer, the instruction. -/
structure StT (w W : World) (tc : TypeId) (g : Nat) (c : Core) (x : Ins) : Prop where
  x4 : Box W tc w.heap.size (coreA c)
  x8 : Box W tc (w.heap.size + 1) zeroC
  x10 : Box W 28 g (insA x)
  g2 : w.heap.size + 1 < g
  bel : Below w.heap.size w W

theorem told_begin (w : World) (c : Core) (tc : TypeId) : Box ((w.alloc (.cells (coreA c) tc)).alloc (.cells zeroC tc)) tc w.heap.size (coreA c) ∧ Box ((w.alloc (.cells (coreA c) tc)).alloc (.cells zeroC tc)) tc (w.heap.size + 1) zeroC := by
  refine ⟨(Box.new w tc (coreA c)).bel (below_al' _ _), ?_⟩
  have h := Box.new (w.alloc (.cells (coreA c) tc)) tc zeroC
  simpa using h
theorem StT.mk' {w w1 : World} {tc : TypeId} {c : Core} (x : Ins) (b1 : Below ((w.alloc (.cells (coreA c) tc)).alloc (.cells zeroC tc)).heap.size ((w.alloc (.cells (coreA c) tc)).alloc (.cells zeroC tc)) w1) :
    StT w (w1.alloc (.cells (insA x) 28)) tc w1.heap.size c x := by
  obtain ⟨h4, h8⟩ := told_begin w c tc
  have hb0 := two_bel w (.cells (coreA c) tc) (.cells zeroC tc)
  have hb1 := hb0.trans (b1.mono hb0.size)
  have ha := below_al' w1 (.cells (insA x) 28)
  exact ⟨(h4.bel b1).bel ha, (h8.bel b1).bel ha, Box.new _ _ _, by have := b1.size; simp at this; omega, hb1.alloc hb1.size _⟩
theorem StT.kept {w W W' : World} {tc : TypeId} {g : Nat} {c : Core} {x : Ins} (h : StT w W tc g c x) (hb : Below W.heap.size W W') : StT w W' tc g c x :=
  ⟨h.x4.bel hb, h.x8.bel hb, h.x10.bel hb, h.g2, h.bel.trans (hb.mono h.bel.size)⟩
theorem StT.core {w W W' : World} {tc : TypeId} {g : Nat} {c d : Core} {x : Ins} (h : StT w W tc g c x) (ho : Oth w.heap.size W W') (hx : Box W' tc w.heap.size (coreA d)) : StT w W' tc g d x :=
  ⟨hx, h.x8.oth ho (by omega), h.x10.oth ho (by have := h.g2; omega), h.g2, ho.below h.bel (Nat.le_refl _)⟩
theorem StT.ends {w W : World} {tc : TypeId} {g : Nat} {c : Core} {x : Ins} (h : StT w W tc g c x) (d : Core) :
    Box (put9 W (w.heap.size + 1) d) tc (w.heap.size + 1) (coreA d) ∧ Below w.heap.size w (put9 W (w.heap.size + 1) d) :=
  ⟨h.x8.nine d, (put9_oth _ _ d).below h.bel (by omega)⟩

/-- A world in which they stay. -/
structure StU (w : World) (tc : TypeId) (g : Nat) (c : Core) (x : Ins) where
  val : World
  kp : StT w val tc g c x

set_option maxRecDepth 100000 in
set_option maxHeartbeats 2000000 in
theorem told_no (c : Core) (ad : Option Addr) (n cap : Nat) (v : Int) (hout : ¬ (0 ≤ c.pc ∧ c.pc < n)) (w : World) :
    Calls Tryd.prog 13 #[coreV c, .slice ad n cap, .int .i64 v] w fun e w' => e = .returned (coreV c.next) ∧ Below w.heap.size w w' := by
  obtain ⟨D, hD⟩ : ∃ D, Hid (c.next = D) := ⟨_, rfl⟩
  have hnx := next_any c
  rw [hD.out] at hnx ⊢
  clear hD
  have hcur := current_no c ad n cap hout ((w.alloc (.cells (coreA c) 25)).alloc (.cells zeroC 25))
  have HS := hd (fun w1 => StT.mk' (w := w) (w1 := w1) (tc := 25) (c := c) ⟨0, 0, 0, 0, 0⟩)
  clear hout
  unfold coreV at *
  unfold noIns at *
  unfold coreA zeroC at *
  go_enter Tryd.func13, Tryd.ntmps13
  go_upto_region 2 with (first | (go_at_call 17; refine hcur.mono ?_; rintro e w1 ⟨rfl, b1⟩))
  replace HS := hd (HS.out w1 b1)
  clear hcur b1
  unfold insA at HS
  simp only at HS
  obtain ⟨g, hg⟩ : ∃ g, Hid (w1.heap.size = g) := ⟨_, rfl⟩
  obtain ⟨W1, hW1⟩ : ∃ W, Hid (w1.alloc (.cells #[.int .i64 0, .int .i64 0, .int .i64 0, .int .i64 0, .int .i64 0] 28) = W) := ⟨_, rfl⟩
  rw [hW1.out] at HS ⊢
  rw [hg.out] at HS ⊢
  clear hW1 hg
  obtain ⟨c0, c1, c2, c3, c4, c5, c6, c7, c8⟩ := HS.out.x4.cs
  replace hnx := hnx W1
  go_wp2_with (go_at_call 15; refine hnx.mono ?_; rintro e w2 ⟨rfl, b2⟩; have HT := hd (HS.out.kept b2); obtain ⟨z0, z1, z2, z3, z4, z5, z6, z7, z8⟩ := HT.out.x8.cz; have f8 := HT.out.x8.fr)
  have HE := hd (HT.out.ends D)
  clear HS HT
  unfold put9 at HE
  clear c0 c1 c2 c3 c4 c5 c6 c7 c8 z0 z1 z2 z3 z4 z5 z6 z7 z8 f8
  obtain ⟨R8, RB⟩ := HE.out
  obtain ⟨c0, c1, c2, c3, c4, c5, c6, c7, c8⟩ := R8.cs
  refine bodyPost_ret ?_ rfl ⟨rfl, RB⟩
  clear R8 RB
  generalize World.setCell _ _ _ = Wf at *
  simp [results, Tryd.results13, go_sem, c0, c1, c2, c3, c4, c5, c6, c7, c8]

set_option maxRecDepth 100000 in
set_option maxHeartbeats 2000000 in
theorem told_yes (c : Core) (ad : Option Addr) (l : List Ins) (cap p : Nat) (v : Int) (hp : c.pc = (p : Int)) (hlt : p < l.length) (w : World) (hP : Prg w ad l) :
    Calls Tryd.prog 13 #[coreV c, .slice ad l.length cap, .int .i64 v] w fun e w' => e = .returned (coreV (c.lay (l.getD p default).a v).next) ∧ Below w.heap.size w w' := by
  have hcur := current_yes c ad l cap p hp hlt _ (hP.kept (two_bel w (.cells (coreA c) 25) (.cells zeroC 25)))
  generalize l.getD p default = x at *
  generalize l.length = n at *
  have hla := laid_any c x.a v
  obtain ⟨C1, hC1⟩ : ∃ D, Hid (c.lay x.a v = D) := ⟨_, rfl⟩
  rw [hC1.out] at hla ⊢
  have hnx := next_any C1
  obtain ⟨D, hD⟩ : ∃ D, Hid (C1.next = D) := ⟨_, rfl⟩
  rw [hD.out] at hnx ⊢
  clear hD hC1 hP hp hlt
  have HS := hd (fun w1 => StT.mk' (w := w) (w1 := w1) (tc := 25) (c := c) x)
  unfold coreV at *
  unfold insV at *
  unfold coreA zeroC at *
  go_enter Tryd.func13, Tryd.ntmps13
  go_upto_region 2 with (first | (go_at_call 17; refine hcur.mono ?_; rintro e w1 ⟨rfl, b1⟩))
  replace HS := hd (HS.out w1 b1)
  clear hcur b1
  unfold insA at HS
  obtain ⟨g, hg⟩ : ∃ g, Hid (w1.heap.size = g) := ⟨_, rfl⟩
  obtain ⟨W1, hW1⟩ : ∃ W, Hid (w1.alloc (.cells #[.int .i64 x.op, .int .i64 x.a, .int .i64 x.b, .int .i64 x.c, .int .i64 x.imm] 28) = W) := ⟨_, rfl⟩
  rw [hW1.out] at HS ⊢
  rw [hg.out] at HS ⊢
  clear hW1 hg
  obtain ⟨c0, c1, c2, c3, c4, c5, c6, c7, c8⟩ := HS.out.x4.cs
  obtain ⟨i0, i1, i2, i3, i4⟩ := HS.out.x10.ci
  replace hla := hla W1
  go_upto_region 4 with (go_at_call 24; refine hla.mono ?_; rintro e w2 ⟨rfl, b2⟩; have HT := hd (HS.out.kept b2); obtain ⟨c0, c1, c2, c3, c4, c5, c6, c7, c8⟩ := HT.out.x4.cs; have f4 := HT.out.x4.fr)
  clear hla c0 c1 c2 c3 c4 c5 c6 c7 c8 i0 i1 i2 i3 i4 b2 f4 HS
  obtain ⟨W3, hW3⟩ : ∃ W, Hid (put9 w2 w.heap.size C1 = W) := ⟨_, rfl⟩
  have HS := hd (HT.out.core (put9_oth _ _ _) (HT.out.x4.nine C1))
  rw [hW3.out] at HS
  clear HT
  unfold put9 at hW3
  rw [hW3.out]
  clear hW3
  obtain ⟨c0, c1, c2, c3, c4, c5, c6, c7, c8⟩ := HS.out.x4.cs
  replace hnx := hnx W3
  go_wp2_with (go_at_call 15; refine hnx.mono ?_; rintro e w4 ⟨rfl, b4⟩; have HT := hd (HS.out.kept b4); obtain ⟨z0, z1, z2, z3, z4, z5, z6, z7, z8⟩ := HT.out.x8.cz; have f8 := HT.out.x8.fr)
  have HE := hd (HT.out.ends D)
  clear HS HT
  unfold put9 at HE
  clear c0 c1 c2 c3 c4 c5 c6 c7 c8 z0 z1 z2 z3 z4 z5 z6 z7 z8 f8
  obtain ⟨R8, RB⟩ := HE.out
  obtain ⟨c0, c1, c2, c3, c4, c5, c6, c7, c8⟩ := R8.cs
  refine bodyPost_ret ?_ rfl ⟨rfl, RB⟩
  clear R8 RB
  generalize World.setCell _ _ _ = Wf at *
  simp [results, Tryd.results13, go_sem, c0, c1, c2, c3, c4, c5, c6, c7, c8]
end Go.Proofs.YtfkdaimhdjaefaaDoor

/- Took. -/
namespace Go.Proofs.YtfkdaimhdjaefaaDoor
open Go.RowKit

set_option maxRecDepth 100000 in
set_option maxHeartbeats 2000000 in
theorem took_no (c : Core) (ad : Option Addr) (n cap : Nat) (v u : Int) (hout : ¬ (0 ≤ c.pc ∧ c.pc < n)) (w : World) :
    Calls Tryd.prog 14 #[coreV c, .slice ad n cap, .int .i64 v, .int .i64 u] w fun e w' => e = .returned (coreV c.next) ∧ Below w.heap.size w w' := by
  obtain ⟨D, hD⟩ : ∃ D, Hid (c.next = D) := ⟨_, rfl⟩
  have hnx := next_any c
  rw [hD.out] at hnx ⊢
  clear hD
  have hcur := current_no c ad n cap hout ((w.alloc (.cells (coreA c) 25)).alloc (.cells zeroC 25))
  have HS := hd (fun w1 => StT.mk' (w := w) (w1 := w1) (tc := 25) (c := c) ⟨0, 0, 0, 0, 0⟩)
  clear hout
  unfold coreV at *
  unfold noIns at *
  unfold coreA zeroC at *
  go_enter Tryd.func14, Tryd.ntmps14
  go_upto_region 2 with (first | (go_at_call 17; refine hcur.mono ?_; rintro e w1 ⟨rfl, b1⟩))
  replace HS := hd (HS.out w1 b1)
  clear hcur b1
  unfold insA at HS
  simp only at HS
  obtain ⟨g, hg⟩ : ∃ g, Hid (w1.heap.size = g) := ⟨_, rfl⟩
  obtain ⟨W1, hW1⟩ : ∃ W, Hid (w1.alloc (.cells #[.int .i64 0, .int .i64 0, .int .i64 0, .int .i64 0, .int .i64 0] 28) = W) := ⟨_, rfl⟩
  rw [hW1.out] at HS ⊢
  rw [hg.out] at HS ⊢
  clear hW1 hg
  obtain ⟨c0, c1, c2, c3, c4, c5, c6, c7, c8⟩ := HS.out.x4.cs
  replace hnx := hnx W1
  go_wp2_with (go_at_call 15; refine hnx.mono ?_; rintro e w2 ⟨rfl, b2⟩; have HT := hd (HS.out.kept b2); obtain ⟨z0, z1, z2, z3, z4, z5, z6, z7, z8⟩ := HT.out.x8.cz; have f8 := HT.out.x8.fr)
  have HE := hd (HT.out.ends D)
  clear HS HT
  unfold put9 at HE
  clear c0 c1 c2 c3 c4 c5 c6 c7 c8 z0 z1 z2 z3 z4 z5 z6 z7 z8 f8
  obtain ⟨R8, RB⟩ := HE.out
  obtain ⟨c0, c1, c2, c3, c4, c5, c6, c7, c8⟩ := R8.cs
  refine bodyPost_ret ?_ rfl ⟨rfl, RB⟩
  clear R8 RB
  generalize World.setCell _ _ _ = Wf at *
  simp [results, Tryd.results14, go_sem, c0, c1, c2, c3, c4, c5, c6, c7, c8]

set_option maxRecDepth 100000 in
set_option maxHeartbeats 2000000 in
theorem took_yes (c : Core) (ad : Option Addr) (l : List Ins) (cap p : Nat) (v u : Int) (hp : c.pc = (p : Int)) (hlt : p < l.length) (w : World) (hP : Prg w ad l) :
    Calls Tryd.prog 14 #[coreV c, .slice ad l.length cap, .int .i64 v, .int .i64 u] w fun e w' => e = .returned (coreV ((c.lay (l.getD p default).a v).lay (l.getD p default).b u).next) ∧ Below w.heap.size w w' := by
  have hcur := current_yes c ad l cap p hp hlt _ (hP.kept (two_bel w (.cells (coreA c) 25) (.cells zeroC 25)))
  generalize l.getD p default = x at *
  generalize l.length = n at *
  have hla := laid_any c x.a v
  obtain ⟨C0, hC0⟩ : ∃ D, Hid (c.lay x.a v = D) := ⟨_, rfl⟩
  rw [hC0.out] at hla ⊢
  have hlb := laid_any C0 x.b u
  obtain ⟨C1, hC1⟩ : ∃ D, Hid (C0.lay x.b u = D) := ⟨_, rfl⟩
  rw [hC1.out] at hlb ⊢
  have hnx := next_any C1
  obtain ⟨D, hD⟩ : ∃ D, Hid (C1.next = D) := ⟨_, rfl⟩
  rw [hD.out] at hnx ⊢
  clear hD hC0 hC1 hP hp hlt
  have HS := hd (fun w1 => StT.mk' (w := w) (w1 := w1) (tc := 25) (c := c) x)
  unfold coreV at *
  unfold insV at *
  unfold coreA zeroC at *
  go_enter Tryd.func14, Tryd.ntmps14
  go_upto_region 2 with (first | (go_at_call 17; refine hcur.mono ?_; rintro e w1 ⟨rfl, b1⟩))
  replace HS := hd (HS.out w1 b1)
  clear hcur b1
  unfold insA at HS
  obtain ⟨g, hg⟩ : ∃ g, Hid (w1.heap.size = g) := ⟨_, rfl⟩
  obtain ⟨W1, hW1⟩ : ∃ W, Hid (w1.alloc (.cells #[.int .i64 x.op, .int .i64 x.a, .int .i64 x.b, .int .i64 x.c, .int .i64 x.imm] 28) = W) := ⟨_, rfl⟩
  rw [hW1.out] at HS ⊢
  rw [hg.out] at HS ⊢
  clear hW1 hg
  have c0 : ∀ p : StU w 25 g c x, p.val.cell? ⟨w.heap.size, 0, none⟩ = some (.int .i64 c.pc) := fun p => p.kp.x4.cs.1
  have c1 : ∀ p : StU w 25 g c x, p.val.cell? ⟨w.heap.size, 1, none⟩ = some (.int .i64 (c.r 0)) := fun p => p.kp.x4.cs.2.1
  have c2 : ∀ p : StU w 25 g c x, p.val.cell? ⟨w.heap.size, 2, none⟩ = some (.int .i64 (c.r 1)) := fun p => p.kp.x4.cs.2.2.1
  have c3 : ∀ p : StU w 25 g c x, p.val.cell? ⟨w.heap.size, 3, none⟩ = some (.int .i64 (c.r 2)) := fun p => p.kp.x4.cs.2.2.2.1
  have c4 : ∀ p : StU w 25 g c x, p.val.cell? ⟨w.heap.size, 4, none⟩ = some (.int .i64 (c.r 3)) := fun p => p.kp.x4.cs.2.2.2.2.1
  have c5 : ∀ p : StU w 25 g c x, p.val.cell? ⟨w.heap.size, 5, none⟩ = some (.int .i64 (c.r 4)) := fun p => p.kp.x4.cs.2.2.2.2.2.1
  have c6 : ∀ p : StU w 25 g c x, p.val.cell? ⟨w.heap.size, 6, none⟩ = some (.int .i64 (c.r 5)) := fun p => p.kp.x4.cs.2.2.2.2.2.2.1
  have c7 : ∀ p : StU w 25 g c x, p.val.cell? ⟨w.heap.size, 7, none⟩ = some (.int .i64 (c.r 6)) := fun p => p.kp.x4.cs.2.2.2.2.2.2.2.1
  have c8 : ∀ p : StU w 25 g c x, p.val.cell? ⟨w.heap.size, 8, none⟩ = some (.int .i64 (c.r 7)) := fun p => p.kp.x4.cs.2.2.2.2.2.2.2.2
  have i1 : ∀ p : StU w 25 g c x, p.val.cell? ⟨g, 1, none⟩ = some (.int .i64 x.a) := fun p => p.kp.x10.ci.2.1
  have i2 : ∀ p : StU w 25 g c x, p.val.cell? ⟨g, 2, none⟩ = some (.int .i64 x.b) := fun p => p.kp.x10.ci.2.2.1
  have f4 : ∀ p : StU w 25 g c x, ∀ i, p.val.frozen? ⟨w.heap.size, i, none⟩ = false := fun p => p.kp.x4.fr
  have q1 : ∀ p : StU w 25 g c x, Calls Tryd.prog 24 #[.agg #[.int .i64 c.pc, .int .i64 (c.r 0), .int .i64 (c.r 1), .int .i64 (c.r 2), .int .i64 (c.r 3), .int .i64 (c.r 4), .int .i64 (c.r 5), .int .i64 (c.r 6), .int .i64 (c.r 7)], .int .i64 x.a, .int .i64 v] p.val fun e w'' => e = .returned (.agg #[.int .i64 C0.pc, .int .i64 (C0.r 0), .int .i64 (C0.r 1), .int .i64 (C0.r 2), .int .i64 (C0.r 3), .int .i64 (C0.r 4), .int .i64 (C0.r 5), .int .i64 (C0.r 6), .int .i64 (C0.r 7)]) ∧ ∃ p' : StU w 25 g c x, w'' = p'.val := fun p => (hla p.val).mono fun e w'' h => ⟨h.1, ⟨w'', p.kp.kept h.2⟩, rfl⟩
  have q2 : ∀ p : StU w 25 g c x, Calls Tryd.prog 24 #[.agg #[.int .i64 C0.pc, .int .i64 (C0.r 0), .int .i64 (C0.r 1), .int .i64 (C0.r 2), .int .i64 (C0.r 3), .int .i64 (C0.r 4), .int .i64 (C0.r 5), .int .i64 (C0.r 6), .int .i64 (C0.r 7)], .int .i64 x.b, .int .i64 u] p.val fun e w'' => e = .returned (.agg #[.int .i64 C1.pc, .int .i64 (C1.r 0), .int .i64 (C1.r 1), .int .i64 (C1.r 2), .int .i64 (C1.r 3), .int .i64 (C1.r 4), .int .i64 (C1.r 5), .int .i64 (C1.r 6), .int .i64 (C1.r 7)]) ∧ ∃ p' : StU w 25 g c x, w'' = p'.val := fun p => (hlb p.val).mono fun e w'' h => ⟨h.1, ⟨w'', p.kp.kept h.2⟩, rfl⟩
  have nek : Nonempty (StU w 25 g c x) := ⟨⟨W1, HS.out⟩⟩
  have HR := hd (HS.out.kept ((Below.refl _ W1).drew))
  clear hla hlb
  go_upto_region 3 with fail
  refine wp_region_last (α := StU w 25 g c x) 9 StU.val (by kernel_rfl) (by kernel_rfl) (by kernel_rfl) rfl rfl ⟨W1.drew, HR.out⟩ rfl ?_
  simp only [List.take_succ_cons, List.take_zero]
  repeat (go_big_quiet_step (first | with_reducible exact q1 _ | with_reducible exact q2 _))
  refine wpQuiet_nil ?_
  rintro w' ⟨p, rfl⟩
  have HT := hd p.kp
  go_upto_region 4 with fail
  clear c0 c1 c2 c3 c4 c5 c6 c7 c8 i1 i2 f4 q1 q2 nek HR HS
  obtain ⟨w2, hw2⟩ : ∃ W, Hid (p.val = W) := ⟨_, rfl⟩
  rw [hw2.out] at HT ⊢
  clear hw2
  obtain ⟨W3, hW3⟩ : ∃ W, Hid (put9 w2 w.heap.size C1 = W) := ⟨_, rfl⟩
  have HS := hd (HT.out.core (put9_oth _ _ _) (HT.out.x4.nine C1))
  rw [hW3.out] at HS
  clear HT
  unfold put9 at hW3
  rw [hW3.out]
  clear hW3
  obtain ⟨c0, c1, c2, c3, c4, c5, c6, c7, c8⟩ := HS.out.x4.cs
  replace hnx := hnx W3
  go_wp2_with (go_at_call 15; refine hnx.mono ?_; rintro e w4 ⟨rfl, b4⟩; have HT := hd (HS.out.kept b4); obtain ⟨z0, z1, z2, z3, z4, z5, z6, z7, z8⟩ := HT.out.x8.cz; have f8 := HT.out.x8.fr)
  have HE := hd (HT.out.ends D)
  clear HS HT
  unfold put9 at HE
  clear c0 c1 c2 c3 c4 c5 c6 c7 c8 z0 z1 z2 z3 z4 z5 z6 z7 z8 f8
  obtain ⟨R8, RB⟩ := HE.out
  obtain ⟨c0, c1, c2, c3, c4, c5, c6, c7, c8⟩ := R8.cs
  refine bodyPost_ret ?_ rfl ⟨rfl, RB⟩
  clear R8 RB
  generalize World.setCell _ _ _ = Wf at *
  simp [results, Tryd.results14, go_sem, c0, c1, c2, c3, c4, c5, c6, c7, c8]

theorem told_any (c : Core) (ad : Option Addr) (l : List Ins) (cap : Nat) (v : Int) (w : World) (hP : Prg w ad l) :
    Calls Tryd.prog 13 #[coreV c, .slice ad l.length cap, .int .i64 v] w fun e w' => e = .returned (coreV (toldL c l v)) ∧ Below w.heap.size w w' := by
  unfold toldL
  by_cases h : 0 ≤ c.pc ∧ c.pc < l.length
  · rw [if_pos h]
    obtain ⟨p, hp⟩ : ∃ p : Nat, c.pc = p := ⟨c.pc.toNat, by omega⟩
    rw [show c.pc.toNat = p by omega]
    exact told_yes c ad l cap p v hp (by omega) w hP
  · rw [if_neg h]
    exact told_no c ad l.length cap v h w
theorem took_any (c : Core) (ad : Option Addr) (l : List Ins) (cap : Nat) (v u : Int) (w : World) (hP : Prg w ad l) :
    Calls Tryd.prog 14 #[coreV c, .slice ad l.length cap, .int .i64 v, .int .i64 u] w fun e w' => e = .returned (coreV (tookL c l v u)) ∧ Below w.heap.size w w' := by
  unfold tookL
  by_cases h : 0 ≤ c.pc ∧ c.pc < l.length
  · rw [if_pos h]
    obtain ⟨p, hp⟩ : ∃ p : Nat, c.pc = p := ⟨c.pc.toNat, by omega⟩
    rw [show c.pc.toNat = p by omega]
    exact took_yes c ad l cap p v u hp (by omega) w hP
  · rw [if_neg h]
    exact took_no c ad l.length cap v u h w
end Go.Proofs.YtfkdaimhdjaefaaDoor
