/- Step, of any core and code. -/
import Derived.Test.YthnjeejnnhadeaaGreatDoorGUb
import Derived.Test.YthnjeejnnhadeaaGreatDoorGUd
import Derived.Test.YthnjeejnnhadeaaGreatDoorGXU9
namespace Go.Proofs.YthnjeejnnhadeaaGreatDoor.Cpu
open Go.RowKit
set_option maxRecDepth 100000 in
set_option maxHeartbeats 1000000 in
theorem step_out (c : Core) (a : Option Addr) (n cap : Nat) (tick self : Int) (hout : ¬ (0 ≤ c.pc ∧ c.pc < n)) (w : World) (hF : Fld w) :
  Calls Tryz.prog 104 #[coreV c, .slice a n cap, .int .i64 tick, .int .i64 self] w fun e w' => e = .returned (.tuple #[coreV c, wantV 1 0 0]) ∧ Below w.heap.size w w' := by
 have hcur := current_no c a n cap hout (((w.alloc (.cells (coreA c) 112)).alloc (.cells zeroC 112)).alloc (.cells zeroW 178))
 have HS := hd (fun w1 => StB.mk' (w1 := w1) (tc := 112) (tw := 178) (c := c) ⟨0, 0, 0, 0, 0⟩ hF)
 clear hout hF
 unfold coreV wantV wantA
 unfold noIns at *
 unfold coreV at hcur
 unfold coreA zeroC zeroW at *
 go_enter Tryz.func104, Tryz.ntmps104
 go_wp2_with fail
 go_step3
 go_upto_region 2 with (first | (go_at_call 163; refine hcur.mono ?_; rintro e w1 ⟨rfl, b1⟩))
 replace HS := hd (HS.out w1 b1)
 clear hcur b1
 unfold insA at HS
 simp only at HS
 obtain ⟨g, hg⟩ : ∃ g, Hid (w1.heap.size = g) := ⟨_, rfl⟩
 obtain ⟨W1, hW1⟩ : ∃ W, Hid (w1.alloc (.cells #[.int .i64 0, .int .i64 0, .int .i64 0, .int .i64 0, .int .i64 0] 84) = W) := ⟨_, rfl⟩
 rw [hW1.out] at HS ⊢
 rw [hg.out] at HS ⊢
 clear hW1 hg
 obtain ⟨c0, c1, c2, c3, c4, c5, c6, c7, c8⟩ := HS.out.x4.cs
 obtain ⟨z0, z1, z2, z3, z4, z5, z6, z7, z8⟩ := HS.out.x8.cz
 obtain ⟨y0, y1, y2⟩ := Box.cw (k := 0) (u := 0) (v := 0) HS.out.x9
 have f8 := HS.out.x8.fr
 have f9 := HS.out.x9.fr
 have HE := hd (HS.out.ends c 1 0 0)
 clear HS
 go_wp2
 unfold put9 put3 at HE
 rw [Exit.noGoto_ret]
 clear c0 c1 c2 c3 c4 c5 c6 c7 c8 z0 z1 z2 z3 z4 z5 z6 z7 z8 y0 y1 y2 f8 f9
 obtain ⟨R8, R9, RB⟩ := HE.out
 obtain ⟨c0, c1, c2, c3, c4, c5, c6, c7, c8⟩ := R8.cs
 obtain ⟨y0, y1, y2⟩ := R9.cw
 refine bodyPost_ret ?_ rfl ⟨rfl, RB⟩
 clear R8 R9 RB
 generalize World.setCell _ _ _ = Wf at *
 simp [results, Tryz.results104, go_sem, c0, c1, c2, c3, c4, c5, c6, c7, c8, y0, y1, y2]
def doL (c : Core) (op : Int) (a b d : Nat) (imm tick self : Int) : Core :=
 if op = 1 then (c.set a imm).next else
 if op = 2 then (c.set a (c.r b)).next else
 if op = 22 then Core.mk imm c.r else
 if op = 23 then (if c.r a = 0 then c.next else Core.mk imm c.r) else
 if op = 32 then (c.set a tick).next else
 if op = 33 then (c.set a self).next else (c.set a (reckL op (c.r b) (c.r d))).next
def stepI (c : Core) (op : Int) (a b d : Nat) (imm tick self : Int) : Core × (Int × Int × Int) :=
  (if (wantL c op a b d imm).1 = 0 then doL c op a b d imm tick self else
   if (wantL c op a b d imm).1 = 5 ∨ (wantL c op a b d imm).1 = 8 ∨ (wantL c op a b d imm).1 = 9 then c.next else c, wantL c op a b d imm)
def stepL (c : Core) (l : List Ins) (tick self : Int) : Core × (Int × Int × Int) :=
 if 0 ≤ c.pc ∧ c.pc < l.length then
  if (wrong (l.getD c.pc.toNat default) l.length 8).1 = 0 then
   stepI c (l.getD c.pc.toNat default).op (l.getD c.pc.toNat default).a.toNat (l.getD c.pc.toNat default).b.toNat (l.getD c.pc.toNat default).c.toNat (l.getD c.pc.toNat default).imm tick self
  else (c, (1, 0, 0))
 else (c, (1, 0, 0))
theorem ins_form {x : Ins} {n : Int} (h : (wrong x n 8).1 = 0) : x = ⟨x.op, (x.a.toNat : Int), (x.b.toNat : Int), (x.c.toNat : Int), x.imm⟩ ∧ x.a.toNat < 8 ∧ x.b.toNat < 8 ∧ x.c.toNat < 8 ∧ 0 ≤ x.op ∧ x.op < 34 := by
 obtain ⟨h1, h2, h3, h4, h5, _⟩ := wrong_ok h
 have a1 := regE_ok h3
 have a2 := regE_ok h4
 have a3 := regE_ok h5
 obtain ⟨op, a, b, c, imm⟩ := x
 simp only at *
 refine ⟨?_, by omega, by omega, by omega, h1, h2⟩
 rw [Int.toNat_of_nonneg a1.1, Int.toNat_of_nonneg a2.1, Int.toNat_of_nonneg a3.1]
theorem want_zero {c : Core} {op a b d imm : Int} (h : (wantL c op a b d imm).1 = 0) : wantL c op a b d imm = (0, 0, 0) ∧ op ≠ 0 ∧ (op < 24 ∨ 31 < op) := by
 unfold wantL at *
 by_cases h0 : op = 0
 ·rw [if_pos h0] at h; simp at h
 rw [if_neg h0] at h ⊢
 by_cases h1 : op = 24
 ·rw [if_pos h1] at h; simp at h
 rw [if_neg h1] at h ⊢
 by_cases h2 : op = 25
 ·rw [if_pos h2] at h; simp at h
 rw [if_neg h2] at h ⊢
 by_cases h3 : op = 26
 ·rw [if_pos h3] at h; simp at h
 rw [if_neg h3] at h ⊢
 by_cases h4 : op = 27
 ·rw [if_pos h4] at h; simp at h
 rw [if_neg h4] at h ⊢
 by_cases h5 : op = 28
 ·rw [if_pos h5] at h; simp at h
 rw [if_neg h5] at h ⊢
 by_cases h6 : op = 29
 ·rw [if_pos h6] at h; simp at h
 rw [if_neg h6] at h ⊢
 by_cases h7 : op = 30
 ·rw [if_pos h7] at h; simp at h
 rw [if_neg h7] at h ⊢
 by_cases h8 : op = 31
 ·rw [if_pos h8] at h; simp at h
 rw [if_neg h8]
 exact ⟨rfl, h0, by omega⟩
theorem step_any (c : Core) (ad : Option Addr) (l : List Ins) (cap : Nat) (tick self : Int) (w : World) (hP : Prg w ad l) (hF : Fld w) :
  Calls Tryz.prog 104 #[coreV c, .slice ad l.length cap, .int .i64 tick, .int .i64 self] w fun e w' => e = .returned (.tuple #[coreV (stepL c l tick self).1, wantT (stepL c l tick self).2]) ∧ Below w.heap.size w w' := by
 unfold stepL
 by_cases h1 : 0 ≤ c.pc ∧ c.pc < l.length
 ·rw [if_pos h1]
  obtain ⟨p, hp⟩ : ∃ p : Nat, c.pc = p := ⟨c.pc.toNat, by omega⟩
  have hlt : p < l.length := by omega
  have ep : c.pc.toNat = p := by omega
  rw [ep]
  by_cases h2 : (wrong (l.getD p default) l.length 8).1 = 0
  ·rw [if_pos h2]
   obtain ⟨hx, ha, hb, hd', ho1, ho2⟩ := ins_form h2
   generalize (l.getD p default).a.toNat = a at *
   generalize (l.getD p default).b.toNat = b at *
   generalize (l.getD p default).c.toNat = d at *
   generalize (l.getD p default).op = op at *
   generalize (l.getD p default).imm = imm at *
   unfold stepI
   by_cases h3 : (wantL c op a b d imm).1 = 0
   ·rw [if_pos h3]
    obtain ⟨hw, hn0, hn1⟩ := want_zero h3
    simp only [hw]
    unfold doL
    by_cases o1 : op = 1
    ·rw [if_pos o1]; exact step_set c ad l cap p tick self hp hlt w hP hF op imm a b d ha hb hd' hx h2 hw o1
    rw [if_neg o1]
    by_cases o2 : op = 2
    ·rw [if_pos o2]; exact step_move c ad l cap p tick self hp hlt w hP hF op imm a b d ha hb hd' hx h2 hw o2
    rw [if_neg o2]
    by_cases o3 : op = 22
    ·rw [if_pos o3]; exact step_jump c ad l cap p tick self hp hlt w hP hF op imm a b d ha hb hd' hx h2 hw o3
    rw [if_neg o3]
    by_cases o4 : op = 23
    ·rw [if_pos o4]
     by_cases hr : c.r a = 0
     ·rw [if_pos hr]; exact step_else c ad l cap p tick self hp hlt w hP hF op imm a b d ha hb hd' hx h2 hw o4 (by simpa using hr)
     ·rw [if_neg hr]; exact step_if c ad l cap p tick self hp hlt w hP hF op imm a b d ha hb hd' hx h2 hw o4 hr
    rw [if_neg o4]
    by_cases o5 : op = 32
    ·rw [if_pos o5]; exact step_now c ad l cap p tick self hp hlt w hP hF op imm a b d ha hb hd' hx h2 hw o5
    rw [if_neg o5]
    by_cases o6 : op = 33
    ·rw [if_pos o6]; exact step_self c ad l cap p tick self hp hlt w hP hF op imm a b d ha hb hd' hx h2 hw o6
    rw [if_neg o6]
    exact step_reck c ad l cap p tick self hp hlt w hP hF op imm a b d ha hb hd' hx h2 hw (by omega) (by omega)
   ·rw [if_neg h3]
    by_cases h4 : (wantL c op a b d imm).1 = 5 ∨ (wantL c op a b d imm).1 = 8 ∨ (wantL c op a b d imm).1 = 9
    ·rw [if_pos h4]
     exact step_next c ad l cap p tick self hp hlt w hP hF op imm a b d ha hb hd' hx h2 _ _ _ rfl h4
    ·rw [if_neg h4]
     exact step_hold c ad l cap p tick self hp hlt w hP hF op imm a b d ha hb hd' hx h2 _ _ _ rfl (by simpa using h3) (by simp; omega) (by simp; omega) (by simp; omega)
  ·rw [if_neg h2]
   exact step_bad c ad l cap p tick self hp hlt w hP hF h2
 ·rw [if_neg h1]
  exact step_out c ad l.length cap tick self h1 w hF
end Go.Proofs.YthnjeejnnhadeaaGreatDoor.Cpu

namespace Go.Proofs.YthnjeejnnhadeaaGreatDoor.Cpu
open Go.RowKit
def toldL (c : Core) (l : List Ins) (v : Int) : Core :=
 if 0 ≤ c.pc ∧ c.pc < l.length then (c.lay (l.getD c.pc.toNat default).a v).next else c.next
def tookL (c : Core) (l : List Ins) (v u : Int) : Core :=
 if 0 ≤ c.pc ∧ c.pc < l.length then ((c.lay (l.getD c.pc.toNat default).a v).lay (l.getD c.pc.toNat default).b u).next else c.next
structure StT (w W : World) (tc : TypeId) (g : Nat) (c : Core) (x : Ins) : Prop where
 x4 : Box W tc w.heap.size (coreA c)
 x8 : Box W tc (w.heap.size + 1) zeroC
 x10 : Box W 84 g (insA x)
 g2 : w.heap.size + 1 < g
 bel : Below w.heap.size w W
theorem told_begin (w : World) (c : Core) (tc : TypeId) : Box ((w.alloc (.cells (coreA c) tc)).alloc (.cells zeroC tc)) tc w.heap.size (coreA c) ∧ Box ((w.alloc (.cells (coreA c) tc)).alloc (.cells zeroC tc)) tc (w.heap.size + 1) zeroC := by
 refine ⟨(Box.new w tc (coreA c)).bel (below_al' _ _), ?_⟩
 have h := Box.new (w.alloc (.cells (coreA c) tc)) tc zeroC
 simpa using h
theorem StT.mk' {w w1 : World} {tc : TypeId} {c : Core} (x : Ins) (b1 : Below ((w.alloc (.cells (coreA c) tc)).alloc (.cells zeroC tc)).heap.size ((w.alloc (.cells (coreA c) tc)).alloc (.cells zeroC tc)) w1) :
  StT w (w1.alloc (.cells (insA x) 84)) tc w1.heap.size c x := by
 obtain ⟨h4, h8⟩ := told_begin w c tc
 have hb0 := two_bel w (.cells (coreA c) tc) (.cells zeroC tc)
 have hb1 := hb0.trans (b1.mono hb0.size)
 have ha := below_al' w1 (.cells (insA x) 84)
 exact ⟨(h4.bel b1).bel ha, (h8.bel b1).bel ha, Box.new _ _ _, by have := b1.size; simp at this; omega, hb1.alloc hb1.size _⟩
theorem StT.kept {w W W' : World} {tc : TypeId} {g : Nat} {c : Core} {x : Ins} (h : StT w W tc g c x) (hb : Below W.heap.size W W') : StT w W' tc g c x :=
 ⟨h.x4.bel hb, h.x8.bel hb, h.x10.bel hb, h.g2, h.bel.trans (hb.mono h.bel.size)⟩
theorem StT.core {w W W' : World} {tc : TypeId} {g : Nat} {c d : Core} {x : Ins} (h : StT w W tc g c x) (ho : Oth w.heap.size W W') (hx : Box W' tc w.heap.size (coreA d)) : StT w W' tc g d x :=
 ⟨hx, h.x8.oth ho (by omega), h.x10.oth ho (by have := h.g2; omega), h.g2, ho.below h.bel (Nat.le_refl _)⟩
theorem StT.ends {w W : World} {tc : TypeId} {g : Nat} {c : Core} {x : Ins} (h : StT w W tc g c x) (d : Core) :
  Box (put9 W (w.heap.size + 1) d) tc (w.heap.size + 1) (coreA d) ∧ Below w.heap.size w (put9 W (w.heap.size + 1) d) :=
 ⟨h.x8.nine d, (put9_oth _ _ d).below h.bel (by omega)⟩
structure StU (w : World) (tc : TypeId) (g : Nat) (c : Core) (x : Ins) where
 val : World
 kp : StT w val tc g c x
set_option maxRecDepth 100000 in
set_option maxHeartbeats 2000000 in
theorem told_no (c : Core) (ad : Option Addr) (n cap : Nat) (v : Int) (hout : ¬ (0 ≤ c.pc ∧ c.pc < n)) (w : World) :
  Calls Tryz.prog 183 #[coreV c, .slice ad n cap, .int .i64 v] w fun e w' => e = .returned (coreV c.next) ∧ Below w.heap.size w w' := by
 obtain ⟨D, hD⟩ : ∃ D, Hid (c.next = D) := ⟨_, rfl⟩
 have hnx := next_any c
 rw [hD.out] at hnx ⊢
 clear hD
 have hcur := current_no c ad n cap hout ((w.alloc (.cells (coreA c) 112)).alloc (.cells zeroC 112))
 have HS := hd (fun w1 => StT.mk' (w := w) (w1 := w1) (tc := 112) (c := c) ⟨0, 0, 0, 0, 0⟩)
 clear hout
 unfold coreV at *
 unfold noIns at *
 unfold coreA zeroC at *
 go_enter Tryz.func183, Tryz.ntmps183
 go_upto_region 2 with (first | (go_at_call 163; refine hcur.mono ?_; rintro e w1 ⟨rfl, b1⟩))
 replace HS := hd (HS.out w1 b1)
 clear hcur b1
 unfold insA at HS
 simp only at HS
 obtain ⟨g, hg⟩ : ∃ g, Hid (w1.heap.size = g) := ⟨_, rfl⟩
 obtain ⟨W1, hW1⟩ : ∃ W, Hid (w1.alloc (.cells #[.int .i64 0, .int .i64 0, .int .i64 0, .int .i64 0, .int .i64 0] 84) = W) := ⟨_, rfl⟩
 rw [hW1.out] at HS ⊢
 rw [hg.out] at HS ⊢
 clear hW1 hg
 obtain ⟨c0, c1, c2, c3, c4, c5, c6, c7, c8⟩ := HS.out.x4.cs
 replace hnx := hnx W1
 go_wp2_with (go_at_call 162; refine hnx.mono ?_; rintro e w2 ⟨rfl, b2⟩; have HT := hd (HS.out.kept b2); obtain ⟨z0, z1, z2, z3, z4, z5, z6, z7, z8⟩ := HT.out.x8.cz; have f8 := HT.out.x8.fr)
 have HE := hd (HT.out.ends D)
 clear HS HT
 unfold put9 at HE
 clear c0 c1 c2 c3 c4 c5 c6 c7 c8 z0 z1 z2 z3 z4 z5 z6 z7 z8 f8
 obtain ⟨R8, RB⟩ := HE.out
 obtain ⟨c0, c1, c2, c3, c4, c5, c6, c7, c8⟩ := R8.cs
 refine bodyPost_ret ?_ rfl ⟨rfl, RB⟩
 clear R8 RB
 generalize World.setCell _ _ _ = Wf at *
 simp [results, Tryz.results183, go_sem, c0, c1, c2, c3, c4, c5, c6, c7, c8]
set_option maxRecDepth 100000 in
set_option maxHeartbeats 2000000 in
theorem told_yes (c : Core) (ad : Option Addr) (l : List Ins) (cap p : Nat) (v : Int) (hp : c.pc = (p : Int)) (hlt : p < l.length) (w : World) (hP : Prg w ad l) :
  Calls Tryz.prog 183 #[coreV c, .slice ad l.length cap, .int .i64 v] w fun e w' => e = .returned (coreV (c.lay (l.getD p default).a v).next) ∧ Below w.heap.size w w' := by
 have hcur := current_yes c ad l cap p hp hlt _ (hP.kept (two_bel w (.cells (coreA c) 112) (.cells zeroC 112)))
 generalize l.getD p default = x at *
 generalize l.length = n at *
 have hla := laid_any c x.a v
 obtain ⟨C1, hC1⟩ : ∃ D, Hid (c.lay x.a v = D) := ⟨_, rfl⟩
 rw [hC1.out] at hla ⊢
 have hnx := next_any C1
 obtain ⟨D, hD⟩ : ∃ D, Hid (C1.next = D) := ⟨_, rfl⟩
 rw [hD.out] at hnx ⊢
 clear hD hC1 hP hp hlt
 have HS := hd (fun w1 => StT.mk' (w := w) (w1 := w1) (tc := 112) (c := c) x)
 unfold coreV at *
 unfold insV at *
 unfold coreA zeroC at *
 go_enter Tryz.func183, Tryz.ntmps183
 go_upto_region 2 with (first | (go_at_call 163; refine hcur.mono ?_; rintro e w1 ⟨rfl, b1⟩))
 replace HS := hd (HS.out w1 b1)
 clear hcur b1
 unfold insA at HS
 obtain ⟨g, hg⟩ : ∃ g, Hid (w1.heap.size = g) := ⟨_, rfl⟩
 obtain ⟨W1, hW1⟩ : ∃ W, Hid (w1.alloc (.cells #[.int .i64 x.op, .int .i64 x.a, .int .i64 x.b, .int .i64 x.c, .int .i64 x.imm] 84) = W) := ⟨_, rfl⟩
 rw [hW1.out] at HS ⊢
 rw [hg.out] at HS ⊢
 clear hW1 hg
 obtain ⟨c0, c1, c2, c3, c4, c5, c6, c7, c8⟩ := HS.out.x4.cs
 obtain ⟨i0, i1, i2, i3, i4⟩ := HS.out.x10.ci
 replace hla := hla W1
 go_upto_region 4 with (go_at_call 230; refine hla.mono ?_; rintro e w2 ⟨rfl, b2⟩; have HT := hd (HS.out.kept b2); obtain ⟨c0, c1, c2, c3, c4, c5, c6, c7, c8⟩ := HT.out.x4.cs; have f4 := HT.out.x4.fr)
 clear hla c0 c1 c2 c3 c4 c5 c6 c7 c8 i0 i1 i2 i3 i4 b2 f4 HS
 obtain ⟨W3, hW3⟩ : ∃ W, Hid (put9 w2 w.heap.size C1 = W) := ⟨_, rfl⟩
 have HS := hd (HT.out.core (put9_oth _ _ _) (HT.out.x4.nine C1))
 rw [hW3.out] at HS
 clear HT
 unfold put9 at hW3
 rw [hW3.out]
 clear hW3
 obtain ⟨c0, c1, c2, c3, c4, c5, c6, c7, c8⟩ := HS.out.x4.cs
 replace hnx := hnx W3
 go_wp2_with (go_at_call 162; refine hnx.mono ?_; rintro e w4 ⟨rfl, b4⟩; have HT := hd (HS.out.kept b4); obtain ⟨z0, z1, z2, z3, z4, z5, z6, z7, z8⟩ := HT.out.x8.cz; have f8 := HT.out.x8.fr)
 have HE := hd (HT.out.ends D)
 clear HS HT
 unfold put9 at HE
 clear c0 c1 c2 c3 c4 c5 c6 c7 c8 z0 z1 z2 z3 z4 z5 z6 z7 z8 f8
 obtain ⟨R8, RB⟩ := HE.out
 obtain ⟨c0, c1, c2, c3, c4, c5, c6, c7, c8⟩ := R8.cs
 refine bodyPost_ret ?_ rfl ⟨rfl, RB⟩
 clear R8 RB
 generalize World.setCell _ _ _ = Wf at *
 simp [results, Tryz.results183, go_sem, c0, c1, c2, c3, c4, c5, c6, c7, c8]
end Go.Proofs.YthnjeejnnhadeaaGreatDoor.Cpu

namespace Go.Proofs.YthnjeejnnhadeaaGreatDoor.Cpu
open Go.RowKit
set_option maxRecDepth 100000 in
set_option maxHeartbeats 2000000 in
theorem took_no (c : Core) (ad : Option Addr) (n cap : Nat) (v u : Int) (hout : ¬ (0 ≤ c.pc ∧ c.pc < n)) (w : World) :
  Calls Tryz.prog 224 #[coreV c, .slice ad n cap, .int .i64 v, .int .i64 u] w fun e w' => e = .returned (coreV c.next) ∧ Below w.heap.size w w' := by
 obtain ⟨D, hD⟩ : ∃ D, Hid (c.next = D) := ⟨_, rfl⟩
 have hnx := next_any c
 rw [hD.out] at hnx ⊢
 clear hD
 have hcur := current_no c ad n cap hout ((w.alloc (.cells (coreA c) 112)).alloc (.cells zeroC 112))
 have HS := hd (fun w1 => StT.mk' (w := w) (w1 := w1) (tc := 112) (c := c) ⟨0, 0, 0, 0, 0⟩)
 clear hout
 unfold coreV at *
 unfold noIns at *
 unfold coreA zeroC at *
 go_enter Tryz.func224, Tryz.ntmps224
 go_upto_region 2 with (first | (go_at_call 163; refine hcur.mono ?_; rintro e w1 ⟨rfl, b1⟩))
 replace HS := hd (HS.out w1 b1)
 clear hcur b1
 unfold insA at HS
 simp only at HS
 obtain ⟨g, hg⟩ : ∃ g, Hid (w1.heap.size = g) := ⟨_, rfl⟩
 obtain ⟨W1, hW1⟩ : ∃ W, Hid (w1.alloc (.cells #[.int .i64 0, .int .i64 0, .int .i64 0, .int .i64 0, .int .i64 0] 84) = W) := ⟨_, rfl⟩
 rw [hW1.out] at HS ⊢
 rw [hg.out] at HS ⊢
 clear hW1 hg
 obtain ⟨c0, c1, c2, c3, c4, c5, c6, c7, c8⟩ := HS.out.x4.cs
 replace hnx := hnx W1
 go_wp2_with (go_at_call 162; refine hnx.mono ?_; rintro e w2 ⟨rfl, b2⟩; have HT := hd (HS.out.kept b2); obtain ⟨z0, z1, z2, z3, z4, z5, z6, z7, z8⟩ := HT.out.x8.cz; have f8 := HT.out.x8.fr)
 have HE := hd (HT.out.ends D)
 clear HS HT
 unfold put9 at HE
 clear c0 c1 c2 c3 c4 c5 c6 c7 c8 z0 z1 z2 z3 z4 z5 z6 z7 z8 f8
 obtain ⟨R8, RB⟩ := HE.out
 obtain ⟨c0, c1, c2, c3, c4, c5, c6, c7, c8⟩ := R8.cs
 refine bodyPost_ret ?_ rfl ⟨rfl, RB⟩
 clear R8 RB
 generalize World.setCell _ _ _ = Wf at *
 simp [results, Tryz.results224, go_sem, c0, c1, c2, c3, c4, c5, c6, c7, c8]
set_option maxRecDepth 100000 in
set_option maxHeartbeats 2000000 in
theorem took_yes (c : Core) (ad : Option Addr) (l : List Ins) (cap p : Nat) (v u : Int) (hp : c.pc = (p : Int)) (hlt : p < l.length) (w : World) (hP : Prg w ad l) :
  Calls Tryz.prog 224 #[coreV c, .slice ad l.length cap, .int .i64 v, .int .i64 u] w fun e w' => e = .returned (coreV ((c.lay (l.getD p default).a v).lay (l.getD p default).b u).next) ∧ Below w.heap.size w w' := by
 have hcur := current_yes c ad l cap p hp hlt _ (hP.kept (two_bel w (.cells (coreA c) 112) (.cells zeroC 112)))
 generalize l.getD p default = x at *
 generalize l.length = n at *
 have hla := laid_any c x.a v
 obtain ⟨C0, hC0⟩ : ∃ D, Hid (c.lay x.a v = D) := ⟨_, rfl⟩
 rw [hC0.out] at hla ⊢
 have hlb := laid_any C0 x.b u
 obtain ⟨C1, hC1⟩ : ∃ D, Hid (C0.lay x.b u = D) := ⟨_, rfl⟩
 rw [hC1.out] at hlb ⊢
 have hnx := next_any C1
 obtain ⟨D, hD⟩ : ∃ D, Hid (C1.next = D) := ⟨_, rfl⟩
 rw [hD.out] at hnx ⊢
 clear hD hC0 hC1 hP hp hlt
 have HS := hd (fun w1 => StT.mk' (w := w) (w1 := w1) (tc := 112) (c := c) x)
 unfold coreV at *
 unfold insV at *
 unfold coreA zeroC at *
 go_enter Tryz.func224, Tryz.ntmps224
 go_upto_region 2 with (first | (go_at_call 163; refine hcur.mono ?_; rintro e w1 ⟨rfl, b1⟩))
 replace HS := hd (HS.out w1 b1)
 clear hcur b1
 unfold insA at HS
 obtain ⟨g, hg⟩ : ∃ g, Hid (w1.heap.size = g) := ⟨_, rfl⟩
 obtain ⟨W1, hW1⟩ : ∃ W, Hid (w1.alloc (.cells #[.int .i64 x.op, .int .i64 x.a, .int .i64 x.b, .int .i64 x.c, .int .i64 x.imm] 84) = W) := ⟨_, rfl⟩
 rw [hW1.out] at HS ⊢
 rw [hg.out] at HS ⊢
 clear hW1 hg
 have c0 : ∀ p : StU w 112 g c x, p.val.cell? ⟨w.heap.size, 0, none⟩ = some (.int .i64 c.pc) := fun p => p.kp.x4.cs.1
 have c1 : ∀ p : StU w 112 g c x, p.val.cell? ⟨w.heap.size, 1, none⟩ = some (.int .i64 (c.r 0)) := fun p => p.kp.x4.cs.2.1
 have c2 : ∀ p : StU w 112 g c x, p.val.cell? ⟨w.heap.size, 2, none⟩ = some (.int .i64 (c.r 1)) := fun p => p.kp.x4.cs.2.2.1
 have c3 : ∀ p : StU w 112 g c x, p.val.cell? ⟨w.heap.size, 3, none⟩ = some (.int .i64 (c.r 2)) := fun p => p.kp.x4.cs.2.2.2.1
 have c4 : ∀ p : StU w 112 g c x, p.val.cell? ⟨w.heap.size, 4, none⟩ = some (.int .i64 (c.r 3)) := fun p => p.kp.x4.cs.2.2.2.2.1
 have c5 : ∀ p : StU w 112 g c x, p.val.cell? ⟨w.heap.size, 5, none⟩ = some (.int .i64 (c.r 4)) := fun p => p.kp.x4.cs.2.2.2.2.2.1
 have c6 : ∀ p : StU w 112 g c x, p.val.cell? ⟨w.heap.size, 6, none⟩ = some (.int .i64 (c.r 5)) := fun p => p.kp.x4.cs.2.2.2.2.2.2.1
 have c7 : ∀ p : StU w 112 g c x, p.val.cell? ⟨w.heap.size, 7, none⟩ = some (.int .i64 (c.r 6)) := fun p => p.kp.x4.cs.2.2.2.2.2.2.2.1
 have c8 : ∀ p : StU w 112 g c x, p.val.cell? ⟨w.heap.size, 8, none⟩ = some (.int .i64 (c.r 7)) := fun p => p.kp.x4.cs.2.2.2.2.2.2.2.2
 have i1 : ∀ p : StU w 112 g c x, p.val.cell? ⟨g, 1, none⟩ = some (.int .i64 x.a) := fun p => p.kp.x10.ci.2.1
 have i2 : ∀ p : StU w 112 g c x, p.val.cell? ⟨g, 2, none⟩ = some (.int .i64 x.b) := fun p => p.kp.x10.ci.2.2.1
 have f4 : ∀ p : StU w 112 g c x, ∀ i, p.val.frozen? ⟨w.heap.size, i, none⟩ = false := fun p => p.kp.x4.fr
 have q1 : ∀ p : StU w 112 g c x, Calls Tryz.prog 230 #[.agg #[.int .i64 c.pc, .int .i64 (c.r 0), .int .i64 (c.r 1), .int .i64 (c.r 2), .int .i64 (c.r 3), .int .i64 (c.r 4), .int .i64 (c.r 5), .int .i64 (c.r 6), .int .i64 (c.r 7)], .int .i64 x.a, .int .i64 v] p.val fun e w'' => e = .returned (.agg #[.int .i64 C0.pc, .int .i64 (C0.r 0), .int .i64 (C0.r 1), .int .i64 (C0.r 2), .int .i64 (C0.r 3), .int .i64 (C0.r 4), .int .i64 (C0.r 5), .int .i64 (C0.r 6), .int .i64 (C0.r 7)]) ∧ ∃ p' : StU w 112 g c x, w'' = p'.val := fun p => (hla p.val).mono fun e w'' h => ⟨h.1, ⟨w'', p.kp.kept h.2⟩, rfl⟩
 have q2 : ∀ p : StU w 112 g c x, Calls Tryz.prog 230 #[.agg #[.int .i64 C0.pc, .int .i64 (C0.r 0), .int .i64 (C0.r 1), .int .i64 (C0.r 2), .int .i64 (C0.r 3), .int .i64 (C0.r 4), .int .i64 (C0.r 5), .int .i64 (C0.r 6), .int .i64 (C0.r 7)], .int .i64 x.b, .int .i64 u] p.val fun e w'' => e = .returned (.agg #[.int .i64 C1.pc, .int .i64 (C1.r 0), .int .i64 (C1.r 1), .int .i64 (C1.r 2), .int .i64 (C1.r 3), .int .i64 (C1.r 4), .int .i64 (C1.r 5), .int .i64 (C1.r 6), .int .i64 (C1.r 7)]) ∧ ∃ p' : StU w 112 g c x, w'' = p'.val := fun p => (hlb p.val).mono fun e w'' h => ⟨h.1, ⟨w'', p.kp.kept h.2⟩, rfl⟩
 have nek : Nonempty (StU w 112 g c x) := ⟨⟨W1, HS.out⟩⟩
 have HR := hd (HS.out.kept ((Below.refl _ W1).drew))
 clear hla hlb
 go_upto_region 3 with fail
 refine wp_region_last (α := StU w 112 g c x) 9 StU.val (by kernel_rfl) (by kernel_rfl) (by kernel_rfl) rfl rfl ⟨W1.drew, HR.out⟩ rfl ?_
 simp only [List.take_succ_cons, List.take_zero]
 repeat (go_big_quiet_step (first | with_reducible exact q1 _ | with_reducible exact q2 _))
 refine wpQuiet_nil ?_
 rintro w' ⟨p, rfl⟩
 have HT := hd p.kp
 go_upto_region 4 with fail
 clear c0 c1 c2 c3 c4 c5 c6 c7 c8 i1 i2 f4 q1 q2 nek HR HS
 obtain ⟨w2, hw2⟩ : ∃ W, Hid (p.val = W) := ⟨_, rfl⟩
 rw [hw2.out] at HT ⊢
 clear hw2
 obtain ⟨W3, hW3⟩ : ∃ W, Hid (put9 w2 w.heap.size C1 = W) := ⟨_, rfl⟩
 have HS := hd (HT.out.core (put9_oth _ _ _) (HT.out.x4.nine C1))
 rw [hW3.out] at HS
 clear HT
 unfold put9 at hW3
 rw [hW3.out]
 clear hW3
 obtain ⟨c0, c1, c2, c3, c4, c5, c6, c7, c8⟩ := HS.out.x4.cs
 replace hnx := hnx W3
 go_wp2_with (go_at_call 162; refine hnx.mono ?_; rintro e w4 ⟨rfl, b4⟩; have HT := hd (HS.out.kept b4); obtain ⟨z0, z1, z2, z3, z4, z5, z6, z7, z8⟩ := HT.out.x8.cz; have f8 := HT.out.x8.fr)
 have HE := hd (HT.out.ends D)
 clear HS HT
 unfold put9 at HE
 clear c0 c1 c2 c3 c4 c5 c6 c7 c8 z0 z1 z2 z3 z4 z5 z6 z7 z8 f8
 obtain ⟨R8, RB⟩ := HE.out
 obtain ⟨c0, c1, c2, c3, c4, c5, c6, c7, c8⟩ := R8.cs
 refine bodyPost_ret ?_ rfl ⟨rfl, RB⟩
 clear R8 RB
 generalize World.setCell _ _ _ = Wf at *
 simp [results, Tryz.results224, go_sem, c0, c1, c2, c3, c4, c5, c6, c7, c8]
theorem told_any (c : Core) (ad : Option Addr) (l : List Ins) (cap : Nat) (v : Int) (w : World) (hP : Prg w ad l) :
  Calls Tryz.prog 183 #[coreV c, .slice ad l.length cap, .int .i64 v] w fun e w' => e = .returned (coreV (toldL c l v)) ∧ Below w.heap.size w w' := by
 unfold toldL
 by_cases h : 0 ≤ c.pc ∧ c.pc < l.length
 ·rw [if_pos h]
  obtain ⟨p, hp⟩ : ∃ p : Nat, c.pc = p := ⟨c.pc.toNat, by omega⟩
  rw [show c.pc.toNat = p by omega]
  exact told_yes c ad l cap p v hp (by omega) w hP
 ·rw [if_neg h]
  exact told_no c ad l.length cap v h w
theorem took_any (c : Core) (ad : Option Addr) (l : List Ins) (cap : Nat) (v u : Int) (w : World) (hP : Prg w ad l) :
  Calls Tryz.prog 224 #[coreV c, .slice ad l.length cap, .int .i64 v, .int .i64 u] w fun e w' => e = .returned (coreV (tookL c l v u)) ∧ Below w.heap.size w w' := by
 unfold tookL
 by_cases h : 0 ≤ c.pc ∧ c.pc < l.length
 ·rw [if_pos h]
  obtain ⟨p, hp⟩ : ∃ p : Nat, c.pc = p := ⟨c.pc.toNat, by omega⟩
  rw [show c.pc.toNat = p by omega]
  exact took_yes c ad l cap p v u hp (by omega) w hP
 ·rw [if_neg h]
  exact took_no c ad l.length cap v u h w
end Go.Proofs.YthnjeejnnhadeaaGreatDoor.Cpu
