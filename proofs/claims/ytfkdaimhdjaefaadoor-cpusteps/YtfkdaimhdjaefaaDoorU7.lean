/- Step: what it begins with. -/
import Derived.Test.YtfkdaimhdjaefaaDoorU5
import Derived.Test.YtfkdaimhdjaefaaDoorU6
namespace Go.Proofs.YtfkdaimhdjaefaaDoor
open Go.RowKit

def zeroC : Array Value := #[.int .i64 0, .int .i64 0, .int .i64 0, .int .i64 0, .int .i64 0, .int .i64 0, .int .i64 0, .int .i64 0, .int .i64 0]
def zeroW : Array Value := #[.int .i64 0, .int .i64 0, .int .i64 0]

/-- The boxes that a step begins with. -/
theorem step_begin (w : World) (c : Core) (tc tw : TypeId) :
    Box (((w.alloc (.cells (coreA c) tc)).alloc (.cells zeroC tc)).alloc (.cells zeroW tw)) tc w.heap.size (coreA c) ∧
    Box (((w.alloc (.cells (coreA c) tc)).alloc (.cells zeroC tc)).alloc (.cells zeroW tw)) tc (w.heap.size + 1) zeroC ∧
    Box (((w.alloc (.cells (coreA c) tc)).alloc (.cells zeroC tc)).alloc (.cells zeroW tw)) tw (w.heap.size + 1 + 1) zeroW := by
  refine ⟨((Box.new w tc (coreA c)).bel (below_al' _ _)).bel (below_al' _ _), ?_, ?_⟩
  · have h := (Box.new (w.alloc (.cells (coreA c) tc)) tc zeroC).bel (below_al' _ (.cells zeroW tw))
    simpa using h
  · have h := Box.new ((w.alloc (.cells (coreA c) tc)).alloc (.cells zeroC tc)) tw zeroW
    simpa using h

def insA (x : Ins) : Array Value := #[.int .i64 x.op, .int .i64 x.a, .int .i64 x.b, .int .i64 x.c, .int .i64 x.imm]

/-- The boxes of a step: the core, both answers, the instruction. -/
structure StB (w W : World) (tc tw : TypeId) (g : Nat) (c : Core) (z8 z9 : Array Value) (x : Ins) : Prop where
  x4 : Box W tc w.heap.size (coreA c)
  x8 : Box W tc (w.heap.size + 1) z8
  x9 : Box W tw (w.heap.size + 1 + 1) z9
  x10 : Box W 28 g (insA x)
  g3 : w.heap.size + 1 + 1 < g
  bel : Below w.heap.size w W
  fld : Fld W

theorem StB.mk' {w w1 : World} {tc tw : TypeId} {c : Core} (x : Ins) (hF : Fld w) (b1 : Below (((w.alloc (.cells (coreA c) tc)).alloc (.cells zeroC tc)).alloc (.cells zeroW tw)).heap.size (((w.alloc (.cells (coreA c) tc)).alloc (.cells zeroC tc)).alloc (.cells zeroW tw)) w1) :
    StB w (w1.alloc (.cells (insA x) 28)) tc tw w1.heap.size c zeroC zeroW x := by
  obtain ⟨h4, h8, h9⟩ := step_begin w c tc tw
  have hb0 := three_bel w (.cells (coreA c) tc) (.cells zeroC tc) (.cells zeroW tw)
  have hb1 := hb0.trans (b1.mono hb0.size)
  have hb2 := hb1.alloc hb1.size (.cells (insA x) 28)
  have ha := below_al' w1 (.cells (insA x) 28)
  exact ⟨(h4.bel b1).bel ha, (h8.bel b1).bel ha, (h9.bel b1).bel ha, Box.new _ _ _, by have := b1.size; simp at this; omega, hb2, hF.kept hb2⟩
theorem StB.kept {w W W' : World} {tc tw : TypeId} {g : Nat} {c : Core} {z8 z9 : Array Value} {x : Ins} (h : StB w W tc tw g c z8 z9 x) (hb : Below W.heap.size W W') : StB w W' tc tw g c z8 z9 x :=
  ⟨h.x4.bel hb, h.x8.bel hb, h.x9.bel hb, h.x10.bel hb, h.g3, h.bel.trans (hb.mono h.bel.size), h.fld.kept hb⟩

theorem Box.cz {w : World} {t : TypeId} {b : Nat} (h : Box w t b zeroC) : w.cell? ⟨b, 0, none⟩ = some (.int .i64 0) ∧ w.cell? ⟨b, 1, none⟩ = some (.int .i64 0) ∧ w.cell? ⟨b, 2, none⟩ = some (.int .i64 0) ∧ w.cell? ⟨b, 3, none⟩ = some (.int .i64 0) ∧
    w.cell? ⟨b, 4, none⟩ = some (.int .i64 0) ∧ w.cell? ⟨b, 5, none⟩ = some (.int .i64 0) ∧ w.cell? ⟨b, 6, none⟩ = some (.int .i64 0) ∧ w.cell? ⟨b, 7, none⟩ = some (.int .i64 0) ∧ w.cell? ⟨b, 8, none⟩ = some (.int .i64 0) :=
  ⟨h.cell 0, h.cell 1, h.cell 2, h.cell 3, h.cell 4, h.cell 5, h.cell 6, h.cell 7, h.cell 8⟩
theorem Box.cw {w : World} {t : TypeId} {b : Nat} {k u v : Int} (h : Box w t b (wantA k u v)) : w.cell? ⟨b, 0, none⟩ = some (.int .i64 k) ∧ w.cell? ⟨b, 1, none⟩ = some (.int .i64 u) ∧ w.cell? ⟨b, 2, none⟩ = some (.int .i64 v) :=
  ⟨h.cell 0, h.cell 1, h.cell 2⟩
theorem Box.ci {w : World} {t : TypeId} {b : Nat} {x : Ins} (h : Box w t b (insA x)) : w.cell? ⟨b, 0, none⟩ = some (.int .i64 x.op) ∧ w.cell? ⟨b, 1, none⟩ = some (.int .i64 x.a) ∧ w.cell? ⟨b, 2, none⟩ = some (.int .i64 x.b) ∧ w.cell? ⟨b, 3, none⟩ = some (.int .i64 x.c) ∧ w.cell? ⟨b, 4, none⟩ = some (.int .i64 x.imm) :=
  ⟨h.cell 0, h.cell 1, h.cell 2, h.cell 3, h.cell 4⟩

/-- Nine cells and three, written one by one. -/
def put9 (W : World) (b : Nat) (c : Core) : World :=
  ((((((((W.setCell ⟨b, 0, none⟩ (.int .i64 c.pc)).setCell ⟨b, 1, none⟩ (.int .i64 (c.r 0))).setCell ⟨b, 2, none⟩ (.int .i64 (c.r 1))).setCell ⟨b, 3, none⟩ (.int .i64 (c.r 2))).setCell ⟨b, 4, none⟩ (.int .i64 (c.r 3))).setCell ⟨b, 5, none⟩ (.int .i64 (c.r 4))).setCell ⟨b, 6, none⟩ (.int .i64 (c.r 5))).setCell ⟨b, 7, none⟩ (.int .i64 (c.r 6))).setCell ⟨b, 8, none⟩ (.int .i64 (c.r 7))
def put3 (W : World) (b : Nat) (k u v : Int) : World := ((W.setCell ⟨b, 0, none⟩ (.int .i64 k)).setCell ⟨b, 1, none⟩ (.int .i64 u)).setCell ⟨b, 2, none⟩ (.int .i64 v)
theorem put9_oth (W : World) (b : Nat) (c : Core) : Oth b W (put9 W b c) :=
  ((((((((Oth.setCell _ _ _ _).trans (Oth.setCell _ _ _ _)).trans (Oth.setCell _ _ _ _)).trans (Oth.setCell _ _ _ _)).trans (Oth.setCell _ _ _ _)).trans (Oth.setCell _ _ _ _)).trans (Oth.setCell _ _ _ _)).trans (Oth.setCell _ _ _ _)).trans (Oth.setCell _ _ _ _)
theorem put3_oth (W : World) (b : Nat) (k u v : Int) : Oth b W (put3 W b k u v) := ((Oth.setCell _ _ _ _).trans (Oth.setCell _ _ _ _)).trans (Oth.setCell _ _ _ _)
theorem nine_set (v0 v1 v2 v3 v4 v5 v6 v7 v8 u0 u1 u2 u3 u4 u5 u6 u7 u8 : Value) :
    ((((((((#[v0, v1, v2, v3, v4, v5, v6, v7, v8].setIfInBounds 0 u0).setIfInBounds 1 u1).setIfInBounds 2 u2).setIfInBounds 3 u3).setIfInBounds 4 u4).setIfInBounds 5 u5).setIfInBounds 6 u6).setIfInBounds 7 u7).setIfInBounds 8 u8 = #[u0, u1, u2, u3, u4, u5, u6, u7, u8] := by simp
theorem Box.nine {w : World} {t : TypeId} {b : Nat} {v0 v1 v2 v3 v4 v5 v6 v7 v8 : Value} (h : Box w t b #[v0, v1, v2, v3, v4, v5, v6, v7, v8]) (c : Core) : Box (put9 w b c) t b (coreA c) := by
  have h1 := ((((((((h.put 0 (.int .i64 c.pc)).put 1 (.int .i64 (c.r 0))).put 2 (.int .i64 (c.r 1))).put 3 (.int .i64 (c.r 2))).put 4 (.int .i64 (c.r 3))).put 5 (.int .i64 (c.r 4))).put 6 (.int .i64 (c.r 5))).put 7 (.int .i64 (c.r 6))).put 8 (.int .i64 (c.r 7))
  rw [nine_set] at h1
  exact h1
theorem Box.three {w : World} {t : TypeId} {b : Nat} {v0 v1 v2 : Value} (h : Box w t b #[v0, v1, v2]) (k u v : Int) : Box (put3 w b k u v) t b (wantA k u v) := by
  have h1 := ((h.put 0 (.int .i64 k)).put 1 (.int .i64 u)).put 2 (.int .i64 v)
  exact h1

/-- The two answers written, and nothing else of what was there. -/
theorem StB.ends {w W : World} {tc tw : TypeId} {g : Nat} {c : Core} {x : Ins} (h : StB w W tc tw g c zeroC zeroW x) (d : Core) (k u v : Int) :
    Box (put3 (put9 W (w.heap.size + 1) d) (w.heap.size + 1 + 1) k u v) tc (w.heap.size + 1) (coreA d) ∧ Box (put3 (put9 W (w.heap.size + 1) d) (w.heap.size + 1 + 1) k u v) tw (w.heap.size + 1 + 1) (wantA k u v) ∧
      Below w.heap.size w (put3 (put9 W (w.heap.size + 1) d) (w.heap.size + 1 + 1) k u v) :=
  ⟨(h.x8.nine d).oth (put3_oth _ _ _ _ _) (by omega), (h.x9.oth (put9_oth _ _ d) (by omega)).three k u v,
    (put3_oth _ _ _ _ _).below ((put9_oth _ _ d).below h.bel (by omega)) (by omega)⟩

set_option maxRecDepth 100000 in
set_option maxHeartbeats 1000000 in
theorem step_bad (c : Core) (a : Option Addr) (l : List Ins) (cap p : Nat) (tick self : Int) (hp : c.pc = (p : Int)) (hlt : p < l.length) (w : World) (hP : Prg w a l) (hF : Fld w) (hbad : (wrong (l.getD p default) l.length 8).1 ≠ 0) :
    Calls Tryd.prog 7 #[coreV c, .slice a l.length cap, .int .i64 tick, .int .i64 self] w fun e w' => e = .returned (.tuple #[coreV c, wantV 1 0 0]) ∧ Below w.heap.size w w' := by
  have hb0 := three_bel w (.cells (coreA c) 25) (.cells zeroC 25) (.cells zeroW 30)
  have hcur := current_yes c a l cap p hp hlt _ (hP.kept hb0)
  have HS := hd (fun x w1 => StB.mk' (w1 := w1) (tc := 25) (tw := 30) (c := c) x hF)
  have hst := stands_any (l.getD p default) l.length
  rw [show ((wrong (l.getD p default) l.length 8).1 == 0) = false from by simpa using hbad] at hst
  generalize l.getD p default = x at *
  generalize l.length = n at *
  clear hbad hP hb0 hF hlt hp
  unfold coreV wantV wantA
  unfold insV at *
  unfold coreV at hcur
  unfold coreA zeroC zeroW at *
  go_enter Tryd.func7, Tryd.ntmps7
  go_wp2_with fail
  go_step3
  go_upto_region 2 with (first | (go_at_call 17; refine hcur.mono ?_; rintro e w1 ⟨rfl, b1⟩))
  replace HS := hd (HS.out x w1 b1)
  clear hcur b1
  unfold insA at HS
  obtain ⟨g, hg⟩ : ∃ g, Hid (w1.heap.size = g) := ⟨_, rfl⟩
  obtain ⟨W1, hW1⟩ : ∃ W, Hid (w1.alloc (.cells #[.int .i64 x.op, .int .i64 x.a, .int .i64 x.b, .int .i64 x.c, .int .i64 x.imm] 28) = W) := ⟨_, rfl⟩
  rw [hW1.out] at HS ⊢
  rw [hg.out] at HS ⊢
  clear hW1 hg
  have hst := hst W1 HS.out.fld
  obtain ⟨i0, i1, i2, i3, i4⟩ := HS.out.x10.ci
  go_upto_if 27 with (go_at_call 18; refine hst.mono ?_; rintro e w2 ⟨rfl, b2⟩)
  replace HS := hd (HS.out.kept b2)
  clear hst b2 i0 i1 i2 i3 i4
  obtain ⟨c0, c1, c2, c3, c4, c5, c6, c7, c8⟩ := HS.out.x4.cs
  obtain ⟨z0, z1, z2, z3, z4, z5, z6, z7, z8⟩ := HS.out.x8.cz
  obtain ⟨y0, y1, y2⟩ := Box.cw (k := 0) (u := 0) (v := 0) HS.out.x9
  have f8 := HS.out.x8.fr
  have f9 := HS.out.x9.fr
  have HE := hd (HS.out.ends c 1 0 0)
  clear HS
  go_wp2
  unfold put9 put3 at HE
  rw [Exit.noGoto_ret]
  clear c0 c1 c2 c3 c4 c5 c6 c7 c8 z0 z1 z2 z3 z4 z5 z6 z7 z8 y0 y1 y2 f8 f9
  obtain ⟨R8, R9, RB⟩ := HE.out
  obtain ⟨c0, c1, c2, c3, c4, c5, c6, c7, c8⟩ := R8.cs
  obtain ⟨y0, y1, y2⟩ := R9.cw
  refine bodyPost_ret ?_ rfl ⟨rfl, RB⟩
  clear R8 R9 RB
  generalize World.setCell _ _ _ = Wf at *
  simp [results, Tryd.results7, go_sem, c0, c1, c2, c3, c4, c5, c6, c7, c8, y0, y1, y2]
end Go.Proofs.YtfkdaimhdjaefaaDoor
