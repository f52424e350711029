/- Cores and wants as values and in memory. -/
import Derived.Test.YthhcecllejddeaaGreatDoorGAa
import Derived.Test.YthhcecllejddeaaGreatDoorGCc
import Derived.Laws.Rows
import Derived.Laws.IdiomCopy
import Derived.Deep.MidRow
import Derived.Deep.CutRange
namespace Go.Proofs.YthhcecllejddeaaGreatDoor.Cpu
open Go.RowKit
structure Core where
 pc : Int
 r : Nat → Int
def coreA (c : Core) : Array Value := #[.int .i64 c.pc, .int .i64 (c.r 0), .int .i64 (c.r 1), .int .i64 (c.r 2), .int .i64 (c.r 3), .int .i64 (c.r 4), .int .i64 (c.r 5), .int .i64 (c.r 6), .int .i64 (c.r 7)]
def coreV (c : Core) : Value := .agg (coreA c)
def wantA (k t v : Int) : Array Value := #[.int .i64 k, .int .i64 t, .int .i64 v]
def wantV (k t v : Int) : Value := .agg (wantA k t v)
def Core.next (c : Core) : Core := { c with pc := wrap64 (c.pc + 1) }
def Core.set (c : Core) (j : Nat) (v : Int) : Core := { c with r := fun i => if i = j then v else c.r i }
theorem heap_set_self {w : World} {g o : Nat} {cs : Array Value} {t : TypeId} (h : w.heap[g]? = some (.cells cs t (0, 0))) (v : Value) : (w.setCell ⟨g, o, none⟩ v).heap[g]? = some (.cells (cs.setIfInBounds o v) t (0, 0)) :=
 heap_setCell_same w g o cs t v h
structure Oth (b : Nat) (w w' : World) : Prop where
 os : w'.os = w.os
 tape : w'.tape = w.tape
 output : w'.output = w.output
 size : w'.heap.size = w.heap.size
 block : ∀ k, k ≠ b → w'.heap[k]? = w.heap[k]?
theorem Oth.setCell (w : World) (b o : Nat) (v : Value) : Oth b w (w.setCell ⟨b, o, none⟩ v) := ⟨rfl, rfl, rfl, by simp [World.setCell], fun k hk => Below.heap_setCell _ _ _ _ hk⟩
theorem Oth.trans {b : Nat} {w1 w2 w3 : World} (h : Oth b w1 w2) (k : Oth b w2 w3) : Oth b w1 w3 :=
 ⟨k.os.trans h.os, k.tape.trans h.tape, k.output.trans h.output, k.size.trans h.size, fun i hi => (k.block i hi).trans (h.block i hi)⟩
theorem Oth.below {b B : Nat} {a w w' : World} (h : Oth b w w') (hb : Below B a w) (hB : B ≤ b) : Below B a w' :=
 ⟨h.os.trans hb.os, h.tape.trans hb.tape, h.output.trans hb.output, by rw [h.size]; exact hb.size, fun k hk => (h.block k (by omega)).trans (hb.block k hk)⟩
structure Box (w : World) (t : TypeId) (b : Nat) (cs : Array Value) : Prop where
 obj : w.heap[b]? = some (.cells cs t (0, 0))
section
variable {w w' : World} {t : TypeId} {b : Nat} {cs : Array Value}
theorem Box.cell (h : Box w t b cs) (i : Nat) : w.cell? ⟨b, i, none⟩ = cs[i]? := by rw [cell_of_row _ _ _ _ _ _ h.obj]
theorem Box.fr (h : Box w t b cs) (i : Nat) : w.frozen? ⟨b, i, none⟩ = false := by simp [World.frozen?, h.obj]
theorem Box.lt (h : Box w t b cs) : b < w.heap.size := (Array.getElem?_eq_some_iff.1 h.obj).1
theorem Box.bel (h : Box w t b cs) (hb : Below w.heap.size w w') : Box w' t b cs := ⟨by rw [hb.block b h.lt]; exact h.obj⟩
theorem Box.oth {g : Nat} (h : Box w t b cs) (hb : Oth g w w') (hg : b ≠ g) : Box w' t b cs := ⟨by rw [hb.block b hg]; exact h.obj⟩
theorem Box.put (h : Box w t b cs) (o : Nat) (v : Value) : Box (w.setCell ⟨b, o, none⟩ v) t b (cs.setIfInBounds o v) := ⟨heap_set_self h.obj v⟩
theorem Box.new (w : World) (t : TypeId) (cs : Array Value) : Box (w.alloc (.cells cs t)) t w.heap.size cs := ⟨heap_alloc_new _ _⟩
end
end Go.Proofs.YthhcecllejddeaaGreatDoor.Cpu

namespace Go.Proofs.YthhcecllejddeaaGreatDoor.Cpu
open Go.RowKit
theorem core_at (c : Core) : ∀ j, j < 8 → (coreA c)[1 + j]? = some (.int .i64 (c.r j)) := by
 intro j hj
 have h : j = 0 ∨ j = 1 ∨ j = 2 ∨ j = 3 ∨ j = 4 ∨ j = 5 ∨ j = 6 ∨ j = 7 := by omega
 rcases h with rfl | rfl | rfl | rfl | rfl | rfl | rfl | rfl <;> rfl
theorem core_pc (c : Core) (p : Int) : (coreA c).setIfInBounds 0 (.int .i64 p) = coreA { c with pc := p } := rfl
section
variable {w w' : World} {t : TypeId} {b : Nat} {c : Core}
theorem Box.pc (h : Box w t b (coreA c)) : w.cell? ⟨b, 0, none⟩ = some (.int .i64 c.pc) := h.cell 0
theorem Box.reg (h : Box w t b (coreA c)) (j : Nat) (hj : j < 8) : w.cell? ⟨b, 1 + j, none⟩ = some (.int .i64 (c.r j)) := by rw [h.cell, core_at c j hj]
theorem Box.setPc (h : Box w t b (coreA c)) (p : Int) : Box (w.setCell ⟨b, 0, none⟩ (.int .i64 p)) t b (coreA { c with pc := p }) := by
 rw [← core_pc c p]
 exact h.put _ _
theorem Box.cs (h : Box w t b (coreA c)) : w.cell? ⟨b, 0, none⟩ = some (.int .i64 c.pc) ∧ w.cell? ⟨b, 1, none⟩ = some (.int .i64 (c.r 0)) ∧ w.cell? ⟨b, 2, none⟩ = some (.int .i64 (c.r 1)) ∧ w.cell? ⟨b, 3, none⟩ = some (.int .i64 (c.r 2)) ∧
  w.cell? ⟨b, 4, none⟩ = some (.int .i64 (c.r 3)) ∧ w.cell? ⟨b, 5, none⟩ = some (.int .i64 (c.r 4)) ∧ w.cell? ⟨b, 6, none⟩ = some (.int .i64 (c.r 5)) ∧ w.cell? ⟨b, 7, none⟩ = some (.int .i64 (c.r 6)) ∧ w.cell? ⟨b, 8, none⟩ = some (.int .i64 (c.r 7)) :=
 ⟨h.cell 0, h.cell 1, h.cell 2, h.cell 3, h.cell 4, h.cell 5, h.cell 6, h.cell 7, h.cell 8⟩
end
set_option maxRecDepth 100000 in
set_option maxHeartbeats 1000000 in
theorem next_any (c : Core) (w : World) :
  Calls Tryz.prog 182 #[coreV c] w fun e w' => e = .returned (coreV c.next) ∧ Below w.heap.size w w' := by
 unfold coreV coreA Core.next
 go_enter Tryz.func182, Tryz.ntmps182
 go_wp2
 refine bodyPost_ret (by simp [results, Tryz.results182, go_sem]) rfl ⟨rfl, ?_⟩
 exact ((Below.refl _ w).alloc (Nat.le_refl _) _).alloc (by simp) _
end Go.Proofs.YthhcecllejddeaaGreatDoor.Cpu

namespace Go.Proofs.YthhcecllejddeaaGreatDoor.Cpu
open Go.RowKit
def Core.lay (c : Core) (r v : Int) : Core := if 0 ≤ r ∧ r < 8 then c.set r.toNat v else c
set_option maxRecDepth 100000 in
set_option maxHeartbeats 1000000 in
theorem laid_any (c : Core) (r v : Int) (w : World) :
  Calls Tryz.prog 243 #[coreV c, .int .i64 r, .int .i64 v] w fun e w' => e = .returned (coreV (c.lay r v)) ∧ Below w.heap.size w w' := by
 have hB : ∀ o1 o2 : Obj, Below w.heap.size w ((w.alloc o1).alloc o2) := fun o1 o2 => ((Below.refl _ w).alloc (Nat.le_refl _) _).alloc (by simp) _
 unfold Core.lay
 by_cases h1 : 0 ≤ r
 ·by_cases h2 : r < 8
  ·rw [if_pos ⟨h1, h2⟩]
   obtain ⟨V, hV⟩ : ∃ V, Hid (coreV (c.set r.toNat v) = V) := ⟨_, rfl⟩
   rw [hV.out]
   have h : r = 0 ∨ r = 1 ∨ r = 2 ∨ r = 3 ∨ r = 4 ∨ r = 5 ∨ r = 6 ∨ r = 7 := by omega
   rcases h with rfl | rfl | rfl | rfl | rfl | rfl | rfl | rfl
   all_goals
    clear h1 h2
    unfold coreV coreA
    go_enter Tryz.func243, Tryz.ntmps243
    go_wp2
    refine bodyPost_ret (v := V) (by rw [← hV.out]; simp [results, Tryz.results243, go_sem, coreV, coreA, Core.set]) rfl ⟨rfl, ?_⟩
    exact hB _ _
  ·rw [if_neg (by omega)]
   have d2 : decide (r < 8) = false := decide_eq_false h2
   unfold coreV coreA
   go_enter Tryz.func243, Tryz.ntmps243
   go_wp2
   refine bodyPost_ret (by simp [results, Tryz.results243, go_sem]) rfl ⟨rfl, ?_⟩
   exact hB _ _
 ·rw [if_neg (by omega)]
  have d1 : decide (0 ≤ r) = false := decide_eq_false h1
  unfold coreV coreA
  go_enter Tryz.func243, Tryz.ntmps243
  go_wp2
  refine bodyPost_ret (by simp [results, Tryz.results243, go_sem]) rfl ⟨rfl, ?_⟩
  exact hB _ _
end Go.Proofs.YthhcecllejddeaaGreatDoor.Cpu

namespace Go.Proofs.YthhcecllejddeaaGreatDoor.Cpu
open Go.RowKit
theorem two_bel (w : World) (o1 o2 : Obj) : Below w.heap.size w ((w.alloc o1).alloc o2) := ((Below.refl _ w).alloc (Nat.le_refl _) _).alloc (by simp) _
theorem below_al' (w : World) (o : Obj) : Below w.heap.size w (w.alloc o) := (Below.refl _ w).alloc (Nat.le_refl _) o
theorem three_bel (w : World) (o1 o2 o3 : Obj) : Below w.heap.size w (((w.alloc o1).alloc o2).alloc o3) := (two_bel w o1 o2).alloc (by simp; omega) _
def noIns : Value := .agg #[.int .i64 0, .int .i64 0, .int .i64 0, .int .i64 0, .int .i64 0]
set_option maxRecDepth 100000 in
set_option maxHeartbeats 1000000 in
theorem current_no (c : Core) (a : Option Addr) (n cap : Nat) (h : ¬ (0 ≤ c.pc ∧ c.pc < n)) (w : World) :
  Calls Tryz.prog 183 #[coreV c, .slice a n cap] w fun e w' => e = .returned (.tuple #[noIns, .bool false]) ∧ Below w.heap.size w w' := by
 have hB := two_bel w
 unfold coreV coreA noIns
 by_cases h1 : c.pc < 0
 ·go_enter Tryz.func183, Tryz.ntmps183
  go_wp2
  refine bodyPost_ret (by simp [results, Tryz.results183, go_sem]) rfl ⟨rfl, ?_⟩
  exact hB _ _
 ·have d1 : decide (c.pc < 0) = false := decide_eq_false h1
  have h2 : (n : Int) ≤ c.pc := by omega
  clear h
  go_enter Tryz.func183, Tryz.ntmps183
  go_wp2
  refine bodyPost_ret (by simp [results, Tryz.results183, go_sem]) rfl ⟨rfl, ?_⟩
  exact hB _ _
set_option maxRecDepth 100000 in
set_option maxHeartbeats 1000000 in
theorem current_yes (c : Core) (a : Option Addr) (l : List Ins) (cap p : Nat) (hp : c.pc = (p : Int)) (hlt : p < l.length) (w : World) (hP : Prg w a l) :
  Calls Tryz.prog 183 #[coreV c, .slice a l.length cap] w fun e w' => e = .returned (.tuple #[insV (l.getD p default), .bool true]) ∧ Below w.heap.size w w' := by
 have hB := two_bel w
 obtain ⟨pc, r⟩ := c
 simp only at hp
 subst hp
 have d1 : decide ((p : Int) < 0) = false := decide_eq_false (by omega)
 have d2 : decide ((l.length : Int) ≤ (p : Int)) = false := decide_eq_false (by omega)
 have hlt' : (p : Int) < (l.length : Int) := by omega
 obtain ⟨b, off, rfl, hx⟩ := hP p hlt
 have hk := fun o1 o2 => hx.kept (hB o1 o2)
 have k0 := fun o1 o2 => (hk o1 o2).c0
 have k1 := fun o1 o2 => (hk o1 o2).c1
 have k2 := fun o1 o2 => (hk o1 o2).c2
 have k3 := fun o1 o2 => (hk o1 o2).c3
 have k4 := fun o1 o2 => (hk o1 o2).c4
 generalize l.getD p default = x at *
 clear hx hP hk
 unfold coreV coreA insV
 go_enter Tryz.func183, Tryz.ntmps183
 go_wp2
 refine bodyPost_ret (by simp [results, Tryz.results183, go_sem]) rfl ⟨rfl, ?_⟩
 exact hB _ _
set_option maxRecDepth 100000 in
set_option maxHeartbeats 1000000 in
theorem stands_any (x : Ins) (n : Int) (w : World) (hF : Fld w) :
  Calls Tryz.prog 184 #[insV x, .int .i64 n] w fun e w' => e = .returned (.bool ((wrong x n 8).1 == 0)) ∧ Below w.heap.size w w' := by
 have hb := (Below.refl _ w).alloc (Nat.le_refl _) (.cells #[.int .i64 x.op, .int .i64 x.a, .int .i64 x.b, .int .i64 x.c, .int .i64 x.imm] 54)
 have h := check_any x n 8 _ (hF.kept hb)
 have HB := hd hb
 generalize (wrong x n 8).1 = E at *
 clear hF hb
 unfold insV at *
 go_enter Tryz.func184, Tryz.ntmps184
 go_wp2_with (go_at_call 127; refine h.mono ?_; rintro e w1 ⟨rfl, b1⟩)
 go_ret
 exact ⟨rfl, HB.out.trans (b1.mono HB.out.size)⟩
end Go.Proofs.YthhcecllejddeaaGreatDoor.Cpu

namespace Go.Proofs.YthhcecllejddeaaGreatDoor.Cpu
open Go.RowKit
def wantL (c : Core) (op a b d imm : Int) : Int × Int × Int :=
 if op = 0 then (1, 0, 0) else
 if op = 24 then (2, c.r b.toNat, c.r d.toNat) else
 if op = 25 then (3, 0, 0) else
 if op = 26 then (4, 0, 0) else
 if op = 27 then (5, 0, c.r a.toNat) else
 if op = 28 then (6, 0, c.r a.toNat) else
 if op = 29 then (7, imm, 0) else
 if op = 30 then (8, imm, 0) else
 if op = 31 then (9, 0, c.r a.toNat) else (0, 0, 0)
def wantT (t : Int × Int × Int) : Value := wantV t.1 t.2.1 t.2.2
set_option maxRecDepth 100000 in
set_option maxHeartbeats 1000000 in
theorem wanted_any (c : Core) (imm : Int) (a b d : Nat) (w : World) :
  Calls Tryz.prog 185 #[coreV c, insV ⟨22, a, b, d, imm⟩] w fun e w' => e = .returned (wantT (wantL c 22 a b d imm)) ∧ Below w.heap.size w w' := by
 have hB := three_bel w
 have e : wantL c 22 a b d imm = (0, 0, 0) := by simp [wantL]
 rw [e]
 unfold coreV coreA insV wantT wantV wantA
 clear e
 go_enter Tryz.func185, Tryz.ntmps185
 go_wp2
 refine bodyPost_ret (by simp [results, Tryz.results185, go_sem]) rfl ⟨rfl, ?_⟩
 exact hB _ _ _
end Go.Proofs.YthhcecllejddeaaGreatDoor.Cpu

namespace Go.Proofs.YthhcecllejddeaaGreatDoor.Cpu
open Go.RowKit
def zeroC : Array Value := #[.int .i64 0, .int .i64 0, .int .i64 0, .int .i64 0, .int .i64 0, .int .i64 0, .int .i64 0, .int .i64 0, .int .i64 0]
def zeroW : Array Value := #[.int .i64 0, .int .i64 0, .int .i64 0]
theorem step_begin (w : World) (c : Core) (tc tw : TypeId) :
  Box (((w.alloc (.cells (coreA c) tc)).alloc (.cells zeroC tc)).alloc (.cells zeroW tw)) tc w.heap.size (coreA c) ∧
  Box (((w.alloc (.cells (coreA c) tc)).alloc (.cells zeroC tc)).alloc (.cells zeroW tw)) tc (w.heap.size + 1) zeroC ∧
  Box (((w.alloc (.cells (coreA c) tc)).alloc (.cells zeroC tc)).alloc (.cells zeroW tw)) tw (w.heap.size + 1 + 1) zeroW := by
 refine ⟨((Box.new w tc (coreA c)).bel (below_al' _ _)).bel (below_al' _ _), ?_, ?_⟩
 ·have h := (Box.new (w.alloc (.cells (coreA c) tc)) tc zeroC).bel (below_al' _ (.cells zeroW tw))
  simpa using h
 ·have h := Box.new ((w.alloc (.cells (coreA c) tc)).alloc (.cells zeroC tc)) tw zeroW
  simpa using h
def insA (x : Ins) : Array Value := #[.int .i64 x.op, .int .i64 x.a, .int .i64 x.b, .int .i64 x.c, .int .i64 x.imm]
structure StB (w W : World) (tc tw : TypeId) (g : Nat) (c : Core) (z8 z9 : Array Value) (x : Ins) : Prop where
 x4 : Box W tc w.heap.size (coreA c)
 x8 : Box W tc (w.heap.size + 1) z8
 x9 : Box W tw (w.heap.size + 1 + 1) z9
 x10 : Box W 54 g (insA x)
 g3 : w.heap.size + 1 + 1 < g
 bel : Below w.heap.size w W
 fld : Fld W
theorem StB.mk' {w w1 : World} {tc tw : TypeId} {c : Core} (x : Ins) (hF : Fld w) (b1 : Below (((w.alloc (.cells (coreA c) tc)).alloc (.cells zeroC tc)).alloc (.cells zeroW tw)).heap.size (((w.alloc (.cells (coreA c) tc)).alloc (.cells zeroC tc)).alloc (.cells zeroW tw)) w1) :
  StB w (w1.alloc (.cells (insA x) 54)) tc tw w1.heap.size c zeroC zeroW x := by
 obtain ⟨h4, h8, h9⟩ := step_begin w c tc tw
 have hb0 := three_bel w (.cells (coreA c) tc) (.cells zeroC tc) (.cells zeroW tw)
 have hb1 := hb0.trans (b1.mono hb0.size)
 have hb2 := hb1.alloc hb1.size (.cells (insA x) 54)
 have ha := below_al' w1 (.cells (insA x) 54)
 exact ⟨(h4.bel b1).bel ha, (h8.bel b1).bel ha, (h9.bel b1).bel ha, Box.new _ _ _, by have := b1.size; simp at this; omega, hb2, hF.kept hb2⟩
theorem StB.kept {w W W' : World} {tc tw : TypeId} {g : Nat} {c : Core} {z8 z9 : Array Value} {x : Ins} (h : StB w W tc tw g c z8 z9 x) (hb : Below W.heap.size W W') : StB w W' tc tw g c z8 z9 x :=
 ⟨h.x4.bel hb, h.x8.bel hb, h.x9.bel hb, h.x10.bel hb, h.g3, h.bel.trans (hb.mono h.bel.size), h.fld.kept hb⟩
theorem Box.cz {w : World} {t : TypeId} {b : Nat} (h : Box w t b zeroC) : w.cell? ⟨b, 0, none⟩ = some (.int .i64 0) ∧ w.cell? ⟨b, 1, none⟩ = some (.int .i64 0) ∧ w.cell? ⟨b, 2, none⟩ = some (.int .i64 0) ∧ w.cell? ⟨b, 3, none⟩ = some (.int .i64 0) ∧
  w.cell? ⟨b, 4, none⟩ = some (.int .i64 0) ∧ w.cell? ⟨b, 5, none⟩ = some (.int .i64 0) ∧ w.cell? ⟨b, 6, none⟩ = some (.int .i64 0) ∧ w.cell? ⟨b, 7, none⟩ = some (.int .i64 0) ∧ w.cell? ⟨b, 8, none⟩ = some (.int .i64 0) :=
 ⟨h.cell 0, h.cell 1, h.cell 2, h.cell 3, h.cell 4, h.cell 5, h.cell 6, h.cell 7, h.cell 8⟩
theorem Box.cw {w : World} {t : TypeId} {b : Nat} {k u v : Int} (h : Box w t b (wantA k u v)) : w.cell? ⟨b, 0, none⟩ = some (.int .i64 k) ∧ w.cell? ⟨b, 1, none⟩ = some (.int .i64 u) ∧ w.cell? ⟨b, 2, none⟩ = some (.int .i64 v) :=
 ⟨h.cell 0, h.cell 1, h.cell 2⟩
theorem Box.ci {w : World} {t : TypeId} {b : Nat} {x : Ins} (h : Box w t b (insA x)) : w.cell? ⟨b, 0, none⟩ = some (.int .i64 x.op) ∧ w.cell? ⟨b, 1, none⟩ = some (.int .i64 x.a) ∧ w.cell? ⟨b, 2, none⟩ = some (.int .i64 x.b) ∧ w.cell? ⟨b, 3, none⟩ = some (.int .i64 x.c) ∧ w.cell? ⟨b, 4, none⟩ = some (.int .i64 x.imm) :=
 ⟨h.cell 0, h.cell 1, h.cell 2, h.cell 3, h.cell 4⟩
def put9 (W : World) (b : Nat) (c : Core) : World :=
 ((((((((W.setCell ⟨b, 0, none⟩ (.int .i64 c.pc)).setCell ⟨b, 1, none⟩ (.int .i64 (c.r 0))).setCell ⟨b, 2, none⟩ (.int .i64 (c.r 1))).setCell ⟨b, 3, none⟩ (.int .i64 (c.r 2))).setCell ⟨b, 4, none⟩ (.int .i64 (c.r 3))).setCell ⟨b, 5, none⟩ (.int .i64 (c.r 4))).setCell ⟨b, 6, none⟩ (.int .i64 (c.r 5))).setCell ⟨b, 7, none⟩ (.int .i64 (c.r 6))).setCell ⟨b, 8, none⟩ (.int .i64 (c.r 7))
def put3 (W : World) (b : Nat) (k u v : Int) : World := ((W.setCell ⟨b, 0, none⟩ (.int .i64 k)).setCell ⟨b, 1, none⟩ (.int .i64 u)).setCell ⟨b, 2, none⟩ (.int .i64 v)
theorem put9_oth (W : World) (b : Nat) (c : Core) : Oth b W (put9 W b c) :=
 ((((((((Oth.setCell _ _ _ _).trans (Oth.setCell _ _ _ _)).trans (Oth.setCell _ _ _ _)).trans (Oth.setCell _ _ _ _)).trans (Oth.setCell _ _ _ _)).trans (Oth.setCell _ _ _ _)).trans (Oth.setCell _ _ _ _)).trans (Oth.setCell _ _ _ _)).trans (Oth.setCell _ _ _ _)
theorem put3_oth (W : World) (b : Nat) (k u v : Int) : Oth b W (put3 W b k u v) := ((Oth.setCell _ _ _ _).trans (Oth.setCell _ _ _ _)).trans (Oth.setCell _ _ _ _)
theorem nine_set (v0 v1 v2 v3 v4 v5 v6 v7 v8 u0 u1 u2 u3 u4 u5 u6 u7 u8 : Value) :
  ((((((((#[v0, v1, v2, v3, v4, v5, v6, v7, v8].setIfInBounds 0 u0).setIfInBounds 1 u1).setIfInBounds 2 u2).setIfInBounds 3 u3).setIfInBounds 4 u4).setIfInBounds 5 u5).setIfInBounds 6 u6).setIfInBounds 7 u7).setIfInBounds 8 u8 = #[u0, u1, u2, u3, u4, u5, u6, u7, u8] := by simp
theorem Box.nine {w : World} {t : TypeId} {b : Nat} {v0 v1 v2 v3 v4 v5 v6 v7 v8 : Value} (h : Box w t b #[v0, v1, v2, v3, v4, v5, v6, v7, v8]) (c : Core) : Box (put9 w b c) t b (coreA c) := by
 have h1 := ((((((((h.put 0 (.int .i64 c.pc)).put 1 (.int .i64 (c.r 0))).put 2 (.int .i64 (c.r 1))).put 3 (.int .i64 (c.r 2))).put 4 (.int .i64 (c.r 3))).put 5 (.int .i64 (c.r 4))).put 6 (.int .i64 (c.r 5))).put 7 (.int .i64 (c.r 6))).put 8 (.int .i64 (c.r 7))
 rw [nine_set] at h1
 exact h1
theorem Box.three {w : World} {t : TypeId} {b : Nat} {v0 v1 v2 : Value} (h : Box w t b #[v0, v1, v2]) (k u v : Int) : Box (put3 w b k u v) t b (wantA k u v) := by
 have h1 := ((h.put 0 (.int .i64 k)).put 1 (.int .i64 u)).put 2 (.int .i64 v)
 exact h1
theorem StB.ends {w W : World} {tc tw : TypeId} {g : Nat} {c : Core} {x : Ins} (h : StB w W tc tw g c zeroC zeroW x) (d : Core) (k u v : Int) :
  Box (put3 (put9 W (w.heap.size + 1) d) (w.heap.size + 1 + 1) k u v) tc (w.heap.size + 1) (coreA d) ∧ Box (put3 (put9 W (w.heap.size + 1) d) (w.heap.size + 1 + 1) k u v) tw (w.heap.size + 1 + 1) (wantA k u v) ∧
   Below w.heap.size w (put3 (put9 W (w.heap.size + 1) d) (w.heap.size + 1 + 1) k u v) :=
 ⟨(h.x8.nine d).oth (put3_oth _ _ _ _ _) (by omega), (h.x9.oth (put9_oth _ _ d) (by omega)).three k u v,
  (put3_oth _ _ _ _ _).below ((put9_oth _ _ d).below h.bel (by omega)) (by omega)⟩
end Go.Proofs.YthhcecllejddeaaGreatDoor.Cpu

namespace Go.Proofs.YthhcecllejddeaaGreatDoor.Cpu
open Go.RowKit
structure StW (w W : World) (tc tw : TypeId) (g gw : Nat) (c : Core) (x : Ins) (k u v : Int) : Prop where
 st : StB w W tc tw g c zeroC zeroW x
 x12 : Box W tw gw (wantA k u v)
 n10 : gw ≠ g
 g12 : w.heap.size + 1 + 1 < gw
theorem StW.mk' {w w2 w3 : World} {tc tw : TypeId} {g : Nat} {c : Core} {x : Ins} (h : StB w w2 tc tw g c zeroC zeroW x) (b3 : Below w2.heap.size w2 w3) (k u v : Int) :
  StW w (w3.alloc (.cells (wantA k u v) tw)) tc tw g w3.heap.size c x k u v := by
 have h3 := h.kept b3
 exact ⟨h3.kept (below_al' _ _), Box.new _ _ _, by have := h3.x10.lt; omega, by have := h3.x10.lt; have := h3.g3; omega⟩
theorem StW.core {w W W' : World} {tc tw : TypeId} {g gw : Nat} {c d : Core} {x : Ins} {k u v : Int} (h : StW w W tc tw g gw c x k u v) (ho : Oth w.heap.size W W') (hx : Box W' tc w.heap.size (coreA d)) (hF : 1 < w.heap.size) : StW w W' tc tw g gw d x k u v :=
 ⟨⟨hx, h.st.x8.oth ho (by omega), h.st.x9.oth ho (by omega), h.st.x10.oth ho (by have := h.st.g3; omega), h.st.g3, ho.below h.st.bel (Nat.le_refl _), fun i hi => by
  have := h.st.fld i hi
  rw [World.cell?_of_block (w := W) (ho.block 1 (by omega))]
  exact this⟩, h.x12.oth ho (by have := h.g12; omega), h.n10, h.g12⟩
end Go.Proofs.YthhcecllejddeaaGreatDoor.Cpu
