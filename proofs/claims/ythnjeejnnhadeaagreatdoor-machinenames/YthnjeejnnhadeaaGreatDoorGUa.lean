/- Cores and wants as values and in memory. -/
import Derived.Test.YthnjeejnnhadeaaGreatDoorGAa
import Derived.Test.YthnjeejnnhadeaaGreatDoorGCb
import Derived.Laws.Rows
import Derived.Laws.IdiomCopy
import Derived.Deep.MidRow
import Derived.Deep.CutRange
namespace Go.Proofs.YthnjeejnnhadeaaGreatDoor.Cpu
open Go.RowKit
structure Core where
 pc : Int
 r : Nat → Int
def coreA (c : Core) : Array Value := #[.int .i64 c.pc, .int .i64 (c.r 0), .int .i64 (c.r 1), .int .i64 (c.r 2), .int .i64 (c.r 3), .int .i64 (c.r 4), .int .i64 (c.r 5), .int .i64 (c.r 6), .int .i64 (c.r 7)]
def coreV (c : Core) : Value := .agg (coreA c)
def wantA (k t v : Int) : Array Value := #[.int .i64 k, .int .i64 t, .int .i64 v]
def wantV (k t v : Int) : Value := .agg (wantA k t v)
def Core.next (c : Core) : Core := { c with pc := wrap64 (c.pc + 1) }
def Core.set (c : Core) (j : Nat) (v : Int) : Core := { c with r := fun i => if i = j then v else c.r i }
theorem heap_set_self {w : World} {g o : Nat} {cs : Array Value} {t : TypeId} (h : w.heap[g]? = some (.cells cs t (0, 0))) (v : Value) : (w.setCell ⟨g, o, none⟩ v).heap[g]? = some (.cells (cs.setIfInBounds o v) t (0, 0)) :=
 heap_setCell_same w g o cs t v h
structure Oth (b : Nat) (w w' : World) : Prop where
 os : w'.os = w.os
 tape : w'.tape = w.tape
 output : w'.output = w.output
 size : w'.heap.size = w.heap.size
 block : ∀ k, k ≠ b → w'.heap[k]? = w.heap[k]?
theorem Oth.setCell (w : World) (b o : Nat) (v : Value) : Oth b w (w.setCell ⟨b, o, none⟩ v) := ⟨rfl, rfl, rfl, by simp [World.setCell], fun k hk => Below.heap_setCell _ _ _ _ hk⟩
theorem Oth.refl (b : Nat) (w : World) : Oth b w w := ⟨rfl, rfl, rfl, rfl, fun _ _ => rfl⟩
theorem Oth.trans {b : Nat} {w1 w2 w3 : World} (h : Oth b w1 w2) (k : Oth b w2 w3) : Oth b w1 w3 :=
 ⟨k.os.trans h.os, k.tape.trans h.tape, k.output.trans h.output, k.size.trans h.size, fun i hi => (k.block i hi).trans (h.block i hi)⟩
theorem Oth.below {b B : Nat} {a w w' : World} (h : Oth b w w') (hb : Below B a w) (hB : B ≤ b) : Below B a w' :=
 ⟨h.os.trans hb.os, h.tape.trans hb.tape, h.output.trans hb.output, by rw [h.size]; exact hb.size, fun k hk => (h.block k (by omega)).trans (hb.block k hk)⟩
theorem Oth.setCells (b : Nat) : ∀ (vs : List Value) (o : Nat) (w : World), Oth b w (w.setCells b o vs)
 | [], _, w => Oth.refl b w
 | v :: vs, o, w => (Oth.setCell w b o v).trans (Oth.setCells b vs (o + 1) _)
theorem setAll_at : ∀ (vs : List Value) (cs : Array Value) (o i : Nat), o + vs.length ≤ cs.size → (Alu.setAll cs o vs)[i]? = if o ≤ i ∧ i < o + vs.length then vs[i - o]? else cs[i]?
 | [], cs, o, i, _ => by rw [if_neg (by simp)]; rfl
 | v :: vs, cs, o, i, h => by
  simp only [List.length_cons] at h ⊢
  rw [Alu.setAll, setAll_at vs (cs.setIfInBounds o v) (o + 1) i (by simp; omega)]
  by_cases h1 : o + 1 ≤ i ∧ i < o + 1 + vs.length
  ·rw [if_pos h1, if_pos (by omega), show i - o = i - (o + 1) + 1 by omega, List.getElem?_cons_succ]
  ·rw [if_neg h1]
   by_cases h2 : i = o
   ·subst h2
    rw [if_pos (by omega), Nat.sub_self, List.getElem?_cons_zero, Array.getElem?_setIfInBounds_self_of_lt (by omega)]
   ·rw [if_neg (by omega), Array.getElem?_setIfInBounds_ne (by omega)]
theorem setAll_whole (cs vs : Array Value) (h : vs.size = cs.size) : Alu.setAll cs 0 vs.toList = vs := by
 apply Array.ext_getElem?
 intro i
 rw [setAll_at _ _ _ _ (by simp [h])]
 by_cases h1 : i < vs.size
 ·rw [if_pos (by simpa using h1)]
  simp
 ·rw [if_neg (by simpa using h1)]
  simp only [Nat.not_lt] at h1
  rw [Array.getElem?_eq_none (by omega), Array.getElem?_eq_none h1]
structure Box (w : World) (t : TypeId) (b : Nat) (cs : Array Value) : Prop where
 obj : w.heap[b]? = some (.cells cs t (0, 0))
section
variable {w w' : World} {t : TypeId} {b : Nat} {cs : Array Value}
theorem Box.cell (h : Box w t b cs) (i : Nat) : w.cell? ⟨b, i, none⟩ = cs[i]? := by rw [cell_of_row _ _ _ _ _ _ h.obj]
theorem Box.fr (h : Box w t b cs) (i : Nat) : w.frozen? ⟨b, i, none⟩ = false := by simp [World.frozen?, h.obj]
theorem Box.lt (h : Box w t b cs) : b < w.heap.size := (Array.getElem?_eq_some_iff.1 h.obj).1
theorem Box.bel (h : Box w t b cs) (hb : Below w.heap.size w w') : Box w' t b cs := ⟨by rw [hb.block b h.lt]; exact h.obj⟩
theorem Box.oth {g : Nat} (h : Box w t b cs) (hb : Oth g w w') (hg : b ≠ g) : Box w' t b cs := ⟨by rw [hb.block b hg]; exact h.obj⟩
theorem Box.put (h : Box w t b cs) (o : Nat) (v : Value) : Box (w.setCell ⟨b, o, none⟩ v) t b (cs.setIfInBounds o v) := ⟨heap_set_self h.obj v⟩
theorem Box.new (w : World) (t : TypeId) (cs : Array Value) : Box (w.alloc (.cells cs t)) t w.heap.size cs := ⟨heap_alloc_new _ _⟩
theorem Box.store (h : Box w t b cs) (vs : Array Value) (hl : vs.size = cs.size) (hv : ∀ v ∈ vs.toList, v.oneCell' = true) :
  ∃ W : World, (storeCells ⟨b, 0, none⟩ vs.toList).run Tryz.prog w = .ok () W ∧ Box W t b vs ∧ Oth b w W := by
 have h1 := run_storeCells_cells (P := Tryz.prog) b 0 vs.toList 0 w (fun j hj => by simp only [Nat.zero_add]; rw [h.cell]; simp at hj; simp; omega) (fun j _ => h.fr _) hv
 exact ⟨_, h1, ⟨by rw [Alu.setCells_row _ _ _ _ _ _ h.obj, setAll_whole _ _ hl]⟩, Oth.setCells _ _ _ _⟩
end
end Go.Proofs.YthnjeejnnhadeaaGreatDoor.Cpu

namespace Go.Proofs.YthnjeejnnhadeaaGreatDoor.Cpu
open Go.RowKit
theorem core_at (c : Core) : ∀ j, j < 8 → (coreA c)[1 + j]? = some (.int .i64 (c.r j)) := by
 intro j hj
 have h : j = 0 ∨ j = 1 ∨ j = 2 ∨ j = 3 ∨ j = 4 ∨ j = 5 ∨ j = 6 ∨ j = 7 := by omega
 rcases h with rfl | rfl | rfl | rfl | rfl | rfl | rfl | rfl <;> rfl
theorem core_put (c : Core) (v : Int) : ∀ j, j < 8 → (coreA c).setIfInBounds (1 + j) (.int .i64 v) = coreA (c.set j v) := by
 intro j hj
 have h : j = 0 ∨ j = 1 ∨ j = 2 ∨ j = 3 ∨ j = 4 ∨ j = 5 ∨ j = 6 ∨ j = 7 := by omega
 rcases h with rfl | rfl | rfl | rfl | rfl | rfl | rfl | rfl <;> rfl
theorem core_pc (c : Core) (p : Int) : (coreA c).setIfInBounds 0 (.int .i64 p) = coreA { c with pc := p } := rfl
section
variable {w w' : World} {t : TypeId} {b : Nat} {c : Core}
theorem Box.pc (h : Box w t b (coreA c)) : w.cell? ⟨b, 0, none⟩ = some (.int .i64 c.pc) := h.cell 0
theorem Box.reg (h : Box w t b (coreA c)) (j : Nat) (hj : j < 8) : w.cell? ⟨b, 1 + j, none⟩ = some (.int .i64 (c.r j)) := by rw [h.cell, core_at c j hj]
theorem Box.set (h : Box w t b (coreA c)) (j : Nat) (hj : j < 8) (v : Int) : Box (w.setCell ⟨b, 1 + j, none⟩ (.int .i64 v)) t b (coreA (c.set j v)) := by
 rw [← core_put c v j hj]
 exact h.put _ _
theorem Box.setPc (h : Box w t b (coreA c)) (p : Int) : Box (w.setCell ⟨b, 0, none⟩ (.int .i64 p)) t b (coreA { c with pc := p }) := by
 rw [← core_pc c p]
 exact h.put _ _
theorem Box.cs (h : Box w t b (coreA c)) : w.cell? ⟨b, 0, none⟩ = some (.int .i64 c.pc) ∧ w.cell? ⟨b, 1, none⟩ = some (.int .i64 (c.r 0)) ∧ w.cell? ⟨b, 2, none⟩ = some (.int .i64 (c.r 1)) ∧ w.cell? ⟨b, 3, none⟩ = some (.int .i64 (c.r 2)) ∧
  w.cell? ⟨b, 4, none⟩ = some (.int .i64 (c.r 3)) ∧ w.cell? ⟨b, 5, none⟩ = some (.int .i64 (c.r 4)) ∧ w.cell? ⟨b, 6, none⟩ = some (.int .i64 (c.r 5)) ∧ w.cell? ⟨b, 7, none⟩ = some (.int .i64 (c.r 6)) ∧ w.cell? ⟨b, 8, none⟩ = some (.int .i64 (c.r 7)) :=
 ⟨h.cell 0, h.cell 1, h.cell 2, h.cell 3, h.cell 4, h.cell 5, h.cell 6, h.cell 7, h.cell 8⟩
end
set_option maxRecDepth 100000 in
set_option maxHeartbeats 1000000 in
theorem next_any (c : Core) (w : World) :
  Calls Tryz.prog 162 #[coreV c] w fun e w' => e = .returned (coreV c.next) ∧ Below w.heap.size w w' := by
 unfold coreV coreA Core.next
 go_enter Tryz.func162, Tryz.ntmps162
 go_wp2
 refine bodyPost_ret (by simp [results, Tryz.results162, go_sem]) rfl ⟨rfl, ?_⟩
 exact ((Below.refl _ w).alloc (Nat.le_refl _) _).alloc (by simp) _
end Go.Proofs.YthnjeejnnhadeaaGreatDoor.Cpu

namespace Go.Proofs.YthnjeejnnhadeaaGreatDoor.Cpu
open Go.RowKit
def Core.lay (c : Core) (r v : Int) : Core := if 0 ≤ r ∧ r < 8 then c.set r.toNat v else c
set_option maxRecDepth 100000 in
set_option maxHeartbeats 1000000 in
theorem laid_any (c : Core) (r v : Int) (w : World) :
  Calls Tryz.prog 230 #[coreV c, .int .i64 r, .int .i64 v] w fun e w' => e = .returned (coreV (c.lay r v)) ∧ Below w.heap.size w w' := by
 have hB : ∀ o1 o2 : Obj, Below w.heap.size w ((w.alloc o1).alloc o2) := fun o1 o2 => ((Below.refl _ w).alloc (Nat.le_refl _) _).alloc (by simp) _
 unfold Core.lay
 by_cases h1 : 0 ≤ r
 ·by_cases h2 : r < 8
  ·rw [if_pos ⟨h1, h2⟩]
   obtain ⟨V, hV⟩ : ∃ V, Hid (coreV (c.set r.toNat v) = V) := ⟨_, rfl⟩
   rw [hV.out]
   have h : r = 0 ∨ r = 1 ∨ r = 2 ∨ r = 3 ∨ r = 4 ∨ r = 5 ∨ r = 6 ∨ r = 7 := by omega
   rcases h with rfl | rfl | rfl | rfl | rfl | rfl | rfl | rfl
   all_goals
    clear h1 h2
    unfold coreV coreA
    go_enter Tryz.func230, Tryz.ntmps230
    go_wp2
    refine bodyPost_ret (v := V) (by rw [← hV.out]; simp [results, Tryz.results230, go_sem, coreV, coreA, Core.set]) rfl ⟨rfl, ?_⟩
    exact hB _ _
  ·rw [if_neg (by omega)]
   have d2 : decide (r < 8) = false := decide_eq_false h2
   unfold coreV coreA
   go_enter Tryz.func230, Tryz.ntmps230
   go_wp2
   refine bodyPost_ret (by simp [results, Tryz.results230, go_sem]) rfl ⟨rfl, ?_⟩
   exact hB _ _
 ·rw [if_neg (by omega)]
  have d1 : decide (0 ≤ r) = false := decide_eq_false h1
  unfold coreV coreA
  go_enter Tryz.func230, Tryz.ntmps230
  go_wp2
  refine bodyPost_ret (by simp [results, Tryz.results230, go_sem]) rfl ⟨rfl, ?_⟩
  exact hB _ _
set_option maxRecDepth 100000 in
set_option maxHeartbeats 1000000 in
theorem put_any {b : Nat} {t : TypeId} (c : Core) (r v : Int) (w : World) (h : Box w t b (coreA c)) :
  Calls Tryz.prog 238 #[.pointer (some ⟨b, 0, none⟩), .int .i64 r, .int .i64 v] w fun e w' => e = .returned (.tuple #[]) ∧ Box w' t b (coreA (c.lay r v)) ∧ Oth b w w' := by
 unfold Core.lay
 by_cases h1 : 0 ≤ r
 ·by_cases h2 : r < 8
  ·rw [if_pos ⟨h1, h2⟩]
   obtain ⟨j, rfl⟩ : ∃ j : Nat, r = j := ⟨r.toNat, by omega⟩
   have hj : j < 8 := by omega
   have hc := h.reg j hj
   have hf := h.fr (1 + j)
   have HS := hd (h.set j hj v)
   have HJ := hd hj
   clear h h1
   rw [Int.toNat_natCast]
   go_enter Tryz.func238, Tryz.ntmps238
   go_wp2
   exact bodyPost_end (results_none rfl _ _ _) rfl ⟨rfl, HS.out, Oth.setCell _ _ _ _⟩
  ·rw [if_neg (by omega)]
   have d2 : decide (r < 8) = false := decide_eq_false h2
   have H := hd h
   clear h
   go_enter Tryz.func238, Tryz.ntmps238
   go_wp2
   exact bodyPost_end (results_none rfl _ _ _) rfl ⟨rfl, H.out, Oth.refl _ _⟩
 ·rw [if_neg (by omega)]
  have d1 : decide (0 ≤ r) = false := decide_eq_false h1
  have H := hd h
  clear h
  go_enter Tryz.func238, Tryz.ntmps238
  go_wp2
  exact bodyPost_end (results_none rfl _ _ _) rfl ⟨rfl, H.out, Oth.refl _ _⟩
end Go.Proofs.YthnjeejnnhadeaaGreatDoor.Cpu

namespace Go.Proofs.YthnjeejnnhadeaaGreatDoor.Cpu
open Go.RowKit
theorem two_bel (w : World) (o1 o2 : Obj) : Below w.heap.size w ((w.alloc o1).alloc o2) := ((Below.refl _ w).alloc (Nat.le_refl _) _).alloc (by simp) _
theorem below_al' (w : World) (o : Obj) : Below w.heap.size w (w.alloc o) := (Below.refl _ w).alloc (Nat.le_refl _) o
theorem three_bel (w : World) (o1 o2 o3 : Obj) : Below w.heap.size w (((w.alloc o1).alloc o2).alloc o3) := (two_bel w o1 o2).alloc (by simp; omega) _
def noIns : Value := .agg #[.int .i64 0, .int .i64 0, .int .i64 0, .int .i64 0, .int .i64 0]
set_option maxRecDepth 100000 in
set_option maxHeartbeats 1000000 in
theorem current_no (c : Core) (a : Option Addr) (n cap : Nat) (h : ¬ (0 ≤ c.pc ∧ c.pc < n)) (w : World) :
  Calls Tryz.prog 163 #[coreV c, .slice a n cap] w fun e w' => e = .returned (.tuple #[noIns, .bool false]) ∧ Below w.heap.size w w' := by
 have hB := two_bel w
 unfold coreV coreA noIns
 by_cases h1 : c.pc < 0
 ·go_enter Tryz.func163, Tryz.ntmps163
  go_wp2
  refine bodyPost_ret (by simp [results, Tryz.results163, go_sem]) rfl ⟨rfl, ?_⟩
  exact hB _ _
 ·have d1 : decide (c.pc < 0) = false := decide_eq_false h1
  have h2 : (n : Int) ≤ c.pc := by omega
  clear h
  go_enter Tryz.func163, Tryz.ntmps163
  go_wp2
  refine bodyPost_ret (by simp [results, Tryz.results163, go_sem]) rfl ⟨rfl, ?_⟩
  exact hB _ _
set_option maxRecDepth 100000 in
set_option maxHeartbeats 1000000 in
theorem current_yes (c : Core) (a : Option Addr) (l : List Ins) (cap p : Nat) (hp : c.pc = (p : Int)) (hlt : p < l.length) (w : World) (hP : Prg w a l) :
  Calls Tryz.prog 163 #[coreV c, .slice a l.length cap] w fun e w' => e = .returned (.tuple #[insV (l.getD p default), .bool true]) ∧ Below w.heap.size w w' := by
 have hB := two_bel w
 obtain ⟨pc, r⟩ := c
 simp only at hp
 subst hp
 have d1 : decide ((p : Int) < 0) = false := decide_eq_false (by omega)
 have d2 : decide ((l.length : Int) ≤ (p : Int)) = false := decide_eq_false (by omega)
 have hlt' : (p : Int) < (l.length : Int) := by omega
 obtain ⟨b, off, rfl, hx⟩ := hP p hlt
 have hk := fun o1 o2 => hx.kept (hB o1 o2)
 have k0 := fun o1 o2 => (hk o1 o2).c0
 have k1 := fun o1 o2 => (hk o1 o2).c1
 have k2 := fun o1 o2 => (hk o1 o2).c2
 have k3 := fun o1 o2 => (hk o1 o2).c3
 have k4 := fun o1 o2 => (hk o1 o2).c4
 generalize l.getD p default = x at *
 clear hx hP hk
 unfold coreV coreA insV
 go_enter Tryz.func163, Tryz.ntmps163
 go_wp2
 refine bodyPost_ret (by simp [results, Tryz.results163, go_sem]) rfl ⟨rfl, ?_⟩
 exact hB _ _
set_option maxRecDepth 100000 in
set_option maxHeartbeats 1000000 in
theorem stands_any (x : Ins) (n : Int) (w : World) (hF : Fld w) :
  Calls Tryz.prog 164 #[insV x, .int .i64 n] w fun e w' => e = .returned (.bool ((wrong x n 8).1 == 0)) ∧ Below w.heap.size w w' := by
 have hb := (Below.refl _ w).alloc (Nat.le_refl _) (.cells #[.int .i64 x.op, .int .i64 x.a, .int .i64 x.b, .int .i64 x.c, .int .i64 x.imm] 84)
 have h := check_any x n 8 _ (hF.kept hb)
 have HB := hd hb
 generalize (wrong x n 8).1 = E at *
 clear hF hb
 unfold insV at *
 go_enter Tryz.func164, Tryz.ntmps164
 go_wp2_with (go_at_call 185; refine h.mono ?_; rintro e w1 ⟨rfl, b1⟩)
 go_ret
 exact ⟨rfl, HB.out.trans (b1.mono HB.out.size)⟩
end Go.Proofs.YthnjeejnnhadeaaGreatDoor.Cpu

namespace Go.Proofs.YthnjeejnnhadeaaGreatDoor.Cpu
open Go.RowKit
def wantL (c : Core) (op a b d imm : Int) : Int × Int × Int :=
 if op = 0 then (1, 0, 0) else
 if op = 24 then (2, c.r b.toNat, c.r d.toNat) else
 if op = 25 then (3, 0, 0) else
 if op = 26 then (4, 0, 0) else
 if op = 27 then (5, 0, c.r a.toNat) else
 if op = 28 then (6, 0, c.r a.toNat) else
 if op = 29 then (7, imm, 0) else
 if op = 30 then (8, imm, 0) else
 if op = 31 then (9, 0, c.r a.toNat) else (0, 0, 0)
def wantT (t : Int × Int × Int) : Value := wantV t.1 t.2.1 t.2.2
theorem core_in (w : World) (c : Core) (t : TypeId) (j : Nat) (hj : j < 8) (o1 o2 : Obj) : (((w.alloc (.cells (coreA c) t)).alloc o1).alloc o2).cell? ⟨w.heap.size, 1 + j, none⟩ = some (.int .i64 (c.r j)) :=
 (((Box.new w t (coreA c)).bel (below_al' _ o1)).bel (below_al' _ o2)).reg j hj
set_option maxRecDepth 100000 in
set_option maxHeartbeats 1000000 in
theorem wanted_any (c : Core) (op imm : Int) (a b d : Nat) (ha : a < 8) (hb : b < 8) (hd' : d < 8) (w : World) :
  Calls Tryz.prog 165 #[coreV c, insV ⟨op, a, b, d, imm⟩] w fun e w' => e = .returned (wantT (wantL c op a b d imm)) ∧ Below w.heap.size w w' := by
 have hB := three_bel w
 have ka := core_in w c 112 a ha
 have kb := core_in w c 112 b hb
 have kd := core_in w c 112 d hd'
 have la : (a : Int) < 8 := by omega
 have lb : (b : Int) < 8 := by omega
 have ld : (d : Int) < 8 := by omega
 have hop : op = 0 ∨ op = 24 ∨ op = 25 ∨ op = 26 ∨ op = 27 ∨ op = 28 ∨ op = 29 ∨ op = 30 ∨ op = 31 ∨ (op ≠ 0 ∧ op ≠ 24 ∧ op ≠ 25 ∧ op ≠ 26 ∧ op ≠ 27 ∧ op ≠ 28 ∧ op ≠ 29 ∧ op ≠ 30 ∧ op ≠ 31) := by omega
 unfold coreA at ka kb kd
 rcases hop with rfl | rfl | rfl | rfl | rfl | rfl | rfl | rfl | rfl | ⟨n0, n1, n2, n3, n4, n5, n6, n7, n8⟩
 ·have e : wantL c 0 a b d imm = (1, 0, 0) := by simp [wantL]
  rw [e]
  unfold coreV coreA insV wantT wantV wantA
  clear e
  go_enter Tryz.func165, Tryz.ntmps165
  go_wp2
  refine bodyPost_ret (by simp [results, Tryz.results165, go_sem]) rfl ⟨rfl, ?_⟩
  exact hB _ _ _
 ·have e : wantL c 24 a b d imm = (2, c.r b, c.r d) := by simp [wantL]
  rw [e]
  unfold coreV coreA insV wantT wantV wantA
  clear e
  go_enter Tryz.func165, Tryz.ntmps165
  go_wp2
  go_region
  go_wp2
  refine bodyPost_ret (by simp [results, Tryz.results165, go_sem]) rfl ⟨rfl, ?_⟩
  exact (hB _ _ _).drew
 ·have e : wantL c 25 a b d imm = (3, 0, 0) := by simp [wantL]
  rw [e]
  unfold coreV coreA insV wantT wantV wantA
  clear e
  go_enter Tryz.func165, Tryz.ntmps165
  go_wp2
  refine bodyPost_ret (by simp [results, Tryz.results165, go_sem]) rfl ⟨rfl, ?_⟩
  exact hB _ _ _
 ·have e : wantL c 26 a b d imm = (4, 0, 0) := by simp [wantL]
  rw [e]
  unfold coreV coreA insV wantT wantV wantA
  clear e
  go_enter Tryz.func165, Tryz.ntmps165
  go_wp2
  refine bodyPost_ret (by simp [results, Tryz.results165, go_sem]) rfl ⟨rfl, ?_⟩
  exact hB _ _ _
 ·have e : wantL c 27 a b d imm = (5, 0, c.r a) := by simp [wantL]
  rw [e]
  unfold coreV coreA insV wantT wantV wantA
  clear e
  go_enter Tryz.func165, Tryz.ntmps165
  go_wp2
  refine bodyPost_ret (by simp [results, Tryz.results165, go_sem]) rfl ⟨rfl, ?_⟩
  exact hB _ _ _
 ·have e : wantL c 28 a b d imm = (6, 0, c.r a) := by simp [wantL]
  rw [e]
  unfold coreV coreA insV wantT wantV wantA
  clear e
  go_enter Tryz.func165, Tryz.ntmps165
  go_wp2
  refine bodyPost_ret (by simp [results, Tryz.results165, go_sem]) rfl ⟨rfl, ?_⟩
  exact hB _ _ _
 ·have e : wantL c 29 a b d imm = (7, imm, 0) := by simp [wantL]
  rw [e]
  unfold coreV coreA insV wantT wantV wantA
  clear e
  go_enter Tryz.func165, Tryz.ntmps165
  go_wp2
  refine bodyPost_ret (by simp [results, Tryz.results165, go_sem]) rfl ⟨rfl, ?_⟩
  exact hB _ _ _
 ·have e : wantL c 30 a b d imm = (8, imm, 0) := by simp [wantL]
  rw [e]
  unfold coreV coreA insV wantT wantV wantA
  clear e
  go_enter Tryz.func165, Tryz.ntmps165
  go_wp2
  refine bodyPost_ret (by simp [results, Tryz.results165, go_sem]) rfl ⟨rfl, ?_⟩
  exact hB _ _ _
 ·have e : wantL c 31 a b d imm = (9, 0, c.r a) := by simp [wantL]
  rw [e]
  unfold coreV coreA insV wantT wantV wantA
  clear e
  go_enter Tryz.func165, Tryz.ntmps165
  go_wp2
  refine bodyPost_ret (by simp [results, Tryz.results165, go_sem]) rfl ⟨rfl, ?_⟩
  exact hB _ _ _
 ·have e : wantL c op a b d imm = (0, 0, 0) := by simp [wantL, n0, n1, n2, n3, n4, n5, n6, n7, n8]
  rw [e]
  have m0 : (op == 0) = false := by simpa using n0
  have m1 : (op == 24) = false := by simpa using n1
  have m2 : (op == 25) = false := by simpa using n2
  have m3 : (op == 26) = false := by simpa using n3
  have m4 : (op == 27) = false := by simpa using n4
  have m5 : (op == 28) = false := by simpa using n5
  have m6 : (op == 29) = false := by simpa using n6
  have m7 : (op == 30) = false := by simpa using n7
  have m8 : (op == 31) = false := by simpa using n8
  unfold coreV coreA insV wantT wantV wantA
  clear e
  go_enter Tryz.func165, Tryz.ntmps165
  go_wp2
  refine bodyPost_ret (by simp [results, Tryz.results165, go_sem]) rfl ⟨rfl, ?_⟩
  exact hB _ _ _
end Go.Proofs.YthnjeejnnhadeaaGreatDoor.Cpu
