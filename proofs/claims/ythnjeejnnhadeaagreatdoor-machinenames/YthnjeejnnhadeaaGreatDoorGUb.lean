/- What an instruction makes of two numbers: the program's answer. -/
import Derived.Test.YthnjeejnnhadeaaGreatDoorGAa
import Derived.Test.YthnjeejnnhadeaaGreatDoorGFw
import Derived.Test.YthnjeejnnhadeaaGreatDoorGUa
namespace Go.Proofs.YthnjeejnnhadeaaGreatDoor.Cpu
open Go.RowKit
def reckL (op b c : Int) : Int :=
 if op = 3 then Alu.iadd b c else if op = 4 then Alu.isub b c else if op = 5 then Alu.imul b c else if op = 6 then Alu.idiv b c else
 if op = 7 then Alu.irem b c else if op = 8 then Alu.iand b c else if op = 9 then Alu.ior b c else if op = 10 then Alu.ixor b c else
 if op = 11 then Alu.ishl b c else if op = 12 then Alu.ishr b c else if op = 13 then Alu.iless b c else if op = 14 then Alu.iequal b c else
 if op = 15 then wrap64 (Flt.fadd (Flt.wd b) (Flt.wd c)) else if op = 16 then wrap64 (Flt.fsub (Flt.wd b) (Flt.wd c)) else
 if op = 17 then wrap64 (Flt.fmul (Flt.wd b) (Flt.wd c)) else if op = 18 then wrap64 (Flt.fdiv (Flt.wd b) (Flt.wd c)) else
 if op = 19 then (if Flt.fless (Flt.wd b) (Flt.wd c) then 1 else 0) else if op = 20 then wrap64 (Flt.ofInt b) else Flt.fwhole (Flt.wd b)
theorem reck_3 (b c : Int) : reckL 3 b c = Alu.iadd b c := by
 unfold reckL
 rw [if_pos rfl]
theorem reck_4 (b c : Int) : reckL 4 b c = Alu.isub b c := by
 unfold reckL
 rw [if_neg (by decide)]
 rw [if_pos rfl]
theorem reck_5 (b c : Int) : reckL 5 b c = Alu.imul b c := by
 unfold reckL
 rw [if_neg (by decide)]
 rw [if_neg (by decide)]
 rw [if_pos rfl]
theorem reck_6 (b c : Int) : reckL 6 b c = Alu.idiv b c := by
 unfold reckL
 rw [if_neg (by decide)]
 rw [if_neg (by decide)]
 rw [if_neg (by decide)]
 rw [if_pos rfl]
theorem reck_7 (b c : Int) : reckL 7 b c = Alu.irem b c := by
 unfold reckL
 rw [if_neg (by decide)]
 rw [if_neg (by decide)]
 rw [if_neg (by decide)]
 rw [if_neg (by decide)]
 rw [if_pos rfl]
theorem reck_8 (b c : Int) : reckL 8 b c = Alu.iand b c := by
 unfold reckL
 rw [if_neg (by decide)]
 rw [if_neg (by decide)]
 rw [if_neg (by decide)]
 rw [if_neg (by decide)]
 rw [if_neg (by decide)]
 rw [if_pos rfl]
theorem reck_9 (b c : Int) : reckL 9 b c = Alu.ior b c := by
 unfold reckL
 rw [if_neg (by decide)]
 rw [if_neg (by decide)]
 rw [if_neg (by decide)]
 rw [if_neg (by decide)]
 rw [if_neg (by decide)]
 rw [if_neg (by decide)]
 rw [if_pos rfl]
theorem reck_10 (b c : Int) : reckL 10 b c = Alu.ixor b c := by
 unfold reckL
 rw [if_neg (by decide)]
 rw [if_neg (by decide)]
 rw [if_neg (by decide)]
 rw [if_neg (by decide)]
 rw [if_neg (by decide)]
 rw [if_neg (by decide)]
 rw [if_neg (by decide)]
 rw [if_pos rfl]
theorem reck_11 (b c : Int) : reckL 11 b c = Alu.ishl b c := by
 unfold reckL
 rw [if_neg (by decide)]
 rw [if_neg (by decide)]
 rw [if_neg (by decide)]
 rw [if_neg (by decide)]
 rw [if_neg (by decide)]
 rw [if_neg (by decide)]
 rw [if_neg (by decide)]
 rw [if_neg (by decide)]
 rw [if_pos rfl]
theorem reck_12 (b c : Int) : reckL 12 b c = Alu.ishr b c := by
 unfold reckL
 rw [if_neg (by decide)]
 rw [if_neg (by decide)]
 rw [if_neg (by decide)]
 rw [if_neg (by decide)]
 rw [if_neg (by decide)]
 rw [if_neg (by decide)]
 rw [if_neg (by decide)]
 rw [if_neg (by decide)]
 rw [if_neg (by decide)]
 rw [if_pos rfl]
theorem reck_13 (b c : Int) : reckL 13 b c = Alu.iless b c := by
 unfold reckL
 rw [if_neg (by decide)]
 rw [if_neg (by decide)]
 rw [if_neg (by decide)]
 rw [if_neg (by decide)]
 rw [if_neg (by decide)]
 rw [if_neg (by decide)]
 rw [if_neg (by decide)]
 rw [if_neg (by decide)]
 rw [if_neg (by decide)]
 rw [if_neg (by decide)]
 rw [if_pos rfl]
theorem reck_14 (b c : Int) : reckL 14 b c = Alu.iequal b c := by
 unfold reckL
 rw [if_neg (by decide)]
 rw [if_neg (by decide)]
 rw [if_neg (by decide)]
 rw [if_neg (by decide)]
 rw [if_neg (by decide)]
 rw [if_neg (by decide)]
 rw [if_neg (by decide)]
 rw [if_neg (by decide)]
 rw [if_neg (by decide)]
 rw [if_neg (by decide)]
 rw [if_neg (by decide)]
 rw [if_pos rfl]
theorem reck_15 (b c : Int) : reckL 15 b c = wrap64 (Flt.fadd (Flt.wd b) (Flt.wd c)) := by
 unfold reckL
 rw [if_neg (by decide)]
 rw [if_neg (by decide)]
 rw [if_neg (by decide)]
 rw [if_neg (by decide)]
 rw [if_neg (by decide)]
 rw [if_neg (by decide)]
 rw [if_neg (by decide)]
 rw [if_neg (by decide)]
 rw [if_neg (by decide)]
 rw [if_neg (by decide)]
 rw [if_neg (by decide)]
 rw [if_neg (by decide)]
 rw [if_pos rfl]
theorem reck_16 (b c : Int) : reckL 16 b c = wrap64 (Flt.fsub (Flt.wd b) (Flt.wd c)) := by
 unfold reckL
 rw [if_neg (by decide)]
 rw [if_neg (by decide)]
 rw [if_neg (by decide)]
 rw [if_neg (by decide)]
 rw [if_neg (by decide)]
 rw [if_neg (by decide)]
 rw [if_neg (by decide)]
 rw [if_neg (by decide)]
 rw [if_neg (by decide)]
 rw [if_neg (by decide)]
 rw [if_neg (by decide)]
 rw [if_neg (by decide)]
 rw [if_neg (by decide)]
 rw [if_pos rfl]
theorem reck_17 (b c : Int) : reckL 17 b c = wrap64 (Flt.fmul (Flt.wd b) (Flt.wd c)) := by
 unfold reckL
 rw [if_neg (by decide)]
 rw [if_neg (by decide)]
 rw [if_neg (by decide)]
 rw [if_neg (by decide)]
 rw [if_neg (by decide)]
 rw [if_neg (by decide)]
 rw [if_neg (by decide)]
 rw [if_neg (by decide)]
 rw [if_neg (by decide)]
 rw [if_neg (by decide)]
 rw [if_neg (by decide)]
 rw [if_neg (by decide)]
 rw [if_neg (by decide)]
 rw [if_neg (by decide)]
 rw [if_pos rfl]
theorem reck_18 (b c : Int) : reckL 18 b c = wrap64 (Flt.fdiv (Flt.wd b) (Flt.wd c)) := by
 unfold reckL
 rw [if_neg (by decide)]
 rw [if_neg (by decide)]
 rw [if_neg (by decide)]
 rw [if_neg (by decide)]
 rw [if_neg (by decide)]
 rw [if_neg (by decide)]
 rw [if_neg (by decide)]
 rw [if_neg (by decide)]
 rw [if_neg (by decide)]
 rw [if_neg (by decide)]
 rw [if_neg (by decide)]
 rw [if_neg (by decide)]
 rw [if_neg (by decide)]
 rw [if_neg (by decide)]
 rw [if_neg (by decide)]
 rw [if_pos rfl]
theorem reck_19 (b c : Int) : reckL 19 b c = if Flt.fless (Flt.wd b) (Flt.wd c) then 1 else 0 := by
 unfold reckL
 rw [if_neg (by decide)]
 rw [if_neg (by decide)]
 rw [if_neg (by decide)]
 rw [if_neg (by decide)]
 rw [if_neg (by decide)]
 rw [if_neg (by decide)]
 rw [if_neg (by decide)]
 rw [if_neg (by decide)]
 rw [if_neg (by decide)]
 rw [if_neg (by decide)]
 rw [if_neg (by decide)]
 rw [if_neg (by decide)]
 rw [if_neg (by decide)]
 rw [if_neg (by decide)]
 rw [if_neg (by decide)]
 rw [if_neg (by decide)]
 rw [if_pos rfl]
theorem reck_20 (b c : Int) : reckL 20 b c = wrap64 (Flt.ofInt b) := by
 unfold reckL
 rw [if_neg (by decide)]
 rw [if_neg (by decide)]
 rw [if_neg (by decide)]
 rw [if_neg (by decide)]
 rw [if_neg (by decide)]
 rw [if_neg (by decide)]
 rw [if_neg (by decide)]
 rw [if_neg (by decide)]
 rw [if_neg (by decide)]
 rw [if_neg (by decide)]
 rw [if_neg (by decide)]
 rw [if_neg (by decide)]
 rw [if_neg (by decide)]
 rw [if_neg (by decide)]
 rw [if_neg (by decide)]
 rw [if_neg (by decide)]
 rw [if_neg (by decide)]
 rw [if_pos rfl]
theorem reck_21 (b c : Int) : reckL 21 b c = Flt.fwhole (Flt.wd b) := by
 unfold reckL
 rw [if_neg (by decide)]
 rw [if_neg (by decide)]
 rw [if_neg (by decide)]
 rw [if_neg (by decide)]
 rw [if_neg (by decide)]
 rw [if_neg (by decide)]
 rw [if_neg (by decide)]
 rw [if_neg (by decide)]
 rw [if_neg (by decide)]
 rw [if_neg (by decide)]
 rw [if_neg (by decide)]
 rw [if_neg (by decide)]
 rw [if_neg (by decide)]
 rw [if_neg (by decide)]
 rw [if_neg (by decide)]
 rw [if_neg (by decide)]
 rw [if_neg (by decide)]
 rw [if_neg (by decide)]
theorem alu_reck (op b c : Int) (h1 : 3 ≤ op) (h2 : op ≤ 14) (w : World) :
  Calls Tryz.prog 215 #[.int .i64 op, .int .i64 b, .int .i64 c] w fun e w' => e = .returned (.tuple #[.int .i64 (reckL op b c), .int .i64 0]) ∧ Below w.heap.size w w' := by
 have h : op = 3 ∨ op = 4 ∨ op = 5 ∨ op = 6 ∨ op = 7 ∨ op = 8 ∨ op = 9 ∨ op = 10 ∨ op = 11 ∨ op = 12 ∨ op = 13 ∨ op = 14 := by omega
 rcases h with rfl | rfl | rfl | rfl | rfl | rfl | rfl | rfl | rfl | rfl | rfl | rfl
 ·rw [reck_3]; exact Alu.do_add b c w
 ·rw [reck_4]; exact Alu.do_sub b c w
 ·rw [reck_5]; exact Alu.do_mul b c w
 ·rw [reck_6]; exact Alu.do_div b c w
 ·rw [reck_7]; exact Alu.do_rem b c w
 ·rw [reck_8]; exact Alu.do_and b c w
 ·rw [reck_9]; exact Alu.do_or b c w
 ·rw [reck_10]; exact Alu.do_xor b c w
 ·rw [reck_11]; exact Alu.do_shl b c w
 ·rw [reck_12]; exact Alu.do_shr b c w
 ·rw [reck_13]; exact Alu.do_less b c w
 ·rw [reck_14]; exact Alu.do_equal b c w
theorem flt_reck (op b c : Int) (h1 : 15 ≤ op) (h2 : op ≤ 21) (w : World) :
  Calls Tryz.prog 216 #[.int .i64 op, .int .i64 b, .int .i64 c] w fun e w' => e = .returned (.tuple #[.int .i64 (reckL op b c), .int .i64 0]) ∧ Below w.heap.size w w' := by
 have h : op = 15 ∨ op = 16 ∨ op = 17 ∨ op = 18 ∨ op = 19 ∨ op = 20 ∨ op = 21 := by omega
 rcases h with rfl | rfl | rfl | rfl | rfl | rfl | rfl
 ·rw [reck_15]; exact Flt.do_fadd b c w
 ·rw [reck_16]; exact Flt.do_fsub b c w
 ·rw [reck_17]; exact Flt.do_fmul b c w
 ·rw [reck_18]; exact Flt.do_fdiv b c w
 ·rw [reck_19]; exact Flt.do_fless b c w
 ·rw [reck_20]; exact Flt.do_tofloat b c w
 ·rw [reck_21]; exact Flt.do_toint b c w
set_option maxRecDepth 100000 in
set_option maxHeartbeats 1000000 in
theorem reckoned_any (op b c : Int) (h1 : 3 ≤ op) (h2 : op ≤ 21) (w : World) :
  Calls Tryz.prog 166 #[.int .i64 op, .int .i64 b, .int .i64 c] w fun e w' => e = .returned (.int .i64 (reckL op b c)) ∧ Below w.heap.size w w' := by
 by_cases h3 : op ≤ 14
 ·have h := alu_reck op b c h1 h3 w
  generalize reckL op b c = V at *
  clear h1 h2 h3
  go_enter Tryz.func166, Tryz.ntmps166
  go_wp2_with (go_at_call 215; refine h.mono ?_; rintro e w1 ⟨rfl, b1⟩)
  go_ret
  exact ⟨rfl, b1⟩
 ·have h := Alu.do_above op b c (by omega) w
  have hf := flt_reck op b c (by omega) h2
  generalize reckL op b c = V at *
  clear h1 h2 h3
  go_enter Tryz.func166, Tryz.ntmps166
  go_wp2_with (first | (go_at_call 215; refine h.mono ?_; rintro e w1 ⟨rfl, b1⟩) | (go_at_call 216; refine (hf _).mono ?_; rintro e w2 ⟨rfl, b2⟩))
  go_ret
  exact ⟨rfl, b1.trans (b2.mono b1.size)⟩
end Go.Proofs.YthnjeejnnhadeaaGreatDoor.Cpu

namespace Go.Proofs.YthnjeejnnhadeaaGreatDoor.Cpu
open Go.RowKit
def zeroC : Array Value := #[.int .i64 0, .int .i64 0, .int .i64 0, .int .i64 0, .int .i64 0, .int .i64 0, .int .i64 0, .int .i64 0, .int .i64 0]
def zeroW : Array Value := #[.int .i64 0, .int .i64 0, .int .i64 0]
theorem step_begin (w : World) (c : Core) (tc tw : TypeId) :
  Box (((w.alloc (.cells (coreA c) tc)).alloc (.cells zeroC tc)).alloc (.cells zeroW tw)) tc w.heap.size (coreA c) ∧
  Box (((w.alloc (.cells (coreA c) tc)).alloc (.cells zeroC tc)).alloc (.cells zeroW tw)) tc (w.heap.size + 1) zeroC ∧
  Box (((w.alloc (.cells (coreA c) tc)).alloc (.cells zeroC tc)).alloc (.cells zeroW tw)) tw (w.heap.size + 1 + 1) zeroW := by
 refine ⟨((Box.new w tc (coreA c)).bel (below_al' _ _)).bel (below_al' _ _), ?_, ?_⟩
 ·have h := (Box.new (w.alloc (.cells (coreA c) tc)) tc zeroC).bel (below_al' _ (.cells zeroW tw))
  simpa using h
 ·have h := Box.new ((w.alloc (.cells (coreA c) tc)).alloc (.cells zeroC tc)) tw zeroW
  simpa using h
def insA (x : Ins) : Array Value := #[.int .i64 x.op, .int .i64 x.a, .int .i64 x.b, .int .i64 x.c, .int .i64 x.imm]
structure StB (w W : World) (tc tw : TypeId) (g : Nat) (c : Core) (z8 z9 : Array Value) (x : Ins) : Prop where
 x4 : Box W tc w.heap.size (coreA c)
 x8 : Box W tc (w.heap.size + 1) z8
 x9 : Box W tw (w.heap.size + 1 + 1) z9
 x10 : Box W 84 g (insA x)
 g3 : w.heap.size + 1 + 1 < g
 bel : Below w.heap.size w W
 fld : Fld W
theorem StB.mk' {w w1 : World} {tc tw : TypeId} {c : Core} (x : Ins) (hF : Fld w) (b1 : Below (((w.alloc (.cells (coreA c) tc)).alloc (.cells zeroC tc)).alloc (.cells zeroW tw)).heap.size (((w.alloc (.cells (coreA c) tc)).alloc (.cells zeroC tc)).alloc (.cells zeroW tw)) w1) :
  StB w (w1.alloc (.cells (insA x) 84)) tc tw w1.heap.size c zeroC zeroW x := by
 obtain ⟨h4, h8, h9⟩ := step_begin w c tc tw
 have hb0 := three_bel w (.cells (coreA c) tc) (.cells zeroC tc) (.cells zeroW tw)
 have hb1 := hb0.trans (b1.mono hb0.size)
 have hb2 := hb1.alloc hb1.size (.cells (insA x) 84)
 have ha := below_al' w1 (.cells (insA x) 84)
 exact ⟨(h4.bel b1).bel ha, (h8.bel b1).bel ha, (h9.bel b1).bel ha, Box.new _ _ _, by have := b1.size; simp at this; omega, hb2, hF.kept hb2⟩
theorem StB.kept {w W W' : World} {tc tw : TypeId} {g : Nat} {c : Core} {z8 z9 : Array Value} {x : Ins} (h : StB w W tc tw g c z8 z9 x) (hb : Below W.heap.size W W') : StB w W' tc tw g c z8 z9 x :=
 ⟨h.x4.bel hb, h.x8.bel hb, h.x9.bel hb, h.x10.bel hb, h.g3, h.bel.trans (hb.mono h.bel.size), h.fld.kept hb⟩
theorem Box.cz {w : World} {t : TypeId} {b : Nat} (h : Box w t b zeroC) : w.cell? ⟨b, 0, none⟩ = some (.int .i64 0) ∧ w.cell? ⟨b, 1, none⟩ = some (.int .i64 0) ∧ w.cell? ⟨b, 2, none⟩ = some (.int .i64 0) ∧ w.cell? ⟨b, 3, none⟩ = some (.int .i64 0) ∧
  w.cell? ⟨b, 4, none⟩ = some (.int .i64 0) ∧ w.cell? ⟨b, 5, none⟩ = some (.int .i64 0) ∧ w.cell? ⟨b, 6, none⟩ = some (.int .i64 0) ∧ w.cell? ⟨b, 7, none⟩ = some (.int .i64 0) ∧ w.cell? ⟨b, 8, none⟩ = some (.int .i64 0) :=
 ⟨h.cell 0, h.cell 1, h.cell 2, h.cell 3, h.cell 4, h.cell 5, h.cell 6, h.cell 7, h.cell 8⟩
theorem Box.cw {w : World} {t : TypeId} {b : Nat} {k u v : Int} (h : Box w t b (wantA k u v)) : w.cell? ⟨b, 0, none⟩ = some (.int .i64 k) ∧ w.cell? ⟨b, 1, none⟩ = some (.int .i64 u) ∧ w.cell? ⟨b, 2, none⟩ = some (.int .i64 v) :=
 ⟨h.cell 0, h.cell 1, h.cell 2⟩
theorem Box.ci {w : World} {t : TypeId} {b : Nat} {x : Ins} (h : Box w t b (insA x)) : w.cell? ⟨b, 0, none⟩ = some (.int .i64 x.op) ∧ w.cell? ⟨b, 1, none⟩ = some (.int .i64 x.a) ∧ w.cell? ⟨b, 2, none⟩ = some (.int .i64 x.b) ∧ w.cell? ⟨b, 3, none⟩ = some (.int .i64 x.c) ∧ w.cell? ⟨b, 4, none⟩ = some (.int .i64 x.imm) :=
 ⟨h.cell 0, h.cell 1, h.cell 2, h.cell 3, h.cell 4⟩
def put9 (W : World) (b : Nat) (c : Core) : World :=
 ((((((((W.setCell ⟨b, 0, none⟩ (.int .i64 c.pc)).setCell ⟨b, 1, none⟩ (.int .i64 (c.r 0))).setCell ⟨b, 2, none⟩ (.int .i64 (c.r 1))).setCell ⟨b, 3, none⟩ (.int .i64 (c.r 2))).setCell ⟨b, 4, none⟩ (.int .i64 (c.r 3))).setCell ⟨b, 5, none⟩ (.int .i64 (c.r 4))).setCell ⟨b, 6, none⟩ (.int .i64 (c.r 5))).setCell ⟨b, 7, none⟩ (.int .i64 (c.r 6))).setCell ⟨b, 8, none⟩ (.int .i64 (c.r 7))
def put3 (W : World) (b : Nat) (k u v : Int) : World := ((W.setCell ⟨b, 0, none⟩ (.int .i64 k)).setCell ⟨b, 1, none⟩ (.int .i64 u)).setCell ⟨b, 2, none⟩ (.int .i64 v)
theorem put9_oth (W : World) (b : Nat) (c : Core) : Oth b W (put9 W b c) :=
 ((((((((Oth.setCell _ _ _ _).trans (Oth.setCell _ _ _ _)).trans (Oth.setCell _ _ _ _)).trans (Oth.setCell _ _ _ _)).trans (Oth.setCell _ _ _ _)).trans (Oth.setCell _ _ _ _)).trans (Oth.setCell _ _ _ _)).trans (Oth.setCell _ _ _ _)).trans (Oth.setCell _ _ _ _)
theorem put3_oth (W : World) (b : Nat) (k u v : Int) : Oth b W (put3 W b k u v) := ((Oth.setCell _ _ _ _).trans (Oth.setCell _ _ _ _)).trans (Oth.setCell _ _ _ _)
theorem nine_set (v0 v1 v2 v3 v4 v5 v6 v7 v8 u0 u1 u2 u3 u4 u5 u6 u7 u8 : Value) :
  ((((((((#[v0, v1, v2, v3, v4, v5, v6, v7, v8].setIfInBounds 0 u0).setIfInBounds 1 u1).setIfInBounds 2 u2).setIfInBounds 3 u3).setIfInBounds 4 u4).setIfInBounds 5 u5).setIfInBounds 6 u6).setIfInBounds 7 u7).setIfInBounds 8 u8 = #[u0, u1, u2, u3, u4, u5, u6, u7, u8] := by simp
theorem Box.nine {w : World} {t : TypeId} {b : Nat} {v0 v1 v2 v3 v4 v5 v6 v7 v8 : Value} (h : Box w t b #[v0, v1, v2, v3, v4, v5, v6, v7, v8]) (c : Core) : Box (put9 w b c) t b (coreA c) := by
 have h1 := ((((((((h.put 0 (.int .i64 c.pc)).put 1 (.int .i64 (c.r 0))).put 2 (.int .i64 (c.r 1))).put 3 (.int .i64 (c.r 2))).put 4 (.int .i64 (c.r 3))).put 5 (.int .i64 (c.r 4))).put 6 (.int .i64 (c.r 5))).put 7 (.int .i64 (c.r 6))).put 8 (.int .i64 (c.r 7))
 rw [nine_set] at h1
 exact h1
theorem Box.three {w : World} {t : TypeId} {b : Nat} {v0 v1 v2 : Value} (h : Box w t b #[v0, v1, v2]) (k u v : Int) : Box (put3 w b k u v) t b (wantA k u v) := by
 have h1 := ((h.put 0 (.int .i64 k)).put 1 (.int .i64 u)).put 2 (.int .i64 v)
 exact h1
theorem StB.ends {w W : World} {tc tw : TypeId} {g : Nat} {c : Core} {x : Ins} (h : StB w W tc tw g c zeroC zeroW x) (d : Core) (k u v : Int) :
  Box (put3 (put9 W (w.heap.size + 1) d) (w.heap.size + 1 + 1) k u v) tc (w.heap.size + 1) (coreA d) ∧ Box (put3 (put9 W (w.heap.size + 1) d) (w.heap.size + 1 + 1) k u v) tw (w.heap.size + 1 + 1) (wantA k u v) ∧
   Below w.heap.size w (put3 (put9 W (w.heap.size + 1) d) (w.heap.size + 1 + 1) k u v) :=
 ⟨(h.x8.nine d).oth (put3_oth _ _ _ _ _) (by omega), (h.x9.oth (put9_oth _ _ d) (by omega)).three k u v,
  (put3_oth _ _ _ _ _).below ((put9_oth _ _ d).below h.bel (by omega)) (by omega)⟩
set_option maxRecDepth 100000 in
set_option maxHeartbeats 1000000 in
theorem step_bad (c : Core) (a : Option Addr) (l : List Ins) (cap p : Nat) (tick self : Int) (hp : c.pc = (p : Int)) (hlt : p < l.length) (w : World) (hP : Prg w a l) (hF : Fld w) (hbad : (wrong (l.getD p default) l.length 8).1 ≠ 0) :
  Calls Tryz.prog 104 #[coreV c, .slice a l.length cap, .int .i64 tick, .int .i64 self] w fun e w' => e = .returned (.tuple #[coreV c, wantV 1 0 0]) ∧ Below w.heap.size w w' := by
 have hb0 := three_bel w (.cells (coreA c) 112) (.cells zeroC 112) (.cells zeroW 178)
 have hcur := current_yes c a l cap p hp hlt _ (hP.kept hb0)
 have HS := hd (fun x w1 => StB.mk' (w1 := w1) (tc := 112) (tw := 178) (c := c) x hF)
 have hst := stands_any (l.getD p default) l.length
 rw [show ((wrong (l.getD p default) l.length 8).1 == 0) = false from by simpa using hbad] at hst
 generalize l.getD p default = x at *
 generalize l.length = n at *
 clear hbad hP hb0 hF hlt hp
 unfold coreV wantV wantA
 unfold insV at *
 unfold coreV at hcur
 unfold coreA zeroC zeroW at *
 go_enter Tryz.func104, Tryz.ntmps104
 go_wp2_with fail
 go_step3
 go_upto_region 2 with (first | (go_at_call 163; refine hcur.mono ?_; rintro e w1 ⟨rfl, b1⟩))
 replace HS := hd (HS.out x w1 b1)
 clear hcur b1
 unfold insA at HS
 obtain ⟨g, hg⟩ : ∃ g, Hid (w1.heap.size = g) := ⟨_, rfl⟩
 obtain ⟨W1, hW1⟩ : ∃ W, Hid (w1.alloc (.cells #[.int .i64 x.op, .int .i64 x.a, .int .i64 x.b, .int .i64 x.c, .int .i64 x.imm] 84) = W) := ⟨_, rfl⟩
 rw [hW1.out] at HS ⊢
 rw [hg.out] at HS ⊢
 clear hW1 hg
 have hst := hst W1 HS.out.fld
 obtain ⟨i0, i1, i2, i3, i4⟩ := HS.out.x10.ci
 go_upto_if 27 with (go_at_call 164; refine hst.mono ?_; rintro e w2 ⟨rfl, b2⟩)
 replace HS := hd (HS.out.kept b2)
 clear hst b2 i0 i1 i2 i3 i4
 obtain ⟨c0, c1, c2, c3, c4, c5, c6, c7, c8⟩ := HS.out.x4.cs
 obtain ⟨z0, z1, z2, z3, z4, z5, z6, z7, z8⟩ := HS.out.x8.cz
 obtain ⟨y0, y1, y2⟩ := Box.cw (k := 0) (u := 0) (v := 0) HS.out.x9
 have f8 := HS.out.x8.fr
 have f9 := HS.out.x9.fr
 have HE := hd (HS.out.ends c 1 0 0)
 clear HS
 go_wp2
 unfold put9 put3 at HE
 rw [Exit.noGoto_ret]
 clear c0 c1 c2 c3 c4 c5 c6 c7 c8 z0 z1 z2 z3 z4 z5 z6 z7 z8 y0 y1 y2 f8 f9
 obtain ⟨R8, R9, RB⟩ := HE.out
 obtain ⟨c0, c1, c2, c3, c4, c5, c6, c7, c8⟩ := R8.cs
 obtain ⟨y0, y1, y2⟩ := R9.cw
 refine bodyPost_ret ?_ rfl ⟨rfl, RB⟩
 clear R8 R9 RB
 generalize World.setCell _ _ _ = Wf at *
 simp [results, Tryz.results104, go_sem, c0, c1, c2, c3, c4, c5, c6, c7, c8, y0, y1, y2]
end Go.Proofs.YthnjeejnnhadeaaGreatDoor.Cpu

namespace Go.Proofs.YthnjeejnnhadeaaGreatDoor.Cpu
open Go.RowKit
structure StW (w W : World) (tc tw : TypeId) (g gw : Nat) (c : Core) (x : Ins) (k u v : Int) : Prop where
 st : StB w W tc tw g c zeroC zeroW x
 x12 : Box W tw gw (wantA k u v)
 n10 : gw ≠ g
 g12 : w.heap.size + 1 + 1 < gw
theorem StW.mk' {w w2 w3 : World} {tc tw : TypeId} {g : Nat} {c : Core} {x : Ins} (h : StB w w2 tc tw g c zeroC zeroW x) (b3 : Below w2.heap.size w2 w3) (k u v : Int) :
  StW w (w3.alloc (.cells (wantA k u v) tw)) tc tw g w3.heap.size c x k u v := by
 have h3 := h.kept b3
 exact ⟨h3.kept (below_al' _ _), Box.new _ _ _, by have := h3.x10.lt; omega, by have := h3.x10.lt; have := h3.g3; omega⟩
theorem StW.kept {w W W' : World} {tc tw : TypeId} {g gw : Nat} {c : Core} {x : Ins} {k u v : Int} (h : StW w W tc tw g gw c x k u v) (hb : Below W.heap.size W W') : StW w W' tc tw g gw c x k u v :=
 ⟨h.st.kept hb, h.x12.bel hb, h.n10, h.g12⟩
theorem StW.core {w W W' : World} {tc tw : TypeId} {g gw : Nat} {c d : Core} {x : Ins} {k u v : Int} (h : StW w W tc tw g gw c x k u v) (ho : Oth w.heap.size W W') (hx : Box W' tc w.heap.size (coreA d)) (hF : 1 < w.heap.size) : StW w W' tc tw g gw d x k u v :=
 ⟨⟨hx, h.st.x8.oth ho (by omega), h.st.x9.oth ho (by omega), h.st.x10.oth ho (by have := h.st.g3; omega), h.st.g3, ho.below h.st.bel (Nat.le_refl _), fun i hi => by
  have := h.st.fld i hi
  rw [World.cell?_of_block (w := W) (ho.block 1 (by omega))]
  exact this⟩, h.x12.oth ho (by have := h.g12; omega), h.n10, h.g12⟩
set_option maxRecDepth 100000 in
set_option maxHeartbeats 2000000 in
theorem step_hold (c : Core) (ad : Option Addr) (l : List Ins) (cap p : Nat) (tick self : Int) (hp : c.pc = (p : Int)) (hlt : p < l.length) (w : World) (hP : Prg w ad l) (hF : Fld w) (op imm : Int) (a b d : Nat) (ha : a < 8) (hb : b < 8) (hd' : d < 8)
  (hx : l.getD p default = ⟨op, a, b, d, imm⟩) (hok : (wrong (l.getD p default) l.length 8).1 = 0) (k u v : Int) (hwant : wantL c op a b d imm = (k, u, v)) (k0 : (k == 0) = false) (k5 : (k == 5) = false) (k8 : (k == 8) = false) (k9 : (k == 9) = false) :
  Calls Tryz.prog 104 #[coreV c, .slice ad l.length cap, .int .i64 tick, .int .i64 self] w fun e w' => e = .returned (.tuple #[coreV c, wantV k u v]) ∧ Below w.heap.size w w' := by
 have hb0 := three_bel w (.cells (coreA c) 112) (.cells zeroC 112) (.cells zeroW 178)
 have hcur := current_yes c ad l cap p hp hlt _ (hP.kept hb0)
 have HS := hd (fun x w1 => StB.mk' (w1 := w1) (tc := 112) (tw := 178) (c := c) x hF)
 have hst := stands_any (l.getD p default) l.length
 rw [show ((wrong (l.getD p default) l.length 8).1 == 0) = true from by simpa using hok] at hst
 have hwa := wanted_any c op imm a b d ha hb hd'
 rw [hx] at hst hcur
 rw [hwant] at hwa
 clear hx hok
 generalize l.length = n at *
 clear hP hb0 hF hlt hp hwant
 unfold wantT wantV wantA at hwa
 simp only at hwa
 unfold coreV wantV wantA
 unfold insV at *
 unfold coreV at hcur hwa
 unfold coreA zeroC zeroW at *
 go_enter Tryz.func104, Tryz.ntmps104
 go_wp2_with fail
 go_step3
 go_upto_region 2 with (first | (go_at_call 163; refine hcur.mono ?_; rintro e w1 ⟨rfl, b1⟩))
 replace HS := hd (HS.out ⟨op, a, b, d, imm⟩ w1 b1)
 clear hcur b1
 unfold insA at HS
 obtain ⟨g, hg⟩ : ∃ g, Hid (w1.heap.size = g) := ⟨_, rfl⟩
 obtain ⟨W1, hW1⟩ : ∃ W, Hid (w1.alloc (.cells #[.int .i64 op, .int .i64 a, .int .i64 b, .int .i64 d, .int .i64 imm] 84) = W) := ⟨_, rfl⟩
 simp only at HS
 rw [hW1.out] at HS ⊢
 rw [hg.out] at HS ⊢
 clear hW1 hg
 replace hst := hst W1 HS.out.fld
 obtain ⟨i0, i1, i2, i3, i4⟩ := HS.out.x10.ci
 go_upto_region 4 with (go_at_call 164; refine hst.mono ?_; rintro e w2 ⟨rfl, b2⟩)
 replace HS := hd (HS.out.kept b2)
 clear hst b2 i0 i1 i2 i3 i4
 obtain ⟨i0, i1, i2, i3, i4⟩ := HS.out.x10.ci
 obtain ⟨c0, c1, c2, c3, c4, c5, c6, c7, c8⟩ := HS.out.x4.cs
 replace hwa := hwa w2
 go_wp2_with (go_at_call 165; refine hwa.mono ?_; rintro e w3 ⟨rfl, b3⟩)
 clear hwa c0 c1 c2 c3 c4 c5 c6 c7 c8 i0 i1 i2 i3 i4
 replace HS := hd (StW.mk' HS.out b3 k u v)
 clear b3
 unfold wantA at HS
 obtain ⟨gw, hgw⟩ : ∃ g, Hid (w3.heap.size = g) := ⟨_, rfl⟩
 obtain ⟨W3, hW3⟩ : ∃ W, Hid (w3.alloc (.cells #[.int .i64 k, .int .i64 u, .int .i64 v] 178) = W) := ⟨_, rfl⟩
 rw [hW3.out] at HS ⊢
 rw [hgw.out] at HS ⊢
 clear hW3 hgw
 obtain ⟨v0, v1, v2⟩ := HS.out.x12.cw
 go_step3
 go_upto_region 26 with fail
 have HN1 : ¬ gw = w.heap.size + 1 := by have := HS.out.g12; omega
 have HN2 : ¬ w.heap.size + 1 = gw := by omega
 obtain ⟨c0, c1, c2, c3, c4, c5, c6, c7, c8⟩ := HS.out.st.x4.cs
 obtain ⟨z0, z1, z2, z3, z4, z5, z6, z7, z8⟩ := HS.out.st.x8.cz
 obtain ⟨y0, y1, y2⟩ := Box.cw (k := 0) (u := 0) (v := 0) HS.out.st.x9
 obtain ⟨v0, v1, v2⟩ := HS.out.x12.cw
 have f8 := HS.out.st.x8.fr
 have f9 := HS.out.st.x9.fr
 have HE := hd (HS.out.st.ends c k u v)
 clear HS
 go_region
 go_wp2
 unfold put9 put3 at HE
 try rw [Exit.noGoto_ret]
 clear c0 c1 c2 c3 c4 c5 c6 c7 c8 z0 z1 z2 z3 z4 z5 z6 z7 z8 y0 y1 y2 v0 v1 v2 f8 f9 HN1 HN2
 obtain ⟨R8, R9, RB⟩ := HE.out
 obtain ⟨c0, c1, c2, c3, c4, c5, c6, c7, c8⟩ := R8.cs
 obtain ⟨y0, y1, y2⟩ := R9.cw
 refine bodyPost_ret ?_ rfl ⟨rfl, RB.drew⟩
 clear R8 R9 RB
 generalize World.setCell _ _ _ = Wf at *
 simp [results, Tryz.results104, go_sem, c0, c1, c2, c3, c4, c5, c6, c7, c8, y0, y1, y2]
set_option maxRecDepth 100000 in
set_option maxHeartbeats 2000000 in
theorem step_next (c : Core) (ad : Option Addr) (l : List Ins) (cap p : Nat) (tick self : Int) (hp : c.pc = (p : Int)) (hlt : p < l.length) (w : World) (hP : Prg w ad l) (hF : Fld w) (op imm : Int) (a b d : Nat) (ha : a < 8) (hb : b < 8) (hd' : d < 8)
  (hx : l.getD p default = ⟨op, a, b, d, imm⟩) (hok : (wrong (l.getD p default) l.length 8).1 = 0) (k u v : Int) (hwant : wantL c op a b d imm = (k, u, v)) (hk : k = 5 ∨ k = 8 ∨ k = 9) :
  Calls Tryz.prog 104 #[coreV c, .slice ad l.length cap, .int .i64 tick, .int .i64 self] w fun e w' => e = .returned (.tuple #[coreV c.next, wantV k u v]) ∧ Below w.heap.size w w' := by
 have HW0 : Hid (1 < w.heap.size) := hd (World.block_lt_of_cell? w _ (hF 0 (by decide)))
 obtain ⟨D, hD⟩ : ∃ D, Hid (c.next = D) := ⟨_, rfl⟩
 rw [hD.out]
 have hb0 := three_bel w (.cells (coreA c) 112) (.cells zeroC 112) (.cells zeroW 178)
 have hcur := current_yes c ad l cap p hp hlt _ (hP.kept hb0)
 have HS := hd (fun x w1 => StB.mk' (w1 := w1) (tc := 112) (tw := 178) (c := c) x hF)
 have hst := stands_any (l.getD p default) l.length
 rw [show ((wrong (l.getD p default) l.length 8).1 == 0) = true from by simpa using hok] at hst
 have hwa := wanted_any c op imm a b d ha hb hd'
 rw [hx] at hst hcur
 rw [hwant] at hwa
 clear hx hok
 generalize l.length = n at *
 clear hP hb0 hF hlt hp hwant
 unfold wantT wantV wantA at hwa
 simp only at hwa
 unfold coreV wantV wantA
 unfold insV at *
 unfold coreV at hcur hwa
 unfold coreA zeroC zeroW at *
 go_enter Tryz.func104, Tryz.ntmps104
 go_wp2_with fail
 go_step3
 go_upto_region 2 with (first | (go_at_call 163; refine hcur.mono ?_; rintro e w1 ⟨rfl, b1⟩))
 replace HS := hd (HS.out ⟨op, a, b, d, imm⟩ w1 b1)
 clear hcur b1
 unfold insA at HS
 obtain ⟨g, hg⟩ : ∃ g, Hid (w1.heap.size = g) := ⟨_, rfl⟩
 obtain ⟨W1, hW1⟩ : ∃ W, Hid (w1.alloc (.cells #[.int .i64 op, .int .i64 a, .int .i64 b, .int .i64 d, .int .i64 imm] 84) = W) := ⟨_, rfl⟩
 simp only at HS
 rw [hW1.out] at HS ⊢
 rw [hg.out] at HS ⊢
 clear hW1 hg
 replace hst := hst W1 HS.out.fld
 obtain ⟨i0, i1, i2, i3, i4⟩ := HS.out.x10.ci
 go_upto_region 4 with (go_at_call 164; refine hst.mono ?_; rintro e w2 ⟨rfl, b2⟩)
 replace HS := hd (HS.out.kept b2)
 clear hst b2 i0 i1 i2 i3 i4
 obtain ⟨i0, i1, i2, i3, i4⟩ := HS.out.x10.ci
 obtain ⟨c0, c1, c2, c3, c4, c5, c6, c7, c8⟩ := HS.out.x4.cs
 replace hwa := hwa w2
 go_wp2_with (go_at_call 165; refine hwa.mono ?_; rintro e w3 ⟨rfl, b3⟩)
 clear hwa c0 c1 c2 c3 c4 c5 c6 c7 c8 i0 i1 i2 i3 i4
 replace HS := hd (StW.mk' HS.out b3 k u v)
 clear b3
 unfold wantA at HS
 obtain ⟨gw, hgw⟩ : ∃ g, Hid (w3.heap.size = g) := ⟨_, rfl⟩
 obtain ⟨W3, hW3⟩ : ∃ W, Hid (w3.alloc (.cells #[.int .i64 k, .int .i64 u, .int .i64 v] 178) = W) := ⟨_, rfl⟩
 rw [hW3.out] at HS ⊢
 rw [hgw.out] at HS ⊢
 clear hW3 hgw
 obtain ⟨v0, v1, v2⟩ := HS.out.x12.cw
 go_step3
 rcases hk with rfl | rfl | rfl
 ·go_upto_region 25 with fail
  obtain ⟨c0, c1, c2, c3, c4, c5, c6, c7, c8⟩ := HS.out.st.x4.cs
  have hnx := next_any c W3
  unfold coreV coreA Core.next at hnx
  simp only at hnx
  go_upto_region 26 with (go_at_call 162; refine hnx.mono ?_; rintro e w4 ⟨rfl, b4⟩; have HS := hd (HS.out.kept b4); obtain ⟨c0, c1, c2, c3, c4, c5, c6, c7, c8⟩ := HS.out.st.x4.cs; have f4 := HS.out.st.x4.fr)
  clear hnx c0 c1 c2 c3 c4 c5 c6 c7 c8
  obtain ⟨W5, hW5⟩ : ∃ W, Hid (put9 w4 w.heap.size (Core.next c) = W) := ⟨_, rfl⟩
  have HS4 := hd (HS.out.core (put9_oth _ _ _) (HS.out.st.x4.nine (Core.next c)) HW0.out)
  rw [hW5.out, hD.out] at HS4
  clear HS
  have HS := HS4
  clear HS4
  unfold put9 Core.next at hW5
  simp only at hW5
  rw [hW5.out]
  clear hW5
  have HN1 : ¬ gw = w.heap.size + 1 := by have := HS.out.g12; omega
  have HN2 : ¬ w.heap.size + 1 = gw := by omega
  obtain ⟨c0, c1, c2, c3, c4, c5, c6, c7, c8⟩ := HS.out.st.x4.cs
  obtain ⟨z0, z1, z2, z3, z4, z5, z6, z7, z8⟩ := HS.out.st.x8.cz
  obtain ⟨y0, y1, y2⟩ := Box.cw (k := 0) (u := 0) (v := 0) HS.out.st.x9
  obtain ⟨v0, v1, v2⟩ := HS.out.x12.cw
  have f8 := HS.out.st.x8.fr
  have f9 := HS.out.st.x9.fr
  have HE := hd (HS.out.st.ends D 5 u v)
  clear HS
  go_region
  go_wp2
  unfold put9 put3 at HE
  try rw [Exit.noGoto_ret]
  clear c0 c1 c2 c3 c4 c5 c6 c7 c8 z0 z1 z2 z3 z4 z5 z6 z7 z8 y0 y1 y2 v0 v1 v2 f8 f9 HN1 HN2
  obtain ⟨R8, R9, RB⟩ := HE.out
  obtain ⟨c0, c1, c2, c3, c4, c5, c6, c7, c8⟩ := R8.cs
  obtain ⟨y0, y1, y2⟩ := R9.cw
  refine bodyPost_ret ?_ rfl ⟨rfl, RB.drew⟩
  clear R8 R9 RB
  generalize World.setCell _ _ _ = Wf at *
  simp [results, Tryz.results104, go_sem, c0, c1, c2, c3, c4, c5, c6, c7, c8, y0, y1, y2]
 ·go_upto_region 25 with fail
  obtain ⟨c0, c1, c2, c3, c4, c5, c6, c7, c8⟩ := HS.out.st.x4.cs
  have hnx := next_any c W3
  unfold coreV coreA Core.next at hnx
  simp only at hnx
  go_upto_region 26 with (go_at_call 162; refine hnx.mono ?_; rintro e w4 ⟨rfl, b4⟩; have HS := hd (HS.out.kept b4); obtain ⟨c0, c1, c2, c3, c4, c5, c6, c7, c8⟩ := HS.out.st.x4.cs; have f4 := HS.out.st.x4.fr)
  clear hnx c0 c1 c2 c3 c4 c5 c6 c7 c8
  obtain ⟨W5, hW5⟩ : ∃ W, Hid (put9 w4 w.heap.size (Core.next c) = W) := ⟨_, rfl⟩
  have HS4 := hd (HS.out.core (put9_oth _ _ _) (HS.out.st.x4.nine (Core.next c)) HW0.out)
  rw [hW5.out, hD.out] at HS4
  clear HS
  have HS := HS4
  clear HS4
  unfold put9 Core.next at hW5
  simp only at hW5
  rw [hW5.out]
  clear hW5
  have HN1 : ¬ gw = w.heap.size + 1 := by have := HS.out.g12; omega
  have HN2 : ¬ w.heap.size + 1 = gw := by omega
  obtain ⟨c0, c1, c2, c3, c4, c5, c6, c7, c8⟩ := HS.out.st.x4.cs
  obtain ⟨z0, z1, z2, z3, z4, z5, z6, z7, z8⟩ := HS.out.st.x8.cz
  obtain ⟨y0, y1, y2⟩ := Box.cw (k := 0) (u := 0) (v := 0) HS.out.st.x9
  obtain ⟨v0, v1, v2⟩ := HS.out.x12.cw
  have f8 := HS.out.st.x8.fr
  have f9 := HS.out.st.x9.fr
  have HE := hd (HS.out.st.ends D 8 u v)
  clear HS
  go_region
  go_wp2
  unfold put9 put3 at HE
  try rw [Exit.noGoto_ret]
  clear c0 c1 c2 c3 c4 c5 c6 c7 c8 z0 z1 z2 z3 z4 z5 z6 z7 z8 y0 y1 y2 v0 v1 v2 f8 f9 HN1 HN2
  obtain ⟨R8, R9, RB⟩ := HE.out
  obtain ⟨c0, c1, c2, c3, c4, c5, c6, c7, c8⟩ := R8.cs
  obtain ⟨y0, y1, y2⟩ := R9.cw
  refine bodyPost_ret ?_ rfl ⟨rfl, RB.drew⟩
  clear R8 R9 RB
  generalize World.setCell _ _ _ = Wf at *
  simp [results, Tryz.results104, go_sem, c0, c1, c2, c3, c4, c5, c6, c7, c8, y0, y1, y2]
 ·go_upto_region 25 with fail
  obtain ⟨c0, c1, c2, c3, c4, c5, c6, c7, c8⟩ := HS.out.st.x4.cs
  have hnx := next_any c W3
  unfold coreV coreA Core.next at hnx
  simp only at hnx
  go_upto_region 26 with (go_at_call 162; refine hnx.mono ?_; rintro e w4 ⟨rfl, b4⟩; have HS := hd (HS.out.kept b4); obtain ⟨c0, c1, c2, c3, c4, c5, c6, c7, c8⟩ := HS.out.st.x4.cs; have f4 := HS.out.st.x4.fr)
  clear hnx c0 c1 c2 c3 c4 c5 c6 c7 c8
  obtain ⟨W5, hW5⟩ : ∃ W, Hid (put9 w4 w.heap.size (Core.next c) = W) := ⟨_, rfl⟩
  have HS4 := hd (HS.out.core (put9_oth _ _ _) (HS.out.st.x4.nine (Core.next c)) HW0.out)
  rw [hW5.out, hD.out] at HS4
  clear HS
  have HS := HS4
  clear HS4
  unfold put9 Core.next at hW5
  simp only at hW5
  rw [hW5.out]
  clear hW5
  have HN1 : ¬ gw = w.heap.size + 1 := by have := HS.out.g12; omega
  have HN2 : ¬ w.heap.size + 1 = gw := by omega
  obtain ⟨c0, c1, c2, c3, c4, c5, c6, c7, c8⟩ := HS.out.st.x4.cs
  obtain ⟨z0, z1, z2, z3, z4, z5, z6, z7, z8⟩ := HS.out.st.x8.cz
  obtain ⟨y0, y1, y2⟩ := Box.cw (k := 0) (u := 0) (v := 0) HS.out.st.x9
  obtain ⟨v0, v1, v2⟩ := HS.out.x12.cw
  have f8 := HS.out.st.x8.fr
  have f9 := HS.out.st.x9.fr
  have HE := hd (HS.out.st.ends D 9 u v)
  clear HS
  go_region
  go_wp2
  unfold put9 put3 at HE
  try rw [Exit.noGoto_ret]
  clear c0 c1 c2 c3 c4 c5 c6 c7 c8 z0 z1 z2 z3 z4 z5 z6 z7 z8 y0 y1 y2 v0 v1 v2 f8 f9 HN1 HN2
  obtain ⟨R8, R9, RB⟩ := HE.out
  obtain ⟨c0, c1, c2, c3, c4, c5, c6, c7, c8⟩ := R8.cs
  obtain ⟨y0, y1, y2⟩ := R9.cw
  refine bodyPost_ret ?_ rfl ⟨rfl, RB.drew⟩
  clear R8 R9 RB
  generalize World.setCell _ _ _ = Wf at *
  simp [results, Tryz.results104, go_sem, c0, c1, c2, c3, c4, c5, c6, c7, c8, y0, y1, y2]
end Go.Proofs.YthnjeejnnhadeaaGreatDoor.Cpu
