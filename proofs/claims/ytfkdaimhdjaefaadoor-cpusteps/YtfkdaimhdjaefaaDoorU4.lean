/- The instruction that comes next; whether it may stand there. -/
import Derived.Test.YtfkdaimhdjaefaaDoorGUa
namespace Go.Proofs.YtfkdaimhdjaefaaDoor
open Go.RowKit

theorem two_bel (w : World) (o1 o2 : Obj) : Below w.heap.size w ((w.alloc o1).alloc o2) := ((Below.refl _ w).alloc (Nat.le_refl _) _).alloc (by simp) _
theorem below_al' (w : World) (o : Obj) : Below w.heap.size w (w.alloc o) := (Below.refl _ w).alloc (Nat.le_refl _) o
theorem three_bel (w : World) (o1 o2 o3 : Obj) : Below w.heap.size w (((w.alloc o1).alloc o2).alloc o3) := (two_bel w o1 o2).alloc (by simp; omega) _

def noIns : Value := .agg #[.int .i64 0, .int .i64 0, .int .i64 0, .int .i64 0, .int .i64 0]

set_option maxRecDepth 100000 in
set_option maxHeartbeats 1000000 in
theorem current_no (c : Core) (a : Option Addr) (n cap : Nat) (h : ¬ (0 ≤ c.pc ∧ c.pc < n)) (w : World) :
    Calls Tryd.prog 17 #[coreV c, .slice a n cap] w fun e w' => e = .returned (.tuple #[noIns, .bool false]) ∧ Below w.heap.size w w' := by
  have hB := two_bel w
  unfold coreV coreA noIns
  by_cases h1 : c.pc < 0
  · go_enter Tryd.func17, Tryd.ntmps17
    go_wp2
    refine bodyPost_ret (by simp [results, Tryd.results17, go_sem]) rfl ⟨rfl, ?_⟩
    exact hB _ _
  · have d1 : decide (c.pc < 0) = false := decide_eq_false h1
    have h2 : (n : Int) ≤ c.pc := by omega
    clear h
    go_enter Tryd.func17, Tryd.ntmps17
    go_wp2
    refine bodyPost_ret (by simp [results, Tryd.results17, go_sem]) rfl ⟨rfl, ?_⟩
    exact hB _ _

set_option maxRecDepth 100000 in
set_option maxHeartbeats 1000000 in
theorem current_yes (c : Core) (a : Option Addr) (l : List Ins) (cap p : Nat) (hp : c.pc = (p : Int)) (hlt : p < l.length) (w : World) (hP : Prg w a l) :
    Calls Tryd.prog 17 #[coreV c, .slice a l.length cap] w fun e w' => e = .returned (.tuple #[insV (l.getD p default), .bool true]) ∧ Below w.heap.size w w' := by
  have hB := two_bel w
  obtain ⟨pc, r⟩ := c
  simp only at hp
  subst hp
  have d1 : decide ((p : Int) < 0) = false := decide_eq_false (by omega)
  have d2 : decide ((l.length : Int) ≤ (p : Int)) = false := decide_eq_false (by omega)
  have hlt' : (p : Int) < (l.length : Int) := by omega
  obtain ⟨b, off, rfl, hx⟩ := hP p hlt
  have hk := fun o1 o2 => hx.kept (hB o1 o2)
  have k0 := fun o1 o2 => (hk o1 o2).c0
  have k1 := fun o1 o2 => (hk o1 o2).c1
  have k2 := fun o1 o2 => (hk o1 o2).c2
  have k3 := fun o1 o2 => (hk o1 o2).c3
  have k4 := fun o1 o2 => (hk o1 o2).c4
  generalize l.getD p default = x at *
  clear hx hP hk
  unfold coreV coreA insV
  go_enter Tryd.func17, Tryd.ntmps17
  go_wp2
  refine bodyPost_ret (by simp [results, Tryd.results17, go_sem]) rfl ⟨rfl, ?_⟩
  exact hB _ _

set_option maxRecDepth 100000 in
set_option maxHeartbeats 1000000 in
theorem stands_any (x : Ins) (n : Int) (w : World) (hF : Fld w) :
    Calls Tryd.prog 18 #[insV x, .int .i64 n] w fun e w' => e = .returned (.bool ((wrong x n 8).1 == 0)) ∧ Below w.heap.size w w' := by
  have hb := (Below.refl _ w).alloc (Nat.le_refl _) (.cells #[.int .i64 x.op, .int .i64 x.a, .int .i64 x.b, .int .i64 x.c, .int .i64 x.imm] 28)
  have h := check_any x n 8 _ (hF.kept hb)
  have HB := hd hb
  generalize (wrong x n 8).1 = E at *
  clear hF hb
  unfold insV at *
  go_enter Tryd.func18, Tryd.ntmps18
  go_wp2_with (go_at_call 25; refine h.mono ?_; rintro e w1 ⟨rfl, b1⟩)
  go_ret
  exact ⟨rfl, HB.out.trans (b1.mono HB.out.size)⟩
end Go.Proofs.YtfkdaimhdjaefaaDoor
