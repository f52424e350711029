/- The law's example, on the model. -/
import Derived.Test.YthhcecllejddeaaGreatDoorGMj
import Derived.Test.YthhcecllejddeaaGreatDoorGNa
import Derived.Test.YthhcecllejddeaaGreatDoorGWb
import Derived.Test.YthhcecllejddeaaGreatDoorGXc
import Derived.Maps.OwnSet
import Derived.Laws.EntriesVeiled
namespace Go.Proofs.YthhcecllejddeaaGreatDoor
open Go.RowKit
theorem r_jmp : ∀ p, p < rC.procs.length → Cpu.Jmp (cd rC p) := fun p hp => by
 have : p = 0 ∨ p = 1 := by
  have : rC.procs.length = 2 := rfl
  omega
 rcases this with rfl | rfl
 ·exact .inr rfl
 ·exact .inl rfl
theorem r_lay : LayOk rC (firstM rC) := layOk_first r_may (by decide) r_jmp
def tks (c : Cfg) : Nat → MS → MS
 | 0, m => m
 | n + 1, m => tks c n (tickM c m)
def ownK (c : Cfg) : Nat → MS → Int → Int
 | 0, _, o => o
 | n + 1, m, _ => ownK c n (tickM c m) (ownerM c m : Int)
theorem r_own : ownK rC 2 (firstM rC) (-1) = 0 := by kernel_rfl
theorem r_tick : (tks rC 2 (firstM rC)).tick = 2 := by kernel_rfl
theorem r_np : (tks rC 2 (firstM rC)).pt.length = 2 := by kernel_rfl
theorem r_nq : (tks rC 2 (firstM rC)).pr.length = 2 := by kernel_rfl
theorem r_st : (prOf (tks rC 2 (firstM rC)) 1).st = 5 := by kernel_rfl
theorem r_live : liveE rC (tks rC 2 (firstM rC)) 9 = 17 := by kernel_rfl
end Go.Proofs.YthhcecllejddeaaGreatDoor

namespace Go.Proofs.YthhcecllejddeaaGreatDoor
open Go.RowKit Go.Sort Go.Shelf Go.Maps
def fnR (v : Value) : Option (DataW Value × List MemPlace) := some (.held v, [])
def fnV (k : Nat) : Value := .func (.func k) #[] #[]
def dd0 : DataW Value := .map []
def dd1 : DataW Value := dd0.put (.int .i64 1) (.held (fnV 37))
def dd2 : DataW Value := dd1.put (.int .i64 2) (.held (fnV 38))
def dd3 : DataW Value := dd2.put (.int .i64 3) (.held (fnV 39))
def Dds (w : World) (b : Nat) : Prop := ∃ n, w.ownsMap Tryz.prog 3 fnR b n dd3
theorem mod_grownR {w w' : World} {row : Option Nat} (h : w.grownBy w' row) : Mod (fun k => row = some k) w w' := ⟨h.os, h.tape, h.output, h.size, fun k hk hn => h.block k hk (fun e => hn e.symm)⟩
theorem keyR (n : Int) (h1 : -9223372036854775808 ≤ n) (h2 : n ≤ 9223372036854775807) : keyOf Tryz.prog 3 (.int .i64 n) = some (.int .i64 n) := Wheel.key_int ⟨h1, h2⟩
set_option maxRecDepth 100000 in
set_option maxHeartbeats 2000000 in
theorem deeds_any (w : World) : Calls Tryz.prog 20 #[] w fun e w' => ∃ b, e = .returned (.map (some b)) ∧ Dds w' b ∧ Below w.heap.size w w' := by
 have hmm : (Instr.makeMap 75 none).run Tryz.prog w = .ok (.map (some w.heap.size)) (w.alloc (.map #[] 0)) := rfl
 have o0 : (w.alloc (.map #[] 0)).ownsMap Tryz.prog 3 fnR w.heap.size 0 dd0 := World.ownsMap_made w Tryz.prog 3 fnR
 have hb0 := below_al w (.map #[] 0)
 obtain ⟨B, hB⟩ : ∃ n, Hid (w.heap.size = n) := ⟨_, rfl⟩
 obtain ⟨W0, hW0⟩ : ∃ W, Hid (w.alloc (.map #[] 0) = W) := ⟨_, rfl⟩
 rw [hW0.out] at hmm o0 hb0
 rw [hB.out] at hmm o0
 obtain ⟨W1, r1, o1, t1⟩ := o0.store Wheel.lawInt Tryz.underlying75 (by unfold maxLen; omega) (keyR 1 (by omega) (by omega)) (val := fnV 37) rfl
 obtain ⟨W2, r2, o2, t2⟩ := o1.store Wheel.lawInt Tryz.underlying75 (by unfold maxLen; omega) (keyR 2 (by omega) (by omega)) (val := fnV 38) rfl
 obtain ⟨W3, r3, o3, t3⟩ := o2.store Wheel.lawInt Tryz.underlying75 (by unfold maxLen; omega) (keyR 3 (by omega) (by omega)) (val := fnV 39) rfl
 have m1 := (mod_grownR t1.grown).trans (mod_grownR t2.grown) (fun _ h => .inl h)
 have m2 := m1.trans (mod_grownR t3.grown) (fun _ h => .inl h)
 have m3 := (Mod.of_below (fun _ => False) hb0).trans m2 (fun k h => .inr (by have := Option.some.inj h; rw [hB.out]; omega))
 have HE : Hid (∃ b, Ending.returned (.map (some B)) = .returned (.map (some b)) ∧ Dds W3 b ∧ Below w.heap.size w W3) := hd ⟨B, rfl, ⟨_, o3⟩, m3.below (Nat.le_refl _) (fun _ _ h => h.elim)⟩
 unfold fnV at r1 r2 r3
 clear o0 o1 o2 o3 t1 t2 t3 m1 m2 m3 hb0 hB hW0
 go_enter Tryz.func20, Tryz.ntmps20
 go_wp2_with fail
 go_ret
 exact HE.out
theorem Dds.look {W : World} {b : Nat} (h : Dds W b) {n : Int} {v : Value} {is : Bool} (h1 : -9223372036854775808 ≤ n) (h2 : n ≤ 9223372036854775807) (ha : dd3.atKey (.int .i64 n) (.held .nilFunc) = .held v) (hi : Maps.has dd3 (.int .i64 n) = is) :
  (Instr.lookup 75 (.map (some b)) (.int .i64 n) true).run Tryz.prog W = .ok (.tuple #[v, .bool is]) W := by
 obtain ⟨k, h⟩ := h
 obtain ⟨x, ps, e1, e2⟩ := h.look_ok Wheel.lawInt Tryz.underlying75 (z := .nilFunc) (zd := .held .nilFunc) (zp := []) (Tryz.zeroValue73 W) rfl (keyR n h1 h2)
 rw [ha] at e2
 rw [hi] at e1
 have : x = v := by
  unfold fnR at e2
  have := (Prod.mk.inj (Option.some.inj e2)).1
  cases this
  rfl
 rw [this] at e1
 exact e1
theorem look_tick {W : World} {b : Nat} (h : Dds W b) : (Instr.lookup 75 (.map (some b)) (.int .i64 1) true).run Tryz.prog W = .ok (.tuple #[fnV 37, .bool true]) W := h.look (by omega) (by omega) (by kernel_rfl) (by kernel_rfl)
theorem look_kill {W : World} {b : Nat} (h : Dds W b) : (Instr.lookup 75 (.map (some b)) (.int .i64 3) true).run Tryz.prog W = .ok (.tuple #[fnV 39, .bool true]) W := h.look (by omega) (by omega) (by kernel_rfl) (by kernel_rfl)
end Go.Proofs.YthhcecllejddeaaGreatDoor
