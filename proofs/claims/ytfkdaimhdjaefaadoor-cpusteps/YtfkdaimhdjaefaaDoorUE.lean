/- The document's: the instruction that comes next, if it may stand there. -/
import Derived.Test.YtfkdaimhdjaefaaDoorU4
import Derived.Test.YtfkdaimhdjaefaaDoorUT
import Derived.Test.YtfkdaimhdjaefaaDoorU7
import Derived.Deep.RegionWith
namespace Go.Proofs.YtfkdaimhdjaefaaDoor
open Go.RowKit

set_option maxRecDepth 100000 in
set_option maxHeartbeats 1000000 in
theorem at_no (c : Core) (a : Option Addr) (n cap : Nat) (h : ¬ (0 ≤ c.pc ∧ c.pc < n)) (w : World) :
    Calls Tryd.prog 21 #[coreV c, .slice a n cap] w fun e w' => e = .returned (.tuple #[noIns, .bool false]) ∧ Below w.heap.size w w' := by
  have hB := two_bel w
  unfold coreV coreA noIns
  by_cases h1 : c.pc < 0
  · go_enter Tryd.func21, Tryd.ntmps21
    go_wp2
    refine bodyPost_ret (by simp [results, Tryd.results21, go_sem]) rfl ⟨rfl, ?_⟩
    exact hB _ _
  · have d1 : decide (c.pc < 0) = false := decide_eq_false h1
    have h2 : (n : Int) ≤ c.pc := by omega
    clear h
    go_enter Tryd.func21, Tryd.ntmps21
    go_wp2
    refine bodyPost_ret (by simp [results, Tryd.results21, go_sem]) rfl ⟨rfl, ?_⟩
    exact hB _ _

def zeroI : Array Value := #[.int .i64 0, .int .i64 0, .int .i64 0, .int .i64 0, .int .i64 0]
/-- The boxes of At. -/
structure StA (w W : World) (x : Ins) (z : Array Value) : Prop where
  x4 : Box W 28 (w.heap.size + 1) z
  x6 : Box W 28 (w.heap.size + 1 + 1) (insA x)
  bel : Below w.heap.size w W
theorem StA.new (w : World) (o : Obj) (x : Ins) : StA w (((w.alloc o).alloc (.cells zeroI 28)).alloc (.cells (insA x) 28)) x zeroI := by
  refine ⟨?_, ?_, three_bel _ _ _ _⟩
  · have h := (Box.new (w.alloc o) 28 zeroI).bel (below_al' _ (.cells (insA x) 28))
    simpa using h
  · have h := Box.new ((w.alloc o).alloc (.cells zeroI 28)) 28 (insA x)
    simpa using h
theorem StA.kept {w W W' : World} {x : Ins} {z : Array Value} (h : StA w W x z) (hb : Below W.heap.size W W') : StA w W' x z := ⟨h.x4.bel hb, h.x6.bel hb, h.bel.trans (hb.mono h.bel.size)⟩
def put5w (W : World) (b : Nat) (x : Ins) : World := ((((W.setCell ⟨b, 0, none⟩ (.int .i64 x.op)).setCell ⟨b, 1, none⟩ (.int .i64 x.a)).setCell ⟨b, 2, none⟩ (.int .i64 x.b)).setCell ⟨b, 3, none⟩ (.int .i64 x.c)).setCell ⟨b, 4, none⟩ (.int .i64 x.imm)
theorem put5w_oth (W : World) (b : Nat) (x : Ins) : Oth b W (put5w W b x) := ((((Oth.setCell _ _ _ _).trans (Oth.setCell _ _ _ _)).trans (Oth.setCell _ _ _ _)).trans (Oth.setCell _ _ _ _)).trans (Oth.setCell _ _ _ _)
theorem StA.ends {w W : World} {x : Ins} (h : StA w W x zeroI) : Box (put5w W (w.heap.size + 1) x) 28 (w.heap.size + 1) (insA x) ∧ Below w.heap.size w (put5w W (w.heap.size + 1) x) :=
  ⟨((((h.x4.put 0 (.int .i64 x.op)).put 1 (.int .i64 x.a)).put 2 (.int .i64 x.b)).put 3 (.int .i64 x.c)).put 4 (.int .i64 x.imm), (put5w_oth _ _ x).below h.bel (by omega)⟩
theorem Box.zi {w : World} {t : TypeId} {b : Nat} (h : Box w t b zeroI) : w.cell? ⟨b, 0, none⟩ = some (.int .i64 0) ∧ w.cell? ⟨b, 1, none⟩ = some (.int .i64 0) ∧ w.cell? ⟨b, 2, none⟩ = some (.int .i64 0) ∧ w.cell? ⟨b, 3, none⟩ = some (.int .i64 0) ∧ w.cell? ⟨b, 4, none⟩ = some (.int .i64 0) :=
  ⟨h.cell 0, h.cell 1, h.cell 2, h.cell 3, h.cell 4⟩

set_option maxRecDepth 100000 in
set_option maxHeartbeats 2000000 in
theorem at_yes (c : Core) (a : Option Addr) (l : List Ins) (cap p : Nat) (hp : c.pc = (p : Int)) (hlt : p < l.length) (w : World) (hP : Prg w a l) :
    Calls Tryd.prog 21 #[coreV c, .slice a l.length cap] w fun e w' => e = .returned (.tuple #[insV (l.getD p default), .bool ((wrong (l.getD p default) l.length 8).1 == 0)]) ∧ Below w.heap.size w w' := by
  have hB := two_bel w
  obtain ⟨pc, r⟩ := c
  simp only at hp
  subst hp
  have d1 : decide ((p : Int) < 0) = false := decide_eq_false (by omega)
  have d2 : decide ((l.length : Int) ≤ (p : Int)) = false := decide_eq_false (by omega)
  have hlt' : (p : Int) < (l.length : Int) := by omega
  obtain ⟨b, off, rfl, hx⟩ := hP p hlt
  have hk := fun o1 o2 => hx.kept (hB o1 o2)
  have k0 := fun o1 o2 => (hk o1 o2).c0
  have k1 := fun o1 o2 => (hk o1 o2).c1
  have k2 := fun o1 o2 => (hk o1 o2).c2
  have k3 := fun o1 o2 => (hk o1 o2).c3
  have k4 := fun o1 o2 => (hk o1 o2).c4
  have hck := rcheck_any (l.getD p default) l.length 8
  generalize l.getD p default = x at *
  generalize (wrong x l.length 8).1 = E at *
  generalize l.length = n at *
  clear hx hP hk
  have HS := hd (StA.new w (.cells (coreA ⟨p, r⟩) 33) x)
  unfold coreV coreA insV at *
  unfold zeroI insA at HS
  simp only at HS ⊢
  go_enter Tryd.func21, Tryd.ntmps21
  go_upto_region 4 with fail
  clear k0 k1 k2 k3 k4
  obtain ⟨W1, hW1⟩ : ∃ W, Hid (World.alloc (World.alloc (World.alloc w (.cells #[.int .i64 p, .int .i64 (r 0), .int .i64 (r 1), .int .i64 (r 2), .int .i64 (r 3), .int .i64 (r 4), .int .i64 (r 5), .int .i64 (r 6), .int .i64 (r 7)] 33)) (.cells #[.int .i64 0, .int .i64 0, .int .i64 0, .int .i64 0, .int .i64 0] 28)) (.cells #[.int .i64 x.op, .int .i64 x.a, .int .i64 x.b, .int .i64 x.c, .int .i64 x.imm] 28) = W) := ⟨_, rfl⟩
  rw [hW1.out] at HS ⊢
  clear hW1 hB
  have HR := hd (HS.out.kept ((Below.refl _ W1).drew))
  obtain ⟨i0, i1, i2, i3, i4⟩ := HS.out.x6.ci
  replace hck := hck W1.drew
  have hne : ¬ w.heap.size + 1 + 1 = w.heap.size + 1 := by omega
  go_region_with (go_at_call 28; refine hck.mono ?_; rintro e w1 ⟨rfl, b1⟩; have HT := hd (HR.out.kept b1); obtain ⟨i0, i1, i2, i3, i4⟩ := HT.out.x6.ci; obtain ⟨z0, z1, z2, z3, z4⟩ := HT.out.x4.zi; have f4 := HT.out.x4.fr)
  all_goals go_wp2_with fail
  all_goals
    have HE := hd HT.out.ends
    unfold put5w at HE
    clear i0 i1 i2 i3 i4 z0 z1 z2 z3 z4 f4
    obtain ⟨R4, RB⟩ := HE.out
    obtain ⟨c0, c1, c2, c3, c4⟩ := R4.ci
    refine bodyPost_ret ?_ rfl ⟨rfl, RB⟩
    clear R4 RB HE
    generalize World.setCell _ _ _ = Wf at *
    simp [results, Tryd.results21, go_sem, c0, c1, c2, c3, c4]
end Go.Proofs.YtfkdaimhdjaefaaDoor
