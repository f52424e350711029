/- The document's examples. -/
import Derived.Test.YtfkdaimhdjaefaaDoorUB
import Derived.Test.YtfkdaimhdjaefaaDoorUM
namespace Go.Proofs.YtfkdaimhdjaefaaDoor
open Go.RowKit

def cA : Core := ⟨0, fun i => if i = 1 then 7 else if i = 2 then 3 else 0⟩
def cB : Core := ⟨1, fun _ => 0⟩
def lA : List Ins := [⟨4, 0, 1, 2, 0⟩]
def lB : List Ins := [⟨24, 0, 1, 2, 0⟩]
theorem st1 : coreV (stepL cA lA 5 6).1 = .agg #[.int .i64 1, .int .i64 4, .int .i64 7, .int .i64 3, .int .i64 0, .int .i64 0, .int .i64 0, .int .i64 0, .int .i64 0] ∧ wantT (stepL cA lA 5 6).2 = .agg #[.int .i64 0, .int .i64 0, .int .i64 0] := ⟨by kernel_rfl, by kernel_rfl⟩
theorem st2 : coreV (stepL cA lB 5 6).1 = .agg #[.int .i64 0, .int .i64 0, .int .i64 7, .int .i64 3, .int .i64 0, .int .i64 0, .int .i64 0, .int .i64 0, .int .i64 0] ∧ wantT (stepL cA lB 5 6).2 = .agg #[.int .i64 2, .int .i64 7, .int .i64 3] := ⟨by kernel_rfl, by kernel_rfl⟩
theorem st3 : coreV (stepL cB lA 5 6).1 = .agg #[.int .i64 1, .int .i64 0, .int .i64 0, .int .i64 0, .int .i64 0, .int .i64 0, .int .i64 0, .int .i64 0, .int .i64 0] ∧ wantT (stepL cB lA 5 6).2 = .agg #[.int .i64 1, .int .i64 0, .int .i64 0] := ⟨by kernel_rfl, by kernel_rfl⟩

/-- A program of one instruction in its own block. -/
theorem prg_one {W : World} {t : TypeId} {g : Nat} {x : Ins} (h : Box W t g (insA x)) : Prg W (some ⟨g, 0, none⟩) [x] := fun i hi => by
  obtain rfl : i = 0 := by simp at hi; omega
  exact ⟨g, 0, rfl, h.ci.1, h.ci.2.1, h.ci.2.2.1, h.ci.2.2.2.1, h.ci.2.2.2.2⟩

theorem nineB {w : World} {t : TypeId} {b : Nat} {v0 v1 v2 v3 v4 v5 v6 v7 v8 : Value} (h : Box w t b #[v0, v1, v2, v3, v4, v5, v6, v7, v8]) : w.cell? ⟨b, 0, none⟩ = some v0 ∧ w.cell? ⟨b, 1, none⟩ = some v1 ∧ w.cell? ⟨b, 2, none⟩ = some v2 ∧ w.cell? ⟨b, 3, none⟩ = some v3 ∧
    w.cell? ⟨b, 4, none⟩ = some v4 ∧ w.cell? ⟨b, 5, none⟩ = some v5 ∧ w.cell? ⟨b, 6, none⟩ = some v6 ∧ w.cell? ⟨b, 7, none⟩ = some v7 ∧ w.cell? ⟨b, 8, none⟩ = some v8 :=
  ⟨h.cell 0, h.cell 1, h.cell 2, h.cell 3, h.cell 4, h.cell 5, h.cell 6, h.cell 7, h.cell 8⟩
theorem threeB {w : World} {t : TypeId} {b : Nat} {v0 v1 v2 : Value} (h : Box w t b #[v0, v1, v2]) : w.cell? ⟨b, 0, none⟩ = some v0 ∧ w.cell? ⟨b, 1, none⟩ = some v1 ∧ w.cell? ⟨b, 2, none⟩ = some v2 :=
  ⟨h.cell 0, h.cell 1, h.cell 2⟩
theorem Box.next {w : World} (o : Obj) (t : TypeId) (cs : Array Value) : Box ((w.alloc o).alloc (.cells cs t)) t (w.heap.size + 1) cs := by
  have h := Box.new (w.alloc o) t cs
  simpa using h

/-- The boxes of the examples, one step after another. -/
structure Aw1 (w W : World) : Prop where
  x1 : Box W 25 w.heap.size #[.int .i64 0, .int .i64 0, .int .i64 7, .int .i64 3, .int .i64 0, .int .i64 0, .int .i64 0, .int .i64 0, .int .i64 0]
  x2 : Box W 28 (w.heap.size + 1) #[.int .i64 4, .int .i64 0, .int .i64 1, .int .i64 2, .int .i64 0]
  bel : Below w.heap.size w W
  fld : Fld W
theorem Aw1.kept {w W W' : World} (h : Aw1 w W) (hb : Below W.heap.size W W') : Aw1 w W' := ⟨h.x1.bel hb, h.x2.bel hb, h.bel.trans (hb.mono h.bel.size), h.fld.kept hb⟩
theorem two_bel' (w : World) (o1 o2 : Obj) : Below w.heap.size w ((w.alloc o1).alloc o2) := two_bel w o1 o2

set_option maxRecDepth 100000 in
set_option maxHeartbeats 2000000 in
theorem awake_any (w : World) (hF : Fld w) :
    Calls Tryd.prog 6 #[] w fun e w' => e = .returned (.bool true) ∧ Below w.heap.size w w' := by
  have H0 : Hid (Aw1 w ((w.alloc (.cells #[.int .i64 0, .int .i64 0, .int .i64 7, .int .i64 3, .int .i64 0, .int .i64 0, .int .i64 0, .int .i64 0, .int .i64 0] 25)).alloc (.cells #[.int .i64 4, .int .i64 0, .int .i64 1, .int .i64 2, .int .i64 0] 28))) := hd ⟨(Box.new w _ _).bel (below_al' _ _), Box.next _ _ _, two_bel _ _ _, hF.kept (two_bel _ _ _)⟩
  have hs1 := fun (W : World) (h : Aw1 w W) => step_any cA (some ⟨w.heap.size + 1, 0, none⟩) lA 1 5 6 W (prg_one (x := ⟨4, 0, 1, 2, 0⟩) h.x2) h.fld
  have hs2 := fun (g : Nat) (W : World) (hb : Box W 28 g #[.int .i64 24, .int .i64 0, .int .i64 1, .int .i64 2, .int .i64 0]) (hf : Fld W) => step_any cA (some ⟨g, 0, none⟩) lB 1 5 6 W (prg_one (x := ⟨24, 0, 1, 2, 0⟩) hb) hf
  have hs3 := fun (W : World) (h : Aw1 w W) => step_any cB (some ⟨w.heap.size + 1, 0, none⟩) lA 1 5 6 W (prg_one (x := ⟨4, 0, 1, 2, 0⟩) h.x2) h.fld
  rw [st1.1, st1.2] at hs1
  rw [st2.1, st2.2] at hs2
  rw [st3.1, st3.2] at hs3
  rw [show coreV cA = .agg #[.int .i64 0, .int .i64 0, .int .i64 7, .int .i64 3, .int .i64 0, .int .i64 0, .int .i64 0, .int .i64 0, .int .i64 0] from rfl, show lA.length = 1 from rfl] at hs1
  rw [show coreV cA = .agg #[.int .i64 0, .int .i64 0, .int .i64 7, .int .i64 3, .int .i64 0, .int .i64 0, .int .i64 0, .int .i64 0, .int .i64 0] from rfl, show lB.length = 1 from rfl] at hs2
  rw [show coreV cB = .agg #[.int .i64 1, .int .i64 0, .int .i64 0, .int .i64 0, .int .i64 0, .int .i64 0, .int .i64 0, .int .i64 0, .int .i64 0] from rfl, show lA.length = 1 from rfl] at hs3
  have HS2 := hd hs2
  clear hF hs2
  have hc1 := hs1 _ H0.out
  clear hs1
  go_enter Tryd.func6, Tryd.ntmps6
  go_upto_region 6 with (go_at_call 7; refine hc1.mono ?_; rintro e w1 ⟨rfl, b1⟩)
  clear hc1
  have H1 := hd (H0.out.kept b1)
  clear b1 H0
  have H2 := hd (H1.out.kept (two_bel w1 (.cells #[.int .i64 1, .int .i64 4, .int .i64 7, .int .i64 3, .int .i64 0, .int .i64 0, .int .i64 0, .int .i64 0, .int .i64 0] 25) (.cells #[.int .i64 0, .int .i64 0, .int .i64 0] 30)))
  have X3 := hd ((Box.new w1 25 #[.int .i64 1, .int .i64 4, .int .i64 7, .int .i64 3, .int .i64 0, .int .i64 0, .int .i64 0, .int .i64 0, .int .i64 0]).bel (below_al' _ (.cells #[.int .i64 0, .int .i64 0, .int .i64 0] 30)))
  have X4 := hd (Box.next (w := w1) (.cells #[.int .i64 1, .int .i64 4, .int .i64 7, .int .i64 3, .int .i64 0, .int .i64 0, .int .i64 0, .int .i64 0, .int .i64 0] 25) 30 #[.int .i64 0, .int .i64 0, .int .i64 0])
  obtain ⟨p1, hp1⟩ : ∃ g, Hid (w1.heap.size = g) := ⟨_, rfl⟩
  obtain ⟨W1, hW1⟩ : ∃ W, Hid ((w1.alloc (.cells #[.int .i64 1, .int .i64 4, .int .i64 7, .int .i64 3, .int .i64 0, .int .i64 0, .int .i64 0, .int .i64 0, .int .i64 0] 25)).alloc (.cells #[.int .i64 0, .int .i64 0, .int .i64 0] 30) = W) := ⟨_, rfl⟩
  rw [hW1.out] at H2 X3 X4 ⊢
  rw [hp1.out] at X3 X4 ⊢
  clear hW1 hp1 H1
  obtain ⟨a0, a1, a2, a3, a4, a5, a6, a7, a8⟩ := nineB H2.out.x1
  have hc2 := HS2.out W1.heap.size (W1.alloc (.cells #[.int .i64 24, .int .i64 0, .int .i64 1, .int .i64 2, .int .i64 0] 28)) (Box.new _ _ _) (H2.out.fld.kept (below_al' _ _))
  clear HS2
  go_upto_region 7 with (go_at_call 7; refine hc2.mono ?_; rintro e w2 ⟨rfl, b2⟩)
  clear hc2 a0 a1 a2 a3 a4 a5 a6 a7 a8
  have B2 := (below_al' W1 (.cells #[.int .i64 24, .int .i64 0, .int .i64 1, .int .i64 2, .int .i64 0] 28)).trans (b2.mono (below_al' W1 (.cells #[.int .i64 24, .int .i64 0, .int .i64 1, .int .i64 2, .int .i64 0] 28)).size)
  have H3 := hd (H2.out.kept B2)
  replace X3 := hd (X3.out.bel B2)
  replace X4 := hd (X4.out.bel B2)
  clear b2 B2 H2
  have B3 := two_bel w2 (.cells #[.int .i64 0, .int .i64 0, .int .i64 7, .int .i64 3, .int .i64 0, .int .i64 0, .int .i64 0, .int .i64 0, .int .i64 0] 25) (.cells #[.int .i64 2, .int .i64 7, .int .i64 3] 30)
  have H4 := hd (H3.out.kept B3)
  replace X3 := hd (X3.out.bel B3)
  replace X4 := hd (X4.out.bel B3)
  have X5 := hd ((Box.new w2 25 #[.int .i64 0, .int .i64 0, .int .i64 7, .int .i64 3, .int .i64 0, .int .i64 0, .int .i64 0, .int .i64 0, .int .i64 0]).bel (below_al' _ (.cells #[.int .i64 2, .int .i64 7, .int .i64 3] 30)))
  have X6 := hd (Box.next (w := w2) (.cells #[.int .i64 0, .int .i64 0, .int .i64 7, .int .i64 3, .int .i64 0, .int .i64 0, .int .i64 0, .int .i64 0, .int .i64 0] 25) 30 #[.int .i64 2, .int .i64 7, .int .i64 3])
  clear H3 B3
  obtain ⟨p2, hp2⟩ : ∃ g, Hid (w2.heap.size = g) := ⟨_, rfl⟩
  obtain ⟨W2, hW2⟩ : ∃ W, Hid ((w2.alloc (.cells #[.int .i64 0, .int .i64 0, .int .i64 7, .int .i64 3, .int .i64 0, .int .i64 0, .int .i64 0, .int .i64 0, .int .i64 0] 25)).alloc (.cells #[.int .i64 2, .int .i64 7, .int .i64 3] 30) = W) := ⟨_, rfl⟩
  rw [hW2.out] at H4 X3 X4 X5 X6 ⊢
  rw [hp2.out] at X5 X6 ⊢
  clear hW2 hp2
  have hc3 := hs3 W2 H4.out
  clear hs3
  go_upto_region 8 with (go_at_call 7; refine hc3.mono ?_; rintro e w3 ⟨rfl, b3⟩)
  clear hc3
  have H5 := hd (H4.out.kept b3)
  replace X3 := hd (X3.out.bel b3)
  replace X4 := hd (X4.out.bel b3)
  replace X5 := hd (X5.out.bel b3)
  replace X6 := hd (X6.out.bel b3)
  have B4 := two_bel w3 (.cells #[.int .i64 1, .int .i64 0, .int .i64 0, .int .i64 0, .int .i64 0, .int .i64 0, .int .i64 0, .int .i64 0, .int .i64 0] 25) (.cells #[.int .i64 1, .int .i64 0, .int .i64 0] 30)
  have H6 := hd (H5.out.kept B4)
  replace X3 := hd (X3.out.bel B4)
  replace X4 := hd (X4.out.bel B4)
  replace X5 := hd (X5.out.bel B4)
  replace X6 := hd (X6.out.bel B4)
  have X8 := hd (Box.next (w := w3) (.cells #[.int .i64 1, .int .i64 0, .int .i64 0, .int .i64 0, .int .i64 0, .int .i64 0, .int .i64 0, .int .i64 0, .int .i64 0] 25) 30 #[.int .i64 1, .int .i64 0, .int .i64 0])
  clear b3 H4 H5 B4
  obtain ⟨p3, hp3⟩ : ∃ g, Hid (w3.heap.size = g) := ⟨_, rfl⟩
  obtain ⟨W3, hW3⟩ : ∃ W, Hid ((w3.alloc (.cells #[.int .i64 1, .int .i64 0, .int .i64 0, .int .i64 0, .int .i64 0, .int .i64 0, .int .i64 0, .int .i64 0, .int .i64 0] 25)).alloc (.cells #[.int .i64 1, .int .i64 0, .int .i64 0] 30) = W) := ⟨_, rfl⟩
  rw [hW3.out] at H6 X3 X4 X5 X6 X8 ⊢
  rw [hp3.out] at X8 ⊢
  clear hW3 hp3
  obtain ⟨a0, a1, a2, a3, a4, a5, a6, a7, a8⟩ := nineB H6.out.x1
  obtain ⟨d0, d1, d2, d3, d4, d5, d6, d7, d8⟩ := nineB X3.out
  obtain ⟨v0, v1, v2⟩ := threeB X4.out
  obtain ⟨e0, e1, e2, e3, e4, e5, e6, e7, e8⟩ := nineB X5.out
  obtain ⟨y0, y1, y2⟩ := threeB X6.out
  obtain ⟨z0, z1, z2⟩ := threeB X8.out
  have h8 := eq8
  go_wp2
  go_ret
  exact ⟨rfl, H6.out.bel⟩
end Go.Proofs.YtfkdaimhdjaefaaDoor
