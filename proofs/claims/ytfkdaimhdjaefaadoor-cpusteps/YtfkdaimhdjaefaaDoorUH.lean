/- The document's Step. -/
import Derived.Test.YtfkdaimhdjaefaaDoorUF
import Derived.Test.YtfkdaimhdjaefaaDoorUE
import Derived.Test.YtfkdaimhdjaefaaDoorU5
import Derived.Deep.RegionHeld3
namespace Go.Proofs.YtfkdaimhdjaefaaDoor
open Go.RowKit

set_option maxRecDepth 100000 in
set_option maxHeartbeats 2000000 in
theorem ds_no (c : Core) (ad : Option Addr) (n cap : Nat) (tick self : Int) (w : World) (hF : Fld w) (op imm : Int) (a b d : Nat) (ha : a < 8) (hb : b < 8) (hd' : d < 8)
    (hat : Calls Tryd.prog 21 #[coreV c, .slice ad n cap] (((w.alloc (.cells (coreA c) 33)).alloc (.cells zeroC 33)).alloc (.cells zeroW 34)) fun e w' => e = .returned (.tuple #[insV ⟨op, a, b, d, imm⟩, .bool false]) ∧ Below (((w.alloc (.cells (coreA c) 33)).alloc (.cells zeroC 33)).alloc (.cells zeroW 34)).heap.size (((w.alloc (.cells (coreA c) 33)).alloc (.cells zeroC 33)).alloc (.cells zeroW 34)) w')  :
    Calls Tryd.prog 8 #[coreV c, .slice ad n cap, .int .i64 tick, .int .i64 self] w fun e w' => e = .returned (.tuple #[coreV c, wantV 1 0 0]) ∧ Below w.heap.size w w' := by
  have HS := hd (fun w1 => StB.mk' (w1 := w1) (tc := 33) (tw := 34) (c := c) ⟨op, a, b, d, imm⟩ hF)
  have HA := hd ha
  have HBb := hd hb
  have HDd := hd hd'
  have la : (a : Int) < 8 := by omega
  have lb : (b : Int) < 8 := by omega
  have ld : (d : Int) < 8 := by omega
  clear hF ha hb hd'
  unfold wantV wantA
  unfold insV at *
  unfold coreV at *
  unfold coreA zeroC zeroW at *
  go_enter Tryd.func8, Tryd.ntmps8
  go_upto_region 2 with (first | (go_at_call 21; refine hat.mono ?_; rintro e w1 ⟨rfl, b1⟩))
  replace HS := hd (HS.out w1 b1)
  clear hat b1
  unfold insA at HS
  simp only at HS
  obtain ⟨g, hg⟩ : ∃ g, Hid (w1.heap.size = g) := ⟨_, rfl⟩
  obtain ⟨W1, hW1⟩ : ∃ W, Hid (w1.alloc (.cells #[.int .i64 op, .int .i64 a, .int .i64 b, .int .i64 d, .int .i64 imm] 28) = W) := ⟨_, rfl⟩
  rw [hW1.out] at HS ⊢
  rw [hg.out] at HS ⊢
  clear hW1 hg
  obtain ⟨i0, i1, i2, i3, i4⟩ := HS.out.x10.ci
  obtain ⟨c0, c1, c2, c3, c4, c5, c6, c7, c8⟩ := HS.out.x4.cs
  have ra := HS.out.x4.reg a HA.out
  have rb := HS.out.x4.reg b HBb.out
  have rd := HS.out.x4.reg d HDd.out
  have HN1 : ¬ g = w.heap.size + 1 := by have := HS.out.g3; omega
  have HN2 : ¬ w.heap.size + 1 = g := by omega
  have HN3 : ¬ g = w.heap.size + 1 + 1 := by have := HS.out.g3; omega
  have HN4 : ¬ w.heap.size + 1 + 1 = g := by omega
  obtain ⟨z0, z1, z2, z3, z4, z5, z6, z7, z8⟩ := HS.out.x8.cz
  obtain ⟨y0, y1, y2⟩ := Box.cw (k := 0) (u := 0) (v := 0) HS.out.x9
  have f8 := HS.out.x8.fr
  have f9 := HS.out.x9.fr
  have HE := hd (HS.out.ends c 1 0 0)
  clear HS
  go_wp2
  unfold put9 put3 at HE
  clear i0 i1 i2 i3 i4 c0 c1 c2 c3 c4 c5 c6 c7 c8 z0 z1 z2 z3 z4 z5 z6 z7 z8 y0 y1 y2 f8 f9 ra rb rd HN1 HN2 HN3 HN4
  obtain ⟨R8, R9, RB⟩ := HE.out
  obtain ⟨c0, c1, c2, c3, c4, c5, c6, c7, c8⟩ := R8.cs
  obtain ⟨y0, y1, y2⟩ := R9.cw
  refine bodyPost_ret ?_ rfl ⟨rfl, RB⟩
  clear R8 R9 RB
  generalize World.setCell _ _ _ = Wf at *
  simp [results, Tryd.results8, go_sem, c0, c1, c2, c3, c4, c5, c6, c7, c8, y0, y1, y2]

set_option maxRecDepth 100000 in
set_option maxHeartbeats 2000000 in
theorem ds_exit (c : Core) (ad : Option Addr) (n cap : Nat) (tick self : Int) (w : World) (hF : Fld w) (op imm : Int) (a b d : Nat) (ha : a < 8) (hb : b < 8) (hd' : d < 8)
    (hat : Calls Tryd.prog 21 #[coreV c, .slice ad n cap] (((w.alloc (.cells (coreA c) 33)).alloc (.cells zeroC 33)).alloc (.cells zeroW 34)) fun e w' => e = .returned (.tuple #[insV ⟨op, a, b, d, imm⟩, .bool true]) ∧ Below (((w.alloc (.cells (coreA c) 33)).alloc (.cells zeroC 33)).alloc (.cells zeroW 34)).heap.size (((w.alloc (.cells (coreA c) 33)).alloc (.cells zeroC 33)).alloc (.cells zeroW 34)) w') (hop : op = 0) :
    Calls Tryd.prog 8 #[coreV c, .slice ad n cap, .int .i64 tick, .int .i64 self] w fun e w' => e = .returned (.tuple #[coreV c, wantV 1 0 0]) ∧ Below w.heap.size w w' := by
  subst hop
  have HS := hd (fun w1 => StB.mk' (w1 := w1) (tc := 33) (tw := 34) (c := c) ⟨0, a, b, d, imm⟩ hF)
  have HA := hd ha
  have HBb := hd hb
  have HDd := hd hd'
  have la : (a : Int) < 8 := by omega
  have lb : (b : Int) < 8 := by omega
  have ld : (d : Int) < 8 := by omega
  clear hF ha hb hd'
  unfold wantV wantA
  unfold insV at *
  unfold coreV at *
  unfold coreA zeroC zeroW at *
  go_enter Tryd.func8, Tryd.ntmps8
  go_upto_region 2 with (first | (go_at_call 21; refine hat.mono ?_; rintro e w1 ⟨rfl, b1⟩))
  replace HS := hd (HS.out w1 b1)
  clear hat b1
  unfold insA at HS
  simp only at HS
  obtain ⟨g, hg⟩ : ∃ g, Hid (w1.heap.size = g) := ⟨_, rfl⟩
  obtain ⟨W1, hW1⟩ : ∃ W, Hid (w1.alloc (.cells #[.int .i64 0, .int .i64 a, .int .i64 b, .int .i64 d, .int .i64 imm] 28) = W) := ⟨_, rfl⟩
  rw [hW1.out] at HS ⊢
  rw [hg.out] at HS ⊢
  clear hW1 hg
  obtain ⟨i0, i1, i2, i3, i4⟩ := HS.out.x10.ci
  obtain ⟨c0, c1, c2, c3, c4, c5, c6, c7, c8⟩ := HS.out.x4.cs
  have ra := HS.out.x4.reg a HA.out
  have rb := HS.out.x4.reg b HBb.out
  have rd := HS.out.x4.reg d HDd.out
  have HN1 : ¬ g = w.heap.size + 1 := by have := HS.out.g3; omega
  have HN2 : ¬ w.heap.size + 1 = g := by omega
  have HN3 : ¬ g = w.heap.size + 1 + 1 := by have := HS.out.g3; omega
  have HN4 : ¬ w.heap.size + 1 + 1 = g := by omega
  obtain ⟨z0, z1, z2, z3, z4, z5, z6, z7, z8⟩ := HS.out.x8.cz
  obtain ⟨y0, y1, y2⟩ := Box.cw (k := 0) (u := 0) (v := 0) HS.out.x9
  have f8 := HS.out.x8.fr
  have f9 := HS.out.x9.fr
  have HE := hd (HS.out.ends c 1 0 0)
  clear HS
  go_wp2
  unfold put9 put3 at HE
  clear i0 i1 i2 i3 i4 c0 c1 c2 c3 c4 c5 c6 c7 c8 z0 z1 z2 z3 z4 z5 z6 z7 z8 y0 y1 y2 f8 f9 ra rb rd HN1 HN2 HN3 HN4
  obtain ⟨R8, R9, RB⟩ := HE.out
  obtain ⟨c0, c1, c2, c3, c4, c5, c6, c7, c8⟩ := R8.cs
  obtain ⟨y0, y1, y2⟩ := R9.cw
  refine bodyPost_ret ?_ rfl ⟨rfl, RB⟩
  clear R8 R9 RB
  generalize World.setCell _ _ _ = Wf at *
  simp [results, Tryd.results8, go_sem, c0, c1, c2, c3, c4, c5, c6, c7, c8, y0, y1, y2]

set_option maxRecDepth 100000 in
set_option maxHeartbeats 2000000 in
theorem ds_recv (c : Core) (ad : Option Addr) (n cap : Nat) (tick self : Int) (w : World) (hF : Fld w) (op imm : Int) (a b d : Nat) (ha : a < 8) (hb : b < 8) (hd' : d < 8)
    (hat : Calls Tryd.prog 21 #[coreV c, .slice ad n cap] (((w.alloc (.cells (coreA c) 33)).alloc (.cells zeroC 33)).alloc (.cells zeroW 34)) fun e w' => e = .returned (.tuple #[insV ⟨op, a, b, d, imm⟩, .bool true]) ∧ Below (((w.alloc (.cells (coreA c) 33)).alloc (.cells zeroC 33)).alloc (.cells zeroW 34)).heap.size (((w.alloc (.cells (coreA c) 33)).alloc (.cells zeroC 33)).alloc (.cells zeroW 34)) w') (hop : op = 25) :
    Calls Tryd.prog 8 #[coreV c, .slice ad n cap, .int .i64 tick, .int .i64 self] w fun e w' => e = .returned (.tuple #[coreV c, wantV 3 0 0]) ∧ Below w.heap.size w w' := by
  subst hop
  have HS := hd (fun w1 => StB.mk' (w1 := w1) (tc := 33) (tw := 34) (c := c) ⟨25, a, b, d, imm⟩ hF)
  have HA := hd ha
  have HBb := hd hb
  have HDd := hd hd'
  have la : (a : Int) < 8 := by omega
  have lb : (b : Int) < 8 := by omega
  have ld : (d : Int) < 8 := by omega
  clear hF ha hb hd'
  unfold wantV wantA
  unfold insV at *
  unfold coreV at *
  unfold coreA zeroC zeroW at *
  go_enter Tryd.func8, Tryd.ntmps8
  go_upto_region 2 with (first | (go_at_call 21; refine hat.mono ?_; rintro e w1 ⟨rfl, b1⟩))
  replace HS := hd (HS.out w1 b1)
  clear hat b1
  unfold insA at HS
  simp only at HS
  obtain ⟨g, hg⟩ : ∃ g, Hid (w1.heap.size = g) := ⟨_, rfl⟩
  obtain ⟨W1, hW1⟩ : ∃ W, Hid (w1.alloc (.cells #[.int .i64 25, .int .i64 a, .int .i64 b, .int .i64 d, .int .i64 imm] 28) = W) := ⟨_, rfl⟩
  rw [hW1.out] at HS ⊢
  rw [hg.out] at HS ⊢
  clear hW1 hg
  obtain ⟨i0, i1, i2, i3, i4⟩ := HS.out.x10.ci
  obtain ⟨c0, c1, c2, c3, c4, c5, c6, c7, c8⟩ := HS.out.x4.cs
  have ra := HS.out.x4.reg a HA.out
  have rb := HS.out.x4.reg b HBb.out
  have rd := HS.out.x4.reg d HDd.out
  have HN1 : ¬ g = w.heap.size + 1 := by have := HS.out.g3; omega
  have HN2 : ¬ w.heap.size + 1 = g := by omega
  have HN3 : ¬ g = w.heap.size + 1 + 1 := by have := HS.out.g3; omega
  have HN4 : ¬ w.heap.size + 1 + 1 = g := by omega
  obtain ⟨z0, z1, z2, z3, z4, z5, z6, z7, z8⟩ := HS.out.x8.cz
  obtain ⟨y0, y1, y2⟩ := Box.cw (k := 0) (u := 0) (v := 0) HS.out.x9
  have f8 := HS.out.x8.fr
  have f9 := HS.out.x9.fr
  have HE := hd (HS.out.ends c 3 0 0)
  clear HS
  go_wp2
  unfold put9 put3 at HE
  clear i0 i1 i2 i3 i4 c0 c1 c2 c3 c4 c5 c6 c7 c8 z0 z1 z2 z3 z4 z5 z6 z7 z8 y0 y1 y2 f8 f9 ra rb rd HN1 HN2 HN3 HN4
  obtain ⟨R8, R9, RB⟩ := HE.out
  obtain ⟨c0, c1, c2, c3, c4, c5, c6, c7, c8⟩ := R8.cs
  obtain ⟨y0, y1, y2⟩ := R9.cw
  refine bodyPost_ret ?_ rfl ⟨rfl, RB⟩
  clear R8 R9 RB
  generalize World.setCell _ _ _ = Wf at *
  simp [results, Tryd.results8, go_sem, c0, c1, c2, c3, c4, c5, c6, c7, c8, y0, y1, y2]

set_option maxRecDepth 100000 in
set_option maxHeartbeats 2000000 in
theorem ds_try (c : Core) (ad : Option Addr) (n cap : Nat) (tick self : Int) (w : World) (hF : Fld w) (op imm : Int) (a b d : Nat) (ha : a < 8) (hb : b < 8) (hd' : d < 8)
    (hat : Calls Tryd.prog 21 #[coreV c, .slice ad n cap] (((w.alloc (.cells (coreA c) 33)).alloc (.cells zeroC 33)).alloc (.cells zeroW 34)) fun e w' => e = .returned (.tuple #[insV ⟨op, a, b, d, imm⟩, .bool true]) ∧ Below (((w.alloc (.cells (coreA c) 33)).alloc (.cells zeroC 33)).alloc (.cells zeroW 34)).heap.size (((w.alloc (.cells (coreA c) 33)).alloc (.cells zeroC 33)).alloc (.cells zeroW 34)) w') (hop : op = 26) :
    Calls Tryd.prog 8 #[coreV c, .slice ad n cap, .int .i64 tick, .int .i64 self] w fun e w' => e = .returned (.tuple #[coreV c, wantV 4 0 0]) ∧ Below w.heap.size w w' := by
  subst hop
  have HS := hd (fun w1 => StB.mk' (w1 := w1) (tc := 33) (tw := 34) (c := c) ⟨26, a, b, d, imm⟩ hF)
  have HA := hd ha
  have HBb := hd hb
  have HDd := hd hd'
  have la : (a : Int) < 8 := by omega
  have lb : (b : Int) < 8 := by omega
  have ld : (d : Int) < 8 := by omega
  clear hF ha hb hd'
  unfold wantV wantA
  unfold insV at *
  unfold coreV at *
  unfold coreA zeroC zeroW at *
  go_enter Tryd.func8, Tryd.ntmps8
  go_upto_region 2 with (first | (go_at_call 21; refine hat.mono ?_; rintro e w1 ⟨rfl, b1⟩))
  replace HS := hd (HS.out w1 b1)
  clear hat b1
  unfold insA at HS
  simp only at HS
  obtain ⟨g, hg⟩ : ∃ g, Hid (w1.heap.size = g) := ⟨_, rfl⟩
  obtain ⟨W1, hW1⟩ : ∃ W, Hid (w1.alloc (.cells #[.int .i64 26, .int .i64 a, .int .i64 b, .int .i64 d, .int .i64 imm] 28) = W) := ⟨_, rfl⟩
  rw [hW1.out] at HS ⊢
  rw [hg.out] at HS ⊢
  clear hW1 hg
  obtain ⟨i0, i1, i2, i3, i4⟩ := HS.out.x10.ci
  obtain ⟨c0, c1, c2, c3, c4, c5, c6, c7, c8⟩ := HS.out.x4.cs
  have ra := HS.out.x4.reg a HA.out
  have rb := HS.out.x4.reg b HBb.out
  have rd := HS.out.x4.reg d HDd.out
  have HN1 : ¬ g = w.heap.size + 1 := by have := HS.out.g3; omega
  have HN2 : ¬ w.heap.size + 1 = g := by omega
  have HN3 : ¬ g = w.heap.size + 1 + 1 := by have := HS.out.g3; omega
  have HN4 : ¬ w.heap.size + 1 + 1 = g := by omega
  obtain ⟨z0, z1, z2, z3, z4, z5, z6, z7, z8⟩ := HS.out.x8.cz
  obtain ⟨y0, y1, y2⟩ := Box.cw (k := 0) (u := 0) (v := 0) HS.out.x9
  have f8 := HS.out.x8.fr
  have f9 := HS.out.x9.fr
  have HE := hd (HS.out.ends c 4 0 0)
  clear HS
  go_wp2
  unfold put9 put3 at HE
  clear i0 i1 i2 i3 i4 c0 c1 c2 c3 c4 c5 c6 c7 c8 z0 z1 z2 z3 z4 z5 z6 z7 z8 y0 y1 y2 f8 f9 ra rb rd HN1 HN2 HN3 HN4
  obtain ⟨R8, R9, RB⟩ := HE.out
  obtain ⟨c0, c1, c2, c3, c4, c5, c6, c7, c8⟩ := R8.cs
  obtain ⟨y0, y1, y2⟩ := R9.cw
  refine bodyPost_ret ?_ rfl ⟨rfl, RB⟩
  clear R8 R9 RB
  generalize World.setCell _ _ _ = Wf at *
  simp [results, Tryd.results8, go_sem, c0, c1, c2, c3, c4, c5, c6, c7, c8, y0, y1, y2]

set_option maxRecDepth 100000 in
set_option maxHeartbeats 2000000 in
theorem ds_send (c : Core) (ad : Option Addr) (n cap : Nat) (tick self : Int) (w : World) (hF : Fld w) (op imm : Int) (a b d : Nat) (ha : a < 8) (hb : b < 8) (hd' : d < 8)
    (hat : Calls Tryd.prog 21 #[coreV c, .slice ad n cap] (((w.alloc (.cells (coreA c) 33)).alloc (.cells zeroC 33)).alloc (.cells zeroW 34)) fun e w' => e = .returned (.tuple #[insV ⟨op, a, b, d, imm⟩, .bool true]) ∧ Below (((w.alloc (.cells (coreA c) 33)).alloc (.cells zeroC 33)).alloc (.cells zeroW 34)).heap.size (((w.alloc (.cells (coreA c) 33)).alloc (.cells zeroC 33)).alloc (.cells zeroW 34)) w') (hop : op = 24) :
    Calls Tryd.prog 8 #[coreV c, .slice ad n cap, .int .i64 tick, .int .i64 self] w fun e w' => e = .returned (.tuple #[coreV c, wantV 2 (c.r b) (c.r d)]) ∧ Below w.heap.size w w' := by
  subst hop
  have HS := hd (fun w1 => StB.mk' (w1 := w1) (tc := 33) (tw := 34) (c := c) ⟨24, a, b, d, imm⟩ hF)
  have HA := hd ha
  have HBb := hd hb
  have HDd := hd hd'
  have la : (a : Int) < 8 := by omega
  have lb : (b : Int) < 8 := by omega
  have ld : (d : Int) < 8 := by omega
  clear hF ha hb hd'
  unfold wantV wantA
  unfold insV at *
  unfold coreV at *
  unfold coreA zeroC zeroW at *
  go_enter Tryd.func8, Tryd.ntmps8
  go_upto_region 2 with (first | (go_at_call 21; refine hat.mono ?_; rintro e w1 ⟨rfl, b1⟩))
  replace HS := hd (HS.out w1 b1)
  clear hat b1
  unfold insA at HS
  simp only at HS
  obtain ⟨g, hg⟩ : ∃ g, Hid (w1.heap.size = g) := ⟨_, rfl⟩
  obtain ⟨W1, hW1⟩ : ∃ W, Hid (w1.alloc (.cells #[.int .i64 24, .int .i64 a, .int .i64 b, .int .i64 d, .int .i64 imm] 28) = W) := ⟨_, rfl⟩
  rw [hW1.out] at HS ⊢
  rw [hg.out] at HS ⊢
  clear hW1 hg
  obtain ⟨i0, i1, i2, i3, i4⟩ := HS.out.x10.ci
  obtain ⟨c0, c1, c2, c3, c4, c5, c6, c7, c8⟩ := HS.out.x4.cs
  have ra := HS.out.x4.reg a HA.out
  have rb := HS.out.x4.reg b HBb.out
  have rd := HS.out.x4.reg d HDd.out
  have HN1 : ¬ g = w.heap.size + 1 := by have := HS.out.g3; omega
  have HN2 : ¬ w.heap.size + 1 = g := by omega
  have HN3 : ¬ g = w.heap.size + 1 + 1 := by have := HS.out.g3; omega
  have HN4 : ¬ w.heap.size + 1 + 1 = g := by omega
  obtain ⟨z0, z1, z2, z3, z4, z5, z6, z7, z8⟩ := HS.out.x8.cz
  obtain ⟨y0, y1, y2⟩ := Box.cw (k := 0) (u := 0) (v := 0) HS.out.x9
  have f8 := HS.out.x8.fr
  have f9 := HS.out.x9.fr
  go_upto_region 8 with fail
  go_region
  have HE := hd (HS.out.ends c 2 (c.r b) (c.r d))
  clear HS
  go_wp2
  unfold put9 put3 at HE
  clear i0 i1 i2 i3 i4 c0 c1 c2 c3 c4 c5 c6 c7 c8 z0 z1 z2 z3 z4 z5 z6 z7 z8 y0 y1 y2 f8 f9 ra rb rd HN1 HN2 HN3 HN4
  obtain ⟨R8, R9, RB⟩ := HE.out
  obtain ⟨c0, c1, c2, c3, c4, c5, c6, c7, c8⟩ := R8.cs
  obtain ⟨y0, y1, y2⟩ := R9.cw
  refine bodyPost_ret ?_ rfl ⟨rfl, RB.drew⟩
  clear R8 R9 RB
  generalize World.setCell _ _ _ = Wf at *
  simp [results, Tryd.results8, go_sem, c0, c1, c2, c3, c4, c5, c6, c7, c8, y0, y1, y2]

set_option maxRecDepth 100000 in
set_option maxHeartbeats 2000000 in
theorem ds_sleep (c : Core) (ad : Option Addr) (n cap : Nat) (tick self : Int) (w : World) (hF : Fld w) (op imm : Int) (a b d : Nat) (ha : a < 8) (hb : b < 8) (hd' : d < 8)
    (hat : Calls Tryd.prog 21 #[coreV c, .slice ad n cap] (((w.alloc (.cells (coreA c) 33)).alloc (.cells zeroC 33)).alloc (.cells zeroW 34)) fun e w' => e = .returned (.tuple #[insV ⟨op, a, b, d, imm⟩, .bool true]) ∧ Below (((w.alloc (.cells (coreA c) 33)).alloc (.cells zeroC 33)).alloc (.cells zeroW 34)).heap.size (((w.alloc (.cells (coreA c) 33)).alloc (.cells zeroC 33)).alloc (.cells zeroW 34)) w') (hop : op = 28) :
    Calls Tryd.prog 8 #[coreV c, .slice ad n cap, .int .i64 tick, .int .i64 self] w fun e w' => e = .returned (.tuple #[coreV c, wantV 6 0 (c.r a)]) ∧ Below w.heap.size w w' := by
  subst hop
  have HS := hd (fun w1 => StB.mk' (w1 := w1) (tc := 33) (tw := 34) (c := c) ⟨28, a, b, d, imm⟩ hF)
  have HA := hd ha
  have HBb := hd hb
  have HDd := hd hd'
  have la : (a : Int) < 8 := by omega
  have lb : (b : Int) < 8 := by omega
  have ld : (d : Int) < 8 := by omega
  clear hF ha hb hd'
  unfold wantV wantA
  unfold insV at *
  unfold coreV at *
  unfold coreA zeroC zeroW at *
  go_enter Tryd.func8, Tryd.ntmps8
  go_upto_region 2 with (first | (go_at_call 21; refine hat.mono ?_; rintro e w1 ⟨rfl, b1⟩))
  replace HS := hd (HS.out w1 b1)
  clear hat b1
  unfold insA at HS
  simp only at HS
  obtain ⟨g, hg⟩ : ∃ g, Hid (w1.heap.size = g) := ⟨_, rfl⟩
  obtain ⟨W1, hW1⟩ : ∃ W, Hid (w1.alloc (.cells #[.int .i64 28, .int .i64 a, .int .i64 b, .int .i64 d, .int .i64 imm] 28) = W) := ⟨_, rfl⟩
  rw [hW1.out] at HS ⊢
  rw [hg.out] at HS ⊢
  clear hW1 hg
  obtain ⟨i0, i1, i2, i3, i4⟩ := HS.out.x10.ci
  obtain ⟨c0, c1, c2, c3, c4, c5, c6, c7, c8⟩ := HS.out.x4.cs
  have ra := HS.out.x4.reg a HA.out
  have rb := HS.out.x4.reg b HBb.out
  have rd := HS.out.x4.reg d HDd.out
  have HN1 : ¬ g = w.heap.size + 1 := by have := HS.out.g3; omega
  have HN2 : ¬ w.heap.size + 1 = g := by omega
  have HN3 : ¬ g = w.heap.size + 1 + 1 := by have := HS.out.g3; omega
  have HN4 : ¬ w.heap.size + 1 + 1 = g := by omega
  obtain ⟨z0, z1, z2, z3, z4, z5, z6, z7, z8⟩ := HS.out.x8.cz
  obtain ⟨y0, y1, y2⟩ := Box.cw (k := 0) (u := 0) (v := 0) HS.out.x9
  have f8 := HS.out.x8.fr
  have f9 := HS.out.x9.fr
  go_upto_region 16 with fail
  go_region
  have HE := hd (HS.out.ends c 6 0 (c.r a))
  clear HS
  go_wp2
  unfold put9 put3 at HE
  clear i0 i1 i2 i3 i4 c0 c1 c2 c3 c4 c5 c6 c7 c8 z0 z1 z2 z3 z4 z5 z6 z7 z8 y0 y1 y2 f8 f9 ra rb rd HN1 HN2 HN3 HN4
  obtain ⟨R8, R9, RB⟩ := HE.out
  obtain ⟨c0, c1, c2, c3, c4, c5, c6, c7, c8⟩ := R8.cs
  obtain ⟨y0, y1, y2⟩ := R9.cw
  refine bodyPost_ret ?_ rfl ⟨rfl, RB.drew⟩
  clear R8 R9 RB
  generalize World.setCell _ _ _ = Wf at *
  simp [results, Tryd.results8, go_sem, c0, c1, c2, c3, c4, c5, c6, c7, c8, y0, y1, y2]

set_option maxRecDepth 100000 in
set_option maxHeartbeats 2000000 in
theorem ds_lock (c : Core) (ad : Option Addr) (n cap : Nat) (tick self : Int) (w : World) (hF : Fld w) (op imm : Int) (a b d : Nat) (ha : a < 8) (hb : b < 8) (hd' : d < 8)
    (hat : Calls Tryd.prog 21 #[coreV c, .slice ad n cap] (((w.alloc (.cells (coreA c) 33)).alloc (.cells zeroC 33)).alloc (.cells zeroW 34)) fun e w' => e = .returned (.tuple #[insV ⟨op, a, b, d, imm⟩, .bool true]) ∧ Below (((w.alloc (.cells (coreA c) 33)).alloc (.cells zeroC 33)).alloc (.cells zeroW 34)).heap.size (((w.alloc (.cells (coreA c) 33)).alloc (.cells zeroC 33)).alloc (.cells zeroW 34)) w') (hop : op = 29) :
    Calls Tryd.prog 8 #[coreV c, .slice ad n cap, .int .i64 tick, .int .i64 self] w fun e w' => e = .returned (.tuple #[coreV c, wantV 7 imm 0]) ∧ Below w.heap.size w w' := by
  subst hop
  have HS := hd (fun w1 => StB.mk' (w1 := w1) (tc := 33) (tw := 34) (c := c) ⟨29, a, b, d, imm⟩ hF)
  have HA := hd ha
  have HBb := hd hb
  have HDd := hd hd'
  have la : (a : Int) < 8 := by omega
  have lb : (b : Int) < 8 := by omega
  have ld : (d : Int) < 8 := by omega
  clear hF ha hb hd'
  unfold wantV wantA
  unfold insV at *
  unfold coreV at *
  unfold coreA zeroC zeroW at *
  go_enter Tryd.func8, Tryd.ntmps8
  go_upto_region 2 with (first | (go_at_call 21; refine hat.mono ?_; rintro e w1 ⟨rfl, b1⟩))
  replace HS := hd (HS.out w1 b1)
  clear hat b1
  unfold insA at HS
  simp only at HS
  obtain ⟨g, hg⟩ : ∃ g, Hid (w1.heap.size = g) := ⟨_, rfl⟩
  obtain ⟨W1, hW1⟩ : ∃ W, Hid (w1.alloc (.cells #[.int .i64 29, .int .i64 a, .int .i64 b, .int .i64 d, .int .i64 imm] 28) = W) := ⟨_, rfl⟩
  rw [hW1.out] at HS ⊢
  rw [hg.out] at HS ⊢
  clear hW1 hg
  obtain ⟨i0, i1, i2, i3, i4⟩ := HS.out.x10.ci
  obtain ⟨c0, c1, c2, c3, c4, c5, c6, c7, c8⟩ := HS.out.x4.cs
  have ra := HS.out.x4.reg a HA.out
  have rb := HS.out.x4.reg b HBb.out
  have rd := HS.out.x4.reg d HDd.out
  have HN1 : ¬ g = w.heap.size + 1 := by have := HS.out.g3; omega
  have HN2 : ¬ w.heap.size + 1 = g := by omega
  have HN3 : ¬ g = w.heap.size + 1 + 1 := by have := HS.out.g3; omega
  have HN4 : ¬ w.heap.size + 1 + 1 = g := by omega
  obtain ⟨z0, z1, z2, z3, z4, z5, z6, z7, z8⟩ := HS.out.x8.cz
  obtain ⟨y0, y1, y2⟩ := Box.cw (k := 0) (u := 0) (v := 0) HS.out.x9
  have f8 := HS.out.x8.fr
  have f9 := HS.out.x9.fr
  go_upto_region 18 with fail
  go_region
  have HE := hd (HS.out.ends c 7 imm 0)
  clear HS
  go_wp2
  unfold put9 put3 at HE
  clear i0 i1 i2 i3 i4 c0 c1 c2 c3 c4 c5 c6 c7 c8 z0 z1 z2 z3 z4 z5 z6 z7 z8 y0 y1 y2 f8 f9 ra rb rd HN1 HN2 HN3 HN4
  obtain ⟨R8, R9, RB⟩ := HE.out
  obtain ⟨c0, c1, c2, c3, c4, c5, c6, c7, c8⟩ := R8.cs
  obtain ⟨y0, y1, y2⟩ := R9.cw
  refine bodyPost_ret ?_ rfl ⟨rfl, RB.drew⟩
  clear R8 R9 RB
  generalize World.setCell _ _ _ = Wf at *
  simp [results, Tryd.results8, go_sem, c0, c1, c2, c3, c4, c5, c6, c7, c8, y0, y1, y2]

end Go.Proofs.YtfkdaimhdjaefaaDoor
