/- Step of an instruction that reckons. -/
import Derived.Test.YthnjeejnnhadeaaGreatDoorGUb
namespace Go.Proofs.YthnjeejnnhadeaaGreatDoor.Cpu
open Go.RowKit
set_option maxRecDepth 100000 in
set_option maxHeartbeats 2000000 in
theorem step_set (c : Core) (ad : Option Addr) (l : List Ins) (cap p : Nat) (tick self : Int) (hp : c.pc = (p : Int)) (hlt : p < l.length) (w : World) (hP : Prg w ad l) (hF : Fld w) (op imm : Int) (a b d : Nat) (ha : a < 8) (hb : b < 8) (hd' : d < 8)
  (hx : l.getD p default = ⟨op, a, b, d, imm⟩) (hok : (wrong (l.getD p default) l.length 8).1 = 0) (hwant : wantL c op a b d imm = (0, 0, 0)) (hop : op = 1) :
  Calls Tryz.prog 104 #[coreV c, .slice ad l.length cap, .int .i64 tick, .int .i64 self] w fun e w' => e = .returned (.tuple #[coreV ((c.set a imm).next), wantV 0 0 0]) ∧ Below w.heap.size w w' := by
 subst hop
 have HW0 : Hid (1 < w.heap.size) := hd (World.block_lt_of_cell? w _ (hF 0 (by decide)))
 obtain ⟨D, hD⟩ : ∃ D, Hid ((c.set a imm).next = D) := ⟨_, rfl⟩
 rw [hD.out]
 obtain ⟨C1, hC1⟩ : ∃ D, Hid (c.set a imm = D) := ⟨_, rfl⟩
 rw [hC1.out] at hD
 have HA := hd ha
 have HBb := hd hb
 have HDd := hd hd'
 have hb0 := three_bel w (.cells (coreA c) 112) (.cells zeroC 112) (.cells zeroW 178)
 have hcur := current_yes c ad l cap p hp hlt _ (hP.kept hb0)
 have HS := hd (fun x w1 => StB.mk' (w1 := w1) (tc := 112) (tw := 178) (c := c) x hF)
 have hst := stands_any (l.getD p default) l.length
 rw [show ((wrong (l.getD p default) l.length 8).1 == 0) = true from by simpa using hok] at hst
 have hwa := wanted_any c 1 imm a b d ha hb hd'
 rw [hx] at hst hcur
 rw [hwant] at hwa
 clear hx hok
 generalize l.length = n at *
 clear hP hb0 hF hlt hp hwant
 unfold wantT wantV wantA at hwa
 simp only at hwa
 unfold coreV wantV wantA
 unfold insV at *
 unfold coreV at hcur hwa
 unfold coreA zeroC zeroW at *
 go_enter Tryz.func104, Tryz.ntmps104
 go_wp2_with fail
 go_step3
 go_upto_region 2 with (first | (go_at_call 163; refine hcur.mono ?_; rintro e w1 ⟨rfl, b1⟩))
 replace HS := hd (HS.out ⟨1, a, b, d, imm⟩ w1 b1)
 clear hcur b1
 unfold insA at HS
 obtain ⟨g, hg⟩ : ∃ g, Hid (w1.heap.size = g) := ⟨_, rfl⟩
 obtain ⟨W1, hW1⟩ : ∃ W, Hid (w1.alloc (.cells #[.int .i64 1, .int .i64 a, .int .i64 b, .int .i64 d, .int .i64 imm] 84) = W) := ⟨_, rfl⟩
 simp only at HS
 rw [hW1.out] at HS ⊢
 rw [hg.out] at HS ⊢
 clear hW1 hg
 replace hst := hst W1 HS.out.fld
 obtain ⟨i0, i1, i2, i3, i4⟩ := HS.out.x10.ci
 go_upto_region 4 with (go_at_call 164; refine hst.mono ?_; rintro e w2 ⟨rfl, b2⟩)
 replace HS := hd (HS.out.kept b2)
 clear hst b2 i0 i1 i2 i3 i4
 obtain ⟨i0, i1, i2, i3, i4⟩ := HS.out.x10.ci
 obtain ⟨c0, c1, c2, c3, c4, c5, c6, c7, c8⟩ := HS.out.x4.cs
 replace hwa := hwa w2
 go_wp2_with (go_at_call 165; refine hwa.mono ?_; rintro e w3 ⟨rfl, b3⟩)
 clear hwa c0 c1 c2 c3 c4 c5 c6 c7 c8 i0 i1 i2 i3 i4
 replace HS := hd (StW.mk' HS.out b3 0 0 0)
 clear b3
 unfold wantA at HS
 obtain ⟨gw, hgw⟩ : ∃ g, Hid (w3.heap.size = g) := ⟨_, rfl⟩
 obtain ⟨W3, hW3⟩ : ∃ W, Hid (w3.alloc (.cells #[.int .i64 0, .int .i64 0, .int .i64 0] 178) = W) := ⟨_, rfl⟩
 rw [hW3.out] at HS ⊢
 rw [hgw.out] at HS ⊢
 clear hW3 hgw
 obtain ⟨v0, v1, v2⟩ := HS.out.x12.cw
 obtain ⟨i0, i1, i2, i3, i4⟩ := HS.out.st.x10.ci
 have ra := HS.out.st.x4.reg a HA.out
 have rb := HS.out.st.x4.reg b HBb.out
 have rd := HS.out.st.x4.reg d HDd.out
 have rp := HS.out.st.x4.pc
 have f4 := HS.out.st.x4.fr
 have la : (a : Int) < 8 := by have := HA.out; omega
 have lb : (b : Int) < 8 := by have := HBb.out; omega
 have ld : (d : Int) < 8 := by have := HDd.out; omega
 clear ha hb hd'
 go_step3
 go_upto_region 25 with fail
 clear i0 i1 i2 i3 i4 ra rb rd rp f4 la lb ld v0 v1 v2
 obtain ⟨W4, hW4⟩ : ∃ W, Hid ((W3.setCell ⟨w.heap.size, 1 + a, none⟩ (.int .i64 imm)) = W) := ⟨_, rfl⟩
 have HS4 := hd (HS.out.core (Oth.setCell _ _ _ _) (HS.out.st.x4.set a HA.out imm) HW0.out)
 rw [hW4.out, hC1.out] at HS4
 rw [hW4.out]
 clear HS hW4
 have HS := HS4
 clear HS4
 obtain ⟨c0, c1, c2, c3, c4, c5, c6, c7, c8⟩ := HS.out.st.x4.cs
 have hnx := next_any C1 W4
 unfold coreV coreA Core.next at hnx
 simp only at hnx
 go_upto_region 26 with (go_at_call 162; refine hnx.mono ?_; rintro e w4 ⟨rfl, b4⟩; have HS := hd (HS.out.kept b4); obtain ⟨c0, c1, c2, c3, c4, c5, c6, c7, c8⟩ := HS.out.st.x4.cs; have f4 := HS.out.st.x4.fr)
 clear hnx c0 c1 c2 c3 c4 c5 c6 c7 c8
 obtain ⟨W5, hW5⟩ : ∃ W, Hid (put9 w4 w.heap.size (Core.next C1) = W) := ⟨_, rfl⟩
 have HS4 := hd (HS.out.core (put9_oth _ _ _) (HS.out.st.x4.nine (Core.next C1)) HW0.out)
 rw [hW5.out, hD.out] at HS4
 clear HS
 have HS := HS4
 clear HS4
 unfold put9 Core.next at hW5
 simp only at hW5
 rw [hW5.out]
 clear hW5
 have HN1 : ¬ gw = w.heap.size + 1 := by have := HS.out.g12; omega
 have HN2 : ¬ w.heap.size + 1 = gw := by omega
 obtain ⟨c0, c1, c2, c3, c4, c5, c6, c7, c8⟩ := HS.out.st.x4.cs
 obtain ⟨z0, z1, z2, z3, z4, z5, z6, z7, z8⟩ := HS.out.st.x8.cz
 obtain ⟨y0, y1, y2⟩ := Box.cw (k := 0) (u := 0) (v := 0) HS.out.st.x9
 obtain ⟨v0, v1, v2⟩ := HS.out.x12.cw
 have f8 := HS.out.st.x8.fr
 have f9 := HS.out.st.x9.fr
 have HE := hd (HS.out.st.ends D 0 0 0)
 clear HS
 go_region
 go_wp2
 unfold put9 put3 at HE
 try rw [Exit.noGoto_ret]
 clear c0 c1 c2 c3 c4 c5 c6 c7 c8 z0 z1 z2 z3 z4 z5 z6 z7 z8 y0 y1 y2 v0 v1 v2 f8 f9 HN1 HN2
 obtain ⟨R8, R9, RB⟩ := HE.out
 obtain ⟨c0, c1, c2, c3, c4, c5, c6, c7, c8⟩ := R8.cs
 obtain ⟨y0, y1, y2⟩ := R9.cw
 refine bodyPost_ret ?_ rfl ⟨rfl, RB.drew⟩
 clear R8 R9 RB
 generalize World.setCell _ _ _ = Wf at *
 simp [results, Tryz.results104, go_sem, c0, c1, c2, c3, c4, c5, c6, c7, c8, y0, y1, y2]
set_option maxRecDepth 100000 in
set_option maxHeartbeats 2000000 in
theorem step_now (c : Core) (ad : Option Addr) (l : List Ins) (cap p : Nat) (tick self : Int) (hp : c.pc = (p : Int)) (hlt : p < l.length) (w : World) (hP : Prg w ad l) (hF : Fld w) (op imm : Int) (a b d : Nat) (ha : a < 8) (hb : b < 8) (hd' : d < 8)
  (hx : l.getD p default = ⟨op, a, b, d, imm⟩) (hok : (wrong (l.getD p default) l.length 8).1 = 0) (hwant : wantL c op a b d imm = (0, 0, 0)) (hop : op = 32) :
  Calls Tryz.prog 104 #[coreV c, .slice ad l.length cap, .int .i64 tick, .int .i64 self] w fun e w' => e = .returned (.tuple #[coreV ((c.set a tick).next), wantV 0 0 0]) ∧ Below w.heap.size w w' := by
 subst hop
 have HW0 : Hid (1 < w.heap.size) := hd (World.block_lt_of_cell? w _ (hF 0 (by decide)))
 obtain ⟨D, hD⟩ : ∃ D, Hid ((c.set a tick).next = D) := ⟨_, rfl⟩
 rw [hD.out]
 obtain ⟨C1, hC1⟩ : ∃ D, Hid (c.set a tick = D) := ⟨_, rfl⟩
 rw [hC1.out] at hD
 have HA := hd ha
 have HBb := hd hb
 have HDd := hd hd'
 have hb0 := three_bel w (.cells (coreA c) 112) (.cells zeroC 112) (.cells zeroW 178)
 have hcur := current_yes c ad l cap p hp hlt _ (hP.kept hb0)
 have HS := hd (fun x w1 => StB.mk' (w1 := w1) (tc := 112) (tw := 178) (c := c) x hF)
 have hst := stands_any (l.getD p default) l.length
 rw [show ((wrong (l.getD p default) l.length 8).1 == 0) = true from by simpa using hok] at hst
 have hwa := wanted_any c 32 imm a b d ha hb hd'
 rw [hx] at hst hcur
 rw [hwant] at hwa
 clear hx hok
 generalize l.length = n at *
 clear hP hb0 hF hlt hp hwant
 unfold wantT wantV wantA at hwa
 simp only at hwa
 unfold coreV wantV wantA
 unfold insV at *
 unfold coreV at hcur hwa
 unfold coreA zeroC zeroW at *
 go_enter Tryz.func104, Tryz.ntmps104
 go_wp2_with fail
 go_step3
 go_upto_region 2 with (first | (go_at_call 163; refine hcur.mono ?_; rintro e w1 ⟨rfl, b1⟩))
 replace HS := hd (HS.out ⟨32, a, b, d, imm⟩ w1 b1)
 clear hcur b1
 unfold insA at HS
 obtain ⟨g, hg⟩ : ∃ g, Hid (w1.heap.size = g) := ⟨_, rfl⟩
 obtain ⟨W1, hW1⟩ : ∃ W, Hid (w1.alloc (.cells #[.int .i64 32, .int .i64 a, .int .i64 b, .int .i64 d, .int .i64 imm] 84) = W) := ⟨_, rfl⟩
 simp only at HS
 rw [hW1.out] at HS ⊢
 rw [hg.out] at HS ⊢
 clear hW1 hg
 replace hst := hst W1 HS.out.fld
 obtain ⟨i0, i1, i2, i3, i4⟩ := HS.out.x10.ci
 go_upto_region 4 with (go_at_call 164; refine hst.mono ?_; rintro e w2 ⟨rfl, b2⟩)
 replace HS := hd (HS.out.kept b2)
 clear hst b2 i0 i1 i2 i3 i4
 obtain ⟨i0, i1, i2, i3, i4⟩ := HS.out.x10.ci
 obtain ⟨c0, c1, c2, c3, c4, c5, c6, c7, c8⟩ := HS.out.x4.cs
 replace hwa := hwa w2
 go_wp2_with (go_at_call 165; refine hwa.mono ?_; rintro e w3 ⟨rfl, b3⟩)
 clear hwa c0 c1 c2 c3 c4 c5 c6 c7 c8 i0 i1 i2 i3 i4
 replace HS := hd (StW.mk' HS.out b3 0 0 0)
 clear b3
 unfold wantA at HS
 obtain ⟨gw, hgw⟩ : ∃ g, Hid (w3.heap.size = g) := ⟨_, rfl⟩
 obtain ⟨W3, hW3⟩ : ∃ W, Hid (w3.alloc (.cells #[.int .i64 0, .int .i64 0, .int .i64 0] 178) = W) := ⟨_, rfl⟩
 rw [hW3.out] at HS ⊢
 rw [hgw.out] at HS ⊢
 clear hW3 hgw
 obtain ⟨v0, v1, v2⟩ := HS.out.x12.cw
 obtain ⟨i0, i1, i2, i3, i4⟩ := HS.out.st.x10.ci
 have ra := HS.out.st.x4.reg a HA.out
 have rb := HS.out.st.x4.reg b HBb.out
 have rd := HS.out.st.x4.reg d HDd.out
 have rp := HS.out.st.x4.pc
 have f4 := HS.out.st.x4.fr
 have la : (a : Int) < 8 := by have := HA.out; omega
 have lb : (b : Int) < 8 := by have := HBb.out; omega
 have ld : (d : Int) < 8 := by have := HDd.out; omega
 clear ha hb hd'
 go_step3
 go_upto_region 25 with fail
 clear i0 i1 i2 i3 i4 ra rb rd rp f4 la lb ld v0 v1 v2
 obtain ⟨W4, hW4⟩ : ∃ W, Hid ((W3.setCell ⟨w.heap.size, 1 + a, none⟩ (.int .i64 tick)) = W) := ⟨_, rfl⟩
 have HS4 := hd (HS.out.core (Oth.setCell _ _ _ _) (HS.out.st.x4.set a HA.out tick) HW0.out)
 rw [hW4.out, hC1.out] at HS4
 rw [hW4.out]
 clear HS hW4
 have HS := HS4
 clear HS4
 obtain ⟨c0, c1, c2, c3, c4, c5, c6, c7, c8⟩ := HS.out.st.x4.cs
 have hnx := next_any C1 W4
 unfold coreV coreA Core.next at hnx
 simp only at hnx
 go_upto_region 26 with (go_at_call 162; refine hnx.mono ?_; rintro e w4 ⟨rfl, b4⟩; have HS := hd (HS.out.kept b4); obtain ⟨c0, c1, c2, c3, c4, c5, c6, c7, c8⟩ := HS.out.st.x4.cs; have f4 := HS.out.st.x4.fr)
 clear hnx c0 c1 c2 c3 c4 c5 c6 c7 c8
 obtain ⟨W5, hW5⟩ : ∃ W, Hid (put9 w4 w.heap.size (Core.next C1) = W) := ⟨_, rfl⟩
 have HS4 := hd (HS.out.core (put9_oth _ _ _) (HS.out.st.x4.nine (Core.next C1)) HW0.out)
 rw [hW5.out, hD.out] at HS4
 clear HS
 have HS := HS4
 clear HS4
 unfold put9 Core.next at hW5
 simp only at hW5
 rw [hW5.out]
 clear hW5
 have HN1 : ¬ gw = w.heap.size + 1 := by have := HS.out.g12; omega
 have HN2 : ¬ w.heap.size + 1 = gw := by omega
 obtain ⟨c0, c1, c2, c3, c4, c5, c6, c7, c8⟩ := HS.out.st.x4.cs
 obtain ⟨z0, z1, z2, z3, z4, z5, z6, z7, z8⟩ := HS.out.st.x8.cz
 obtain ⟨y0, y1, y2⟩ := Box.cw (k := 0) (u := 0) (v := 0) HS.out.st.x9
 obtain ⟨v0, v1, v2⟩ := HS.out.x12.cw
 have f8 := HS.out.st.x8.fr
 have f9 := HS.out.st.x9.fr
 have HE := hd (HS.out.st.ends D 0 0 0)
 clear HS
 go_region
 go_wp2
 unfold put9 put3 at HE
 try rw [Exit.noGoto_ret]
 clear c0 c1 c2 c3 c4 c5 c6 c7 c8 z0 z1 z2 z3 z4 z5 z6 z7 z8 y0 y1 y2 v0 v1 v2 f8 f9 HN1 HN2
 obtain ⟨R8, R9, RB⟩ := HE.out
 obtain ⟨c0, c1, c2, c3, c4, c5, c6, c7, c8⟩ := R8.cs
 obtain ⟨y0, y1, y2⟩ := R9.cw
 refine bodyPost_ret ?_ rfl ⟨rfl, RB.drew⟩
 clear R8 R9 RB
 generalize World.setCell _ _ _ = Wf at *
 simp [results, Tryz.results104, go_sem, c0, c1, c2, c3, c4, c5, c6, c7, c8, y0, y1, y2]
set_option maxRecDepth 100000 in
set_option maxHeartbeats 2000000 in
theorem step_self (c : Core) (ad : Option Addr) (l : List Ins) (cap p : Nat) (tick self : Int) (hp : c.pc = (p : Int)) (hlt : p < l.length) (w : World) (hP : Prg w ad l) (hF : Fld w) (op imm : Int) (a b d : Nat) (ha : a < 8) (hb : b < 8) (hd' : d < 8)
  (hx : l.getD p default = ⟨op, a, b, d, imm⟩) (hok : (wrong (l.getD p default) l.length 8).1 = 0) (hwant : wantL c op a b d imm = (0, 0, 0)) (hop : op = 33) :
  Calls Tryz.prog 104 #[coreV c, .slice ad l.length cap, .int .i64 tick, .int .i64 self] w fun e w' => e = .returned (.tuple #[coreV ((c.set a self).next), wantV 0 0 0]) ∧ Below w.heap.size w w' := by
 subst hop
 have HW0 : Hid (1 < w.heap.size) := hd (World.block_lt_of_cell? w _ (hF 0 (by decide)))
 obtain ⟨D, hD⟩ : ∃ D, Hid ((c.set a self).next = D) := ⟨_, rfl⟩
 rw [hD.out]
 obtain ⟨C1, hC1⟩ : ∃ D, Hid (c.set a self = D) := ⟨_, rfl⟩
 rw [hC1.out] at hD
 have HA := hd ha
 have HBb := hd hb
 have HDd := hd hd'
 have hb0 := three_bel w (.cells (coreA c) 112) (.cells zeroC 112) (.cells zeroW 178)
 have hcur := current_yes c ad l cap p hp hlt _ (hP.kept hb0)
 have HS := hd (fun x w1 => StB.mk' (w1 := w1) (tc := 112) (tw := 178) (c := c) x hF)
 have hst := stands_any (l.getD p default) l.length
 rw [show ((wrong (l.getD p default) l.length 8).1 == 0) = true from by simpa using hok] at hst
 have hwa := wanted_any c 33 imm a b d ha hb hd'
 rw [hx] at hst hcur
 rw [hwant] at hwa
 clear hx hok
 generalize l.length = n at *
 clear hP hb0 hF hlt hp hwant
 unfold wantT wantV wantA at hwa
 simp only at hwa
 unfold coreV wantV wantA
 unfold insV at *
 unfold coreV at hcur hwa
 unfold coreA zeroC zeroW at *
 go_enter Tryz.func104, Tryz.ntmps104
 go_wp2_with fail
 go_step3
 go_upto_region 2 with (first | (go_at_call 163; refine hcur.mono ?_; rintro e w1 ⟨rfl, b1⟩))
 replace HS := hd (HS.out ⟨33, a, b, d, imm⟩ w1 b1)
 clear hcur b1
 unfold insA at HS
 obtain ⟨g, hg⟩ : ∃ g, Hid (w1.heap.size = g) := ⟨_, rfl⟩
 obtain ⟨W1, hW1⟩ : ∃ W, Hid (w1.alloc (.cells #[.int .i64 33, .int .i64 a, .int .i64 b, .int .i64 d, .int .i64 imm] 84) = W) := ⟨_, rfl⟩
 simp only at HS
 rw [hW1.out] at HS ⊢
 rw [hg.out] at HS ⊢
 clear hW1 hg
 replace hst := hst W1 HS.out.fld
 obtain ⟨i0, i1, i2, i3, i4⟩ := HS.out.x10.ci
 go_upto_region 4 with (go_at_call 164; refine hst.mono ?_; rintro e w2 ⟨rfl, b2⟩)
 replace HS := hd (HS.out.kept b2)
 clear hst b2 i0 i1 i2 i3 i4
 obtain ⟨i0, i1, i2, i3, i4⟩ := HS.out.x10.ci
 obtain ⟨c0, c1, c2, c3, c4, c5, c6, c7, c8⟩ := HS.out.x4.cs
 replace hwa := hwa w2
 go_wp2_with (go_at_call 165; refine hwa.mono ?_; rintro e w3 ⟨rfl, b3⟩)
 clear hwa c0 c1 c2 c3 c4 c5 c6 c7 c8 i0 i1 i2 i3 i4
 replace HS := hd (StW.mk' HS.out b3 0 0 0)
 clear b3
 unfold wantA at HS
 obtain ⟨gw, hgw⟩ : ∃ g, Hid (w3.heap.size = g) := ⟨_, rfl⟩
 obtain ⟨W3, hW3⟩ : ∃ W, Hid (w3.alloc (.cells #[.int .i64 0, .int .i64 0, .int .i64 0] 178) = W) := ⟨_, rfl⟩
 rw [hW3.out] at HS ⊢
 rw [hgw.out] at HS ⊢
 clear hW3 hgw
 obtain ⟨v0, v1, v2⟩ := HS.out.x12.cw
 obtain ⟨i0, i1, i2, i3, i4⟩ := HS.out.st.x10.ci
 have ra := HS.out.st.x4.reg a HA.out
 have rb := HS.out.st.x4.reg b HBb.out
 have rd := HS.out.st.x4.reg d HDd.out
 have rp := HS.out.st.x4.pc
 have f4 := HS.out.st.x4.fr
 have la : (a : Int) < 8 := by have := HA.out; omega
 have lb : (b : Int) < 8 := by have := HBb.out; omega
 have ld : (d : Int) < 8 := by have := HDd.out; omega
 clear ha hb hd'
 go_step3
 go_upto_region 25 with fail
 clear i0 i1 i2 i3 i4 ra rb rd rp f4 la lb ld v0 v1 v2
 obtain ⟨W4, hW4⟩ : ∃ W, Hid ((W3.setCell ⟨w.heap.size, 1 + a, none⟩ (.int .i64 self)) = W) := ⟨_, rfl⟩
 have HS4 := hd (HS.out.core (Oth.setCell _ _ _ _) (HS.out.st.x4.set a HA.out self) HW0.out)
 rw [hW4.out, hC1.out] at HS4
 rw [hW4.out]
 clear HS hW4
 have HS := HS4
 clear HS4
 obtain ⟨c0, c1, c2, c3, c4, c5, c6, c7, c8⟩ := HS.out.st.x4.cs
 have hnx := next_any C1 W4
 unfold coreV coreA Core.next at hnx
 simp only at hnx
 go_upto_region 26 with (go_at_call 162; refine hnx.mono ?_; rintro e w4 ⟨rfl, b4⟩; have HS := hd (HS.out.kept b4); obtain ⟨c0, c1, c2, c3, c4, c5, c6, c7, c8⟩ := HS.out.st.x4.cs; have f4 := HS.out.st.x4.fr)
 clear hnx c0 c1 c2 c3 c4 c5 c6 c7 c8
 obtain ⟨W5, hW5⟩ : ∃ W, Hid (put9 w4 w.heap.size (Core.next C1) = W) := ⟨_, rfl⟩
 have HS4 := hd (HS.out.core (put9_oth _ _ _) (HS.out.st.x4.nine (Core.next C1)) HW0.out)
 rw [hW5.out, hD.out] at HS4
 clear HS
 have HS := HS4
 clear HS4
 unfold put9 Core.next at hW5
 simp only at hW5
 rw [hW5.out]
 clear hW5
 have HN1 : ¬ gw = w.heap.size + 1 := by have := HS.out.g12; omega
 have HN2 : ¬ w.heap.size + 1 = gw := by omega
 obtain ⟨c0, c1, c2, c3, c4, c5, c6, c7, c8⟩ := HS.out.st.x4.cs
 obtain ⟨z0, z1, z2, z3, z4, z5, z6, z7, z8⟩ := HS.out.st.x8.cz
 obtain ⟨y0, y1, y2⟩ := Box.cw (k := 0) (u := 0) (v := 0) HS.out.st.x9
 obtain ⟨v0, v1, v2⟩ := HS.out.x12.cw
 have f8 := HS.out.st.x8.fr
 have f9 := HS.out.st.x9.fr
 have HE := hd (HS.out.st.ends D 0 0 0)
 clear HS
 go_region
 go_wp2
 unfold put9 put3 at HE
 try rw [Exit.noGoto_ret]
 clear c0 c1 c2 c3 c4 c5 c6 c7 c8 z0 z1 z2 z3 z4 z5 z6 z7 z8 y0 y1 y2 v0 v1 v2 f8 f9 HN1 HN2
 obtain ⟨R8, R9, RB⟩ := HE.out
 obtain ⟨c0, c1, c2, c3, c4, c5, c6, c7, c8⟩ := R8.cs
 obtain ⟨y0, y1, y2⟩ := R9.cw
 refine bodyPost_ret ?_ rfl ⟨rfl, RB.drew⟩
 clear R8 R9 RB
 generalize World.setCell _ _ _ = Wf at *
 simp [results, Tryz.results104, go_sem, c0, c1, c2, c3, c4, c5, c6, c7, c8, y0, y1, y2]
set_option maxRecDepth 100000 in
set_option maxHeartbeats 2000000 in
theorem step_move (c : Core) (ad : Option Addr) (l : List Ins) (cap p : Nat) (tick self : Int) (hp : c.pc = (p : Int)) (hlt : p < l.length) (w : World) (hP : Prg w ad l) (hF : Fld w) (op imm : Int) (a b d : Nat) (ha : a < 8) (hb : b < 8) (hd' : d < 8)
  (hx : l.getD p default = ⟨op, a, b, d, imm⟩) (hok : (wrong (l.getD p default) l.length 8).1 = 0) (hwant : wantL c op a b d imm = (0, 0, 0)) (hop : op = 2) :
  Calls Tryz.prog 104 #[coreV c, .slice ad l.length cap, .int .i64 tick, .int .i64 self] w fun e w' => e = .returned (.tuple #[coreV ((c.set a (c.r b)).next), wantV 0 0 0]) ∧ Below w.heap.size w w' := by
 subst hop
 have HW0 : Hid (1 < w.heap.size) := hd (World.block_lt_of_cell? w _ (hF 0 (by decide)))
 obtain ⟨D, hD⟩ : ∃ D, Hid ((c.set a (c.r b)).next = D) := ⟨_, rfl⟩
 rw [hD.out]
 obtain ⟨C1, hC1⟩ : ∃ D, Hid (c.set a (c.r b) = D) := ⟨_, rfl⟩
 rw [hC1.out] at hD
 have HA := hd ha
 have HBb := hd hb
 have HDd := hd hd'
 have hb0 := three_bel w (.cells (coreA c) 112) (.cells zeroC 112) (.cells zeroW 178)
 have hcur := current_yes c ad l cap p hp hlt _ (hP.kept hb0)
 have HS := hd (fun x w1 => StB.mk' (w1 := w1) (tc := 112) (tw := 178) (c := c) x hF)
 have hst := stands_any (l.getD p default) l.length
 rw [show ((wrong (l.getD p default) l.length 8).1 == 0) = true from by simpa using hok] at hst
 have hwa := wanted_any c 2 imm a b d ha hb hd'
 rw [hx] at hst hcur
 rw [hwant] at hwa
 clear hx hok
 generalize l.length = n at *
 clear hP hb0 hF hlt hp hwant
 unfold wantT wantV wantA at hwa
 simp only at hwa
 unfold coreV wantV wantA
 unfold insV at *
 unfold coreV at hcur hwa
 unfold coreA zeroC zeroW at *
 go_enter Tryz.func104, Tryz.ntmps104
 go_wp2_with fail
 go_step3
 go_upto_region 2 with (first | (go_at_call 163; refine hcur.mono ?_; rintro e w1 ⟨rfl, b1⟩))
 replace HS := hd (HS.out ⟨2, a, b, d, imm⟩ w1 b1)
 clear hcur b1
 unfold insA at HS
 obtain ⟨g, hg⟩ : ∃ g, Hid (w1.heap.size = g) := ⟨_, rfl⟩
 obtain ⟨W1, hW1⟩ : ∃ W, Hid (w1.alloc (.cells #[.int .i64 2, .int .i64 a, .int .i64 b, .int .i64 d, .int .i64 imm] 84) = W) := ⟨_, rfl⟩
 simp only at HS
 rw [hW1.out] at HS ⊢
 rw [hg.out] at HS ⊢
 clear hW1 hg
 replace hst := hst W1 HS.out.fld
 obtain ⟨i0, i1, i2, i3, i4⟩ := HS.out.x10.ci
 go_upto_region 4 with (go_at_call 164; refine hst.mono ?_; rintro e w2 ⟨rfl, b2⟩)
 replace HS := hd (HS.out.kept b2)
 clear hst b2 i0 i1 i2 i3 i4
 obtain ⟨i0, i1, i2, i3, i4⟩ := HS.out.x10.ci
 obtain ⟨c0, c1, c2, c3, c4, c5, c6, c7, c8⟩ := HS.out.x4.cs
 replace hwa := hwa w2
 go_wp2_with (go_at_call 165; refine hwa.mono ?_; rintro e w3 ⟨rfl, b3⟩)
 clear hwa c0 c1 c2 c3 c4 c5 c6 c7 c8 i0 i1 i2 i3 i4
 replace HS := hd (StW.mk' HS.out b3 0 0 0)
 clear b3
 unfold wantA at HS
 obtain ⟨gw, hgw⟩ : ∃ g, Hid (w3.heap.size = g) := ⟨_, rfl⟩
 obtain ⟨W3, hW3⟩ : ∃ W, Hid (w3.alloc (.cells #[.int .i64 0, .int .i64 0, .int .i64 0] 178) = W) := ⟨_, rfl⟩
 rw [hW3.out] at HS ⊢
 rw [hgw.out] at HS ⊢
 clear hW3 hgw
 obtain ⟨v0, v1, v2⟩ := HS.out.x12.cw
 obtain ⟨i0, i1, i2, i3, i4⟩ := HS.out.st.x10.ci
 have ra := HS.out.st.x4.reg a HA.out
 have rb := HS.out.st.x4.reg b HBb.out
 have rd := HS.out.st.x4.reg d HDd.out
 have rp := HS.out.st.x4.pc
 have f4 := HS.out.st.x4.fr
 have la : (a : Int) < 8 := by have := HA.out; omega
 have lb : (b : Int) < 8 := by have := HBb.out; omega
 have ld : (d : Int) < 8 := by have := HDd.out; omega
 clear ha hb hd'
 go_step3
 go_upto_region 15 with fail
 go_region
 go_upto_region 25 with fail
 clear i0 i1 i2 i3 i4 ra rb rd rp f4 la lb ld v0 v1 v2
 obtain ⟨W4, hW4⟩ : ∃ W, Hid ((W3.setCell ⟨w.heap.size, 1 + a, none⟩ (.int .i64 (c.r b))).drew = W) := ⟨_, rfl⟩
 have HS4 := hd (HS.out.core (Oth.setCell _ _ _ _) (HS.out.st.x4.set a HA.out (c.r b)) HW0.out)
 replace HS4 := hd (HS4.out.kept ((Below.refl _ _).drew))
 rw [hW4.out, hC1.out] at HS4
 rw [hW4.out]
 clear HS hW4
 have HS := HS4
 clear HS4
 obtain ⟨c0, c1, c2, c3, c4, c5, c6, c7, c8⟩ := HS.out.st.x4.cs
 have hnx := next_any C1 W4
 unfold coreV coreA Core.next at hnx
 simp only at hnx
 go_upto_region 26 with (go_at_call 162; refine hnx.mono ?_; rintro e w4 ⟨rfl, b4⟩; have HS := hd (HS.out.kept b4); obtain ⟨c0, c1, c2, c3, c4, c5, c6, c7, c8⟩ := HS.out.st.x4.cs; have f4 := HS.out.st.x4.fr)
 clear hnx c0 c1 c2 c3 c4 c5 c6 c7 c8
 obtain ⟨W5, hW5⟩ : ∃ W, Hid (put9 w4 w.heap.size (Core.next C1) = W) := ⟨_, rfl⟩
 have HS4 := hd (HS.out.core (put9_oth _ _ _) (HS.out.st.x4.nine (Core.next C1)) HW0.out)
 rw [hW5.out, hD.out] at HS4
 clear HS
 have HS := HS4
 clear HS4
 unfold put9 Core.next at hW5
 simp only at hW5
 rw [hW5.out]
 clear hW5
 have HN1 : ¬ gw = w.heap.size + 1 := by have := HS.out.g12; omega
 have HN2 : ¬ w.heap.size + 1 = gw := by omega
 obtain ⟨c0, c1, c2, c3, c4, c5, c6, c7, c8⟩ := HS.out.st.x4.cs
 obtain ⟨z0, z1, z2, z3, z4, z5, z6, z7, z8⟩ := HS.out.st.x8.cz
 obtain ⟨y0, y1, y2⟩ := Box.cw (k := 0) (u := 0) (v := 0) HS.out.st.x9
 obtain ⟨v0, v1, v2⟩ := HS.out.x12.cw
 have f8 := HS.out.st.x8.fr
 have f9 := HS.out.st.x9.fr
 have HE := hd (HS.out.st.ends D 0 0 0)
 clear HS
 go_region
 go_wp2
 unfold put9 put3 at HE
 try rw [Exit.noGoto_ret]
 clear c0 c1 c2 c3 c4 c5 c6 c7 c8 z0 z1 z2 z3 z4 z5 z6 z7 z8 y0 y1 y2 v0 v1 v2 f8 f9 HN1 HN2
 obtain ⟨R8, R9, RB⟩ := HE.out
 obtain ⟨c0, c1, c2, c3, c4, c5, c6, c7, c8⟩ := R8.cs
 obtain ⟨y0, y1, y2⟩ := R9.cw
 refine bodyPost_ret ?_ rfl ⟨rfl, RB.drew⟩
 clear R8 R9 RB
 generalize World.setCell _ _ _ = Wf at *
 simp [results, Tryz.results104, go_sem, c0, c1, c2, c3, c4, c5, c6, c7, c8, y0, y1, y2]
set_option maxRecDepth 100000 in
set_option maxHeartbeats 2000000 in
theorem step_jump (c : Core) (ad : Option Addr) (l : List Ins) (cap p : Nat) (tick self : Int) (hp : c.pc = (p : Int)) (hlt : p < l.length) (w : World) (hP : Prg w ad l) (hF : Fld w) (op imm : Int) (a b d : Nat) (ha : a < 8) (hb : b < 8) (hd' : d < 8)
  (hx : l.getD p default = ⟨op, a, b, d, imm⟩) (hok : (wrong (l.getD p default) l.length 8).1 = 0) (hwant : wantL c op a b d imm = (0, 0, 0)) (hop : op = 22) :
  Calls Tryz.prog 104 #[coreV c, .slice ad l.length cap, .int .i64 tick, .int .i64 self] w fun e w' => e = .returned (.tuple #[coreV (Core.mk imm c.r), wantV 0 0 0]) ∧ Below w.heap.size w w' := by
 subst hop
 have HW0 : Hid (1 < w.heap.size) := hd (World.block_lt_of_cell? w _ (hF 0 (by decide)))
 obtain ⟨D, hD⟩ : ∃ D, Hid (Core.mk imm c.r = D) := ⟨_, rfl⟩
 rw [hD.out]
 have HA := hd ha
 have HBb := hd hb
 have HDd := hd hd'
 have hb0 := three_bel w (.cells (coreA c) 112) (.cells zeroC 112) (.cells zeroW 178)
 have hcur := current_yes c ad l cap p hp hlt _ (hP.kept hb0)
 have HS := hd (fun x w1 => StB.mk' (w1 := w1) (tc := 112) (tw := 178) (c := c) x hF)
 have hst := stands_any (l.getD p default) l.length
 rw [show ((wrong (l.getD p default) l.length 8).1 == 0) = true from by simpa using hok] at hst
 have hwa := wanted_any c 22 imm a b d ha hb hd'
 rw [hx] at hst hcur
 rw [hwant] at hwa
 clear hx hok
 generalize l.length = n at *
 clear hP hb0 hF hlt hp hwant
 unfold wantT wantV wantA at hwa
 simp only at hwa
 unfold coreV wantV wantA
 unfold insV at *
 unfold coreV at hcur hwa
 unfold coreA zeroC zeroW at *
 go_enter Tryz.func104, Tryz.ntmps104
 go_wp2_with fail
 go_step3
 go_upto_region 2 with (first | (go_at_call 163; refine hcur.mono ?_; rintro e w1 ⟨rfl, b1⟩))
 replace HS := hd (HS.out ⟨22, a, b, d, imm⟩ w1 b1)
 clear hcur b1
 unfold insA at HS
 obtain ⟨g, hg⟩ : ∃ g, Hid (w1.heap.size = g) := ⟨_, rfl⟩
 obtain ⟨W1, hW1⟩ : ∃ W, Hid (w1.alloc (.cells #[.int .i64 22, .int .i64 a, .int .i64 b, .int .i64 d, .int .i64 imm] 84) = W) := ⟨_, rfl⟩
 simp only at HS
 rw [hW1.out] at HS ⊢
 rw [hg.out] at HS ⊢
 clear hW1 hg
 replace hst := hst W1 HS.out.fld
 obtain ⟨i0, i1, i2, i3, i4⟩ := HS.out.x10.ci
 go_upto_region 4 with (go_at_call 164; refine hst.mono ?_; rintro e w2 ⟨rfl, b2⟩)
 replace HS := hd (HS.out.kept b2)
 clear hst b2 i0 i1 i2 i3 i4
 obtain ⟨i0, i1, i2, i3, i4⟩ := HS.out.x10.ci
 obtain ⟨c0, c1, c2, c3, c4, c5, c6, c7, c8⟩ := HS.out.x4.cs
 replace hwa := hwa w2
 go_wp2_with (go_at_call 165; refine hwa.mono ?_; rintro e w3 ⟨rfl, b3⟩)
 clear hwa c0 c1 c2 c3 c4 c5 c6 c7 c8 i0 i1 i2 i3 i4
 replace HS := hd (StW.mk' HS.out b3 0 0 0)
 clear b3
 unfold wantA at HS
 obtain ⟨gw, hgw⟩ : ∃ g, Hid (w3.heap.size = g) := ⟨_, rfl⟩
 obtain ⟨W3, hW3⟩ : ∃ W, Hid (w3.alloc (.cells #[.int .i64 0, .int .i64 0, .int .i64 0] 178) = W) := ⟨_, rfl⟩
 rw [hW3.out] at HS ⊢
 rw [hgw.out] at HS ⊢
 clear hW3 hgw
 obtain ⟨v0, v1, v2⟩ := HS.out.x12.cw
 obtain ⟨i0, i1, i2, i3, i4⟩ := HS.out.st.x10.ci
 have ra := HS.out.st.x4.reg a HA.out
 have rb := HS.out.st.x4.reg b HBb.out
 have rd := HS.out.st.x4.reg d HDd.out
 have rp := HS.out.st.x4.pc
 have f4 := HS.out.st.x4.fr
 have la : (a : Int) < 8 := by have := HA.out; omega
 have lb : (b : Int) < 8 := by have := HBb.out; omega
 have ld : (d : Int) < 8 := by have := HDd.out; omega
 clear ha hb hd'
 go_step3
 go_upto_region 26 with fail
 clear i0 i1 i2 i3 i4 ra rb rd rp f4 la lb ld v0 v1 v2
 obtain ⟨W4, hW4⟩ : ∃ W, Hid (W3.setCell ⟨w.heap.size, 0, none⟩ (.int .i64 imm) = W) := ⟨_, rfl⟩
 have HS4 := hd (HS.out.core (Oth.setCell _ _ _ _) (HS.out.st.x4.setPc imm) HW0.out)
 rw [hW4.out, hD.out] at HS4
 rw [hW4.out]
 clear HS hW4
 have HS := HS4
 clear HS4
 have HN1 : ¬ gw = w.heap.size + 1 := by have := HS.out.g12; omega
 have HN2 : ¬ w.heap.size + 1 = gw := by omega
 obtain ⟨c0, c1, c2, c3, c4, c5, c6, c7, c8⟩ := HS.out.st.x4.cs
 obtain ⟨z0, z1, z2, z3, z4, z5, z6, z7, z8⟩ := HS.out.st.x8.cz
 obtain ⟨y0, y1, y2⟩ := Box.cw (k := 0) (u := 0) (v := 0) HS.out.st.x9
 obtain ⟨v0, v1, v2⟩ := HS.out.x12.cw
 have f8 := HS.out.st.x8.fr
 have f9 := HS.out.st.x9.fr
 have HE := hd (HS.out.st.ends D 0 0 0)
 clear HS
 go_region
 go_wp2
 unfold put9 put3 at HE
 try rw [Exit.noGoto_ret]
 clear c0 c1 c2 c3 c4 c5 c6 c7 c8 z0 z1 z2 z3 z4 z5 z6 z7 z8 y0 y1 y2 v0 v1 v2 f8 f9 HN1 HN2
 obtain ⟨R8, R9, RB⟩ := HE.out
 obtain ⟨c0, c1, c2, c3, c4, c5, c6, c7, c8⟩ := R8.cs
 obtain ⟨y0, y1, y2⟩ := R9.cw
 refine bodyPost_ret ?_ rfl ⟨rfl, RB.drew⟩
 clear R8 R9 RB
 generalize World.setCell _ _ _ = Wf at *
 simp [results, Tryz.results104, go_sem, c0, c1, c2, c3, c4, c5, c6, c7, c8, y0, y1, y2]
set_option maxRecDepth 100000 in
set_option maxHeartbeats 2000000 in
theorem step_if (c : Core) (ad : Option Addr) (l : List Ins) (cap p : Nat) (tick self : Int) (hp : c.pc = (p : Int)) (hlt : p < l.length) (w : World) (hP : Prg w ad l) (hF : Fld w) (op imm : Int) (a b d : Nat) (ha : a < 8) (hb : b < 8) (hd' : d < 8)
  (hx : l.getD p default = ⟨op, a, b, d, imm⟩) (hok : (wrong (l.getD p default) l.length 8).1 = 0) (hwant : wantL c op a b d imm = (0, 0, 0)) (hop : op = 23) (hr : c.r a ≠ 0) :
  Calls Tryz.prog 104 #[coreV c, .slice ad l.length cap, .int .i64 tick, .int .i64 self] w fun e w' => e = .returned (.tuple #[coreV (Core.mk imm c.r), wantV 0 0 0]) ∧ Below w.heap.size w w' := by
 subst hop
 have HW0 : Hid (1 < w.heap.size) := hd (World.block_lt_of_cell? w _ (hF 0 (by decide)))
 obtain ⟨D, hD⟩ : ∃ D, Hid (Core.mk imm c.r = D) := ⟨_, rfl⟩
 rw [hD.out]
 have HA := hd ha
 have HBb := hd hb
 have HDd := hd hd'
 have hb0 := three_bel w (.cells (coreA c) 112) (.cells zeroC 112) (.cells zeroW 178)
 have hcur := current_yes c ad l cap p hp hlt _ (hP.kept hb0)
 have HS := hd (fun x w1 => StB.mk' (w1 := w1) (tc := 112) (tw := 178) (c := c) x hF)
 have hst := stands_any (l.getD p default) l.length
 rw [show ((wrong (l.getD p default) l.length 8).1 == 0) = true from by simpa using hok] at hst
 have hwa := wanted_any c 23 imm a b d ha hb hd'
 rw [hx] at hst hcur
 rw [hwant] at hwa
 clear hx hok
 generalize l.length = n at *
 clear hP hb0 hF hlt hp hwant
 unfold wantT wantV wantA at hwa
 simp only at hwa
 unfold coreV wantV wantA
 unfold insV at *
 unfold coreV at hcur hwa
 unfold coreA zeroC zeroW at *
 go_enter Tryz.func104, Tryz.ntmps104
 go_wp2_with fail
 go_step3
 go_upto_region 2 with (first | (go_at_call 163; refine hcur.mono ?_; rintro e w1 ⟨rfl, b1⟩))
 replace HS := hd (HS.out ⟨23, a, b, d, imm⟩ w1 b1)
 clear hcur b1
 unfold insA at HS
 obtain ⟨g, hg⟩ : ∃ g, Hid (w1.heap.size = g) := ⟨_, rfl⟩
 obtain ⟨W1, hW1⟩ : ∃ W, Hid (w1.alloc (.cells #[.int .i64 23, .int .i64 a, .int .i64 b, .int .i64 d, .int .i64 imm] 84) = W) := ⟨_, rfl⟩
 simp only at HS
 rw [hW1.out] at HS ⊢
 rw [hg.out] at HS ⊢
 clear hW1 hg
 replace hst := hst W1 HS.out.fld
 obtain ⟨i0, i1, i2, i3, i4⟩ := HS.out.x10.ci
 go_upto_region 4 with (go_at_call 164; refine hst.mono ?_; rintro e w2 ⟨rfl, b2⟩)
 replace HS := hd (HS.out.kept b2)
 clear hst b2 i0 i1 i2 i3 i4
 obtain ⟨i0, i1, i2, i3, i4⟩ := HS.out.x10.ci
 obtain ⟨c0, c1, c2, c3, c4, c5, c6, c7, c8⟩ := HS.out.x4.cs
 replace hwa := hwa w2
 go_wp2_with (go_at_call 165; refine hwa.mono ?_; rintro e w3 ⟨rfl, b3⟩)
 clear hwa c0 c1 c2 c3 c4 c5 c6 c7 c8 i0 i1 i2 i3 i4
 replace HS := hd (StW.mk' HS.out b3 0 0 0)
 clear b3
 unfold wantA at HS
 obtain ⟨gw, hgw⟩ : ∃ g, Hid (w3.heap.size = g) := ⟨_, rfl⟩
 obtain ⟨W3, hW3⟩ : ∃ W, Hid (w3.alloc (.cells #[.int .i64 0, .int .i64 0, .int .i64 0] 178) = W) := ⟨_, rfl⟩
 rw [hW3.out] at HS ⊢
 rw [hgw.out] at HS ⊢
 clear hW3 hgw
 obtain ⟨v0, v1, v2⟩ := HS.out.x12.cw
 obtain ⟨i0, i1, i2, i3, i4⟩ := HS.out.st.x10.ci
 have ra := HS.out.st.x4.reg a HA.out
 have rb := HS.out.st.x4.reg b HBb.out
 have rd := HS.out.st.x4.reg d HDd.out
 have rp := HS.out.st.x4.pc
 have f4 := HS.out.st.x4.fr
 have la : (a : Int) < 8 := by have := HA.out; omega
 have lb : (b : Int) < 8 := by have := HBb.out; omega
 have ld : (d : Int) < 8 := by have := HDd.out; omega
 clear ha hb hd'
 go_step3
 have hr' : (c.r a == 0) = false := by simpa using hr
 go_upto_region 26 with fail
 clear i0 i1 i2 i3 i4 ra rb rd rp f4 la lb ld v0 v1 v2
 obtain ⟨W4, hW4⟩ : ∃ W, Hid (W3.setCell ⟨w.heap.size, 0, none⟩ (.int .i64 imm) = W) := ⟨_, rfl⟩
 have HS4 := hd (HS.out.core (Oth.setCell _ _ _ _) (HS.out.st.x4.setPc imm) HW0.out)
 rw [hW4.out, hD.out] at HS4
 rw [hW4.out]
 clear HS hW4
 have HS := HS4
 clear HS4
 have HN1 : ¬ gw = w.heap.size + 1 := by have := HS.out.g12; omega
 have HN2 : ¬ w.heap.size + 1 = gw := by omega
 obtain ⟨c0, c1, c2, c3, c4, c5, c6, c7, c8⟩ := HS.out.st.x4.cs
 obtain ⟨z0, z1, z2, z3, z4, z5, z6, z7, z8⟩ := HS.out.st.x8.cz
 obtain ⟨y0, y1, y2⟩ := Box.cw (k := 0) (u := 0) (v := 0) HS.out.st.x9
 obtain ⟨v0, v1, v2⟩ := HS.out.x12.cw
 have f8 := HS.out.st.x8.fr
 have f9 := HS.out.st.x9.fr
 have HE := hd (HS.out.st.ends D 0 0 0)
 clear HS
 go_region
 go_wp2
 unfold put9 put3 at HE
 try rw [Exit.noGoto_ret]
 clear c0 c1 c2 c3 c4 c5 c6 c7 c8 z0 z1 z2 z3 z4 z5 z6 z7 z8 y0 y1 y2 v0 v1 v2 f8 f9 HN1 HN2
 obtain ⟨R8, R9, RB⟩ := HE.out
 obtain ⟨c0, c1, c2, c3, c4, c5, c6, c7, c8⟩ := R8.cs
 obtain ⟨y0, y1, y2⟩ := R9.cw
 refine bodyPost_ret ?_ rfl ⟨rfl, RB.drew⟩
 clear R8 R9 RB
 generalize World.setCell _ _ _ = Wf at *
 simp [results, Tryz.results104, go_sem, c0, c1, c2, c3, c4, c5, c6, c7, c8, y0, y1, y2]
set_option maxRecDepth 100000 in
set_option maxHeartbeats 2000000 in
theorem step_else (c : Core) (ad : Option Addr) (l : List Ins) (cap p : Nat) (tick self : Int) (hp : c.pc = (p : Int)) (hlt : p < l.length) (w : World) (hP : Prg w ad l) (hF : Fld w) (op imm : Int) (a b d : Nat) (ha : a < 8) (hb : b < 8) (hd' : d < 8)
  (hx : l.getD p default = ⟨op, a, b, d, imm⟩) (hok : (wrong (l.getD p default) l.length 8).1 = 0) (hwant : wantL c op a b d imm = (0, 0, 0)) (hop : op = 23) (hr : (c.r a == 0) = true) :
  Calls Tryz.prog 104 #[coreV c, .slice ad l.length cap, .int .i64 tick, .int .i64 self] w fun e w' => e = .returned (.tuple #[coreV (c.next), wantV 0 0 0]) ∧ Below w.heap.size w w' := by
 subst hop
 have HW0 : Hid (1 < w.heap.size) := hd (World.block_lt_of_cell? w _ (hF 0 (by decide)))
 obtain ⟨D, hD⟩ : ∃ D, Hid (c.next = D) := ⟨_, rfl⟩
 rw [hD.out]
 have HA := hd ha
 have HBb := hd hb
 have HDd := hd hd'
 have hb0 := three_bel w (.cells (coreA c) 112) (.cells zeroC 112) (.cells zeroW 178)
 have hcur := current_yes c ad l cap p hp hlt _ (hP.kept hb0)
 have HS := hd (fun x w1 => StB.mk' (w1 := w1) (tc := 112) (tw := 178) (c := c) x hF)
 have hst := stands_any (l.getD p default) l.length
 rw [show ((wrong (l.getD p default) l.length 8).1 == 0) = true from by simpa using hok] at hst
 have hwa := wanted_any c 23 imm a b d ha hb hd'
 rw [hx] at hst hcur
 rw [hwant] at hwa
 clear hx hok
 generalize l.length = n at *
 clear hP hb0 hF hlt hp hwant
 unfold wantT wantV wantA at hwa
 simp only at hwa
 unfold coreV wantV wantA
 unfold insV at *
 unfold coreV at hcur hwa
 unfold coreA zeroC zeroW at *
 go_enter Tryz.func104, Tryz.ntmps104
 go_wp2_with fail
 go_step3
 go_upto_region 2 with (first | (go_at_call 163; refine hcur.mono ?_; rintro e w1 ⟨rfl, b1⟩))
 replace HS := hd (HS.out ⟨23, a, b, d, imm⟩ w1 b1)
 clear hcur b1
 unfold insA at HS
 obtain ⟨g, hg⟩ : ∃ g, Hid (w1.heap.size = g) := ⟨_, rfl⟩
 obtain ⟨W1, hW1⟩ : ∃ W, Hid (w1.alloc (.cells #[.int .i64 23, .int .i64 a, .int .i64 b, .int .i64 d, .int .i64 imm] 84) = W) := ⟨_, rfl⟩
 simp only at HS
 rw [hW1.out] at HS ⊢
 rw [hg.out] at HS ⊢
 clear hW1 hg
 replace hst := hst W1 HS.out.fld
 obtain ⟨i0, i1, i2, i3, i4⟩ := HS.out.x10.ci
 go_upto_region 4 with (go_at_call 164; refine hst.mono ?_; rintro e w2 ⟨rfl, b2⟩)
 replace HS := hd (HS.out.kept b2)
 clear hst b2 i0 i1 i2 i3 i4
 obtain ⟨i0, i1, i2, i3, i4⟩ := HS.out.x10.ci
 obtain ⟨c0, c1, c2, c3, c4, c5, c6, c7, c8⟩ := HS.out.x4.cs
 replace hwa := hwa w2
 go_wp2_with (go_at_call 165; refine hwa.mono ?_; rintro e w3 ⟨rfl, b3⟩)
 clear hwa c0 c1 c2 c3 c4 c5 c6 c7 c8 i0 i1 i2 i3 i4
 replace HS := hd (StW.mk' HS.out b3 0 0 0)
 clear b3
 unfold wantA at HS
 obtain ⟨gw, hgw⟩ : ∃ g, Hid (w3.heap.size = g) := ⟨_, rfl⟩
 obtain ⟨W3, hW3⟩ : ∃ W, Hid (w3.alloc (.cells #[.int .i64 0, .int .i64 0, .int .i64 0] 178) = W) := ⟨_, rfl⟩
 rw [hW3.out] at HS ⊢
 rw [hgw.out] at HS ⊢
 clear hW3 hgw
 obtain ⟨v0, v1, v2⟩ := HS.out.x12.cw
 obtain ⟨i0, i1, i2, i3, i4⟩ := HS.out.st.x10.ci
 have ra := HS.out.st.x4.reg a HA.out
 have rb := HS.out.st.x4.reg b HBb.out
 have rd := HS.out.st.x4.reg d HDd.out
 have rp := HS.out.st.x4.pc
 have f4 := HS.out.st.x4.fr
 have la : (a : Int) < 8 := by have := HA.out; omega
 have lb : (b : Int) < 8 := by have := HBb.out; omega
 have ld : (d : Int) < 8 := by have := HDd.out; omega
 clear ha hb hd'
 go_step3
 go_upto_region 25 with fail
 clear i0 i1 i2 i3 i4 ra rb rd rp f4 la lb ld v0 v1 v2
 obtain ⟨c0, c1, c2, c3, c4, c5, c6, c7, c8⟩ := HS.out.st.x4.cs
 have hnx := next_any c W3
 unfold coreV coreA Core.next at hnx
 simp only at hnx
 go_upto_region 26 with (go_at_call 162; refine hnx.mono ?_; rintro e w4 ⟨rfl, b4⟩; have HS := hd (HS.out.kept b4); obtain ⟨c0, c1, c2, c3, c4, c5, c6, c7, c8⟩ := HS.out.st.x4.cs; have f4 := HS.out.st.x4.fr)
 clear hnx c0 c1 c2 c3 c4 c5 c6 c7 c8
 obtain ⟨W5, hW5⟩ : ∃ W, Hid (put9 w4 w.heap.size (Core.next c) = W) := ⟨_, rfl⟩
 have HS4 := hd (HS.out.core (put9_oth _ _ _) (HS.out.st.x4.nine (Core.next c)) HW0.out)
 rw [hW5.out, hD.out] at HS4
 clear HS
 have HS := HS4
 clear HS4
 unfold put9 Core.next at hW5
 simp only at hW5
 rw [hW5.out]
 clear hW5
 have HN1 : ¬ gw = w.heap.size + 1 := by have := HS.out.g12; omega
 have HN2 : ¬ w.heap.size + 1 = gw := by omega
 obtain ⟨c0, c1, c2, c3, c4, c5, c6, c7, c8⟩ := HS.out.st.x4.cs
 obtain ⟨z0, z1, z2, z3, z4, z5, z6, z7, z8⟩ := HS.out.st.x8.cz
 obtain ⟨y0, y1, y2⟩ := Box.cw (k := 0) (u := 0) (v := 0) HS.out.st.x9
 obtain ⟨v0, v1, v2⟩ := HS.out.x12.cw
 have f8 := HS.out.st.x8.fr
 have f9 := HS.out.st.x9.fr
 have HE := hd (HS.out.st.ends D 0 0 0)
 clear HS
 go_region
 go_wp2
 unfold put9 put3 at HE
 try rw [Exit.noGoto_ret]
 clear c0 c1 c2 c3 c4 c5 c6 c7 c8 z0 z1 z2 z3 z4 z5 z6 z7 z8 y0 y1 y2 v0 v1 v2 f8 f9 HN1 HN2
 obtain ⟨R8, R9, RB⟩ := HE.out
 obtain ⟨c0, c1, c2, c3, c4, c5, c6, c7, c8⟩ := R8.cs
 obtain ⟨y0, y1, y2⟩ := R9.cw
 refine bodyPost_ret ?_ rfl ⟨rfl, RB.drew⟩
 clear R8 R9 RB
 generalize World.setCell _ _ _ = Wf at *
 simp [results, Tryz.results104, go_sem, c0, c1, c2, c3, c4, c5, c6, c7, c8, y0, y1, y2]
end Go.Proofs.YthnjeejnnhadeaaGreatDoor.Cpu
