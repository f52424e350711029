/- Step of an instruction that wants something. -/
import Derived.Test.YtfkdaimhdjaefaaDoorU7
namespace Go.Proofs.YtfkdaimhdjaefaaDoor
open Go.RowKit

/-- With the want. -/
structure StW (w W : World) (tc tw : TypeId) (g gw : Nat) (c : Core) (x : Ins) (k u v : Int) : Prop where
  st : StB w W tc tw g c zeroC zeroW x
  x12 : Box W tw gw (wantA k u v)
  n10 : gw ≠ g
  g12 : w.heap.size + 1 + 1 < gw

theorem StW.mk' {w w2 w3 : World} {tc tw : TypeId} {g : Nat} {c : Core} {x : Ins} (h : StB w w2 tc tw g c zeroC zeroW x) (b3 : Below w2.heap.size w2 w3) (k u v : Int) :
    StW w (w3.alloc (.cells (wantA k u v) tw)) tc tw g w3.heap.size c x k u v := by
  have h3 := h.kept b3
  exact ⟨h3.kept (below_al' _ _), Box.new _ _ _, by have := h3.x10.lt; omega, by have := h3.x10.lt; have := h3.g3; omega⟩
theorem StW.kept {w W W' : World} {tc tw : TypeId} {g gw : Nat} {c : Core} {x : Ins} {k u v : Int} (h : StW w W tc tw g gw c x k u v) (hb : Below W.heap.size W W') : StW w W' tc tw g gw c x k u v :=
  ⟨h.st.kept hb, h.x12.bel hb, h.n10, h.g12⟩
/-- The core is another one. -/
theorem StW.core {w W W' : World} {tc tw : TypeId} {g gw : Nat} {c d : Core} {x : Ins} {k u v : Int} (h : StW w W tc tw g gw c x k u v) (ho : Oth w.heap.size W W') (hx : Box W' tc w.heap.size (coreA d)) (hF : 0 < w.heap.size) : StW w W' tc tw g gw d x k u v :=
  ⟨⟨hx, h.st.x8.oth ho (by omega), h.st.x9.oth ho (by omega), h.st.x10.oth ho (by have := h.st.g3; omega), h.st.g3, ho.below h.st.bel (Nat.le_refl _), fun i hi => by
    have := h.st.fld i hi
    rw [World.cell?_of_block (w := W) (ho.block 0 (by omega))]
    exact this⟩, h.x12.oth ho (by have := h.g12; omega), h.n10, h.g12⟩

set_option maxRecDepth 100000 in
set_option maxHeartbeats 2000000 in
theorem step_hold (c : Core) (ad : Option Addr) (l : List Ins) (cap p : Nat) (tick self : Int) (hp : c.pc = (p : Int)) (hlt : p < l.length) (w : World) (hP : Prg w ad l) (hF : Fld w) (op imm : Int) (a b d : Nat) (ha : a < 8) (hb : b < 8) (hd' : d < 8)
    (hx : l.getD p default = ⟨op, a, b, d, imm⟩) (hok : (wrong (l.getD p default) l.length 8).1 = 0) (k u v : Int) (hwant : wantL c op a b d imm = (k, u, v)) (k0 : (k == 0) = false) (k5 : (k == 5) = false) (k8 : (k == 8) = false) (k9 : (k == 9) = false) :
    Calls Tryd.prog 7 #[coreV c, .slice ad l.length cap, .int .i64 tick, .int .i64 self] w fun e w' => e = .returned (.tuple #[coreV c, wantV k u v]) ∧ Below w.heap.size w w' := by
  have hb0 := three_bel w (.cells (coreA c) 25) (.cells zeroC 25) (.cells zeroW 30)
  have hcur := current_yes c ad l cap p hp hlt _ (hP.kept hb0)
  have HS := hd (fun x w1 => StB.mk' (w1 := w1) (tc := 25) (tw := 30) (c := c) x hF)
  have hst := stands_any (l.getD p default) l.length
  rw [show ((wrong (l.getD p default) l.length 8).1 == 0) = true from by simpa using hok] at hst
  have hwa := wanted_any c op imm a b d ha hb hd'
  rw [hx] at hst hcur
  rw [hwant] at hwa
  clear hx hok
  generalize l.length = n at *
  clear hP hb0 hF hlt hp hwant
  unfold wantT wantV wantA at hwa
  simp only at hwa
  unfold coreV wantV wantA
  unfold insV at *
  unfold coreV at hcur hwa
  unfold coreA zeroC zeroW at *
  go_enter Tryd.func7, Tryd.ntmps7
  go_wp2_with fail
  go_step3
  go_upto_region 2 with (first | (go_at_call 17; refine hcur.mono ?_; rintro e w1 ⟨rfl, b1⟩))
  replace HS := hd (HS.out ⟨op, a, b, d, imm⟩ w1 b1)
  clear hcur b1
  unfold insA at HS
  obtain ⟨g, hg⟩ : ∃ g, Hid (w1.heap.size = g) := ⟨_, rfl⟩
  obtain ⟨W1, hW1⟩ : ∃ W, Hid (w1.alloc (.cells #[.int .i64 op, .int .i64 a, .int .i64 b, .int .i64 d, .int .i64 imm] 28) = W) := ⟨_, rfl⟩
  simp only at HS
  rw [hW1.out] at HS ⊢
  rw [hg.out] at HS ⊢
  clear hW1 hg
  replace hst := hst W1 HS.out.fld
  obtain ⟨i0, i1, i2, i3, i4⟩ := HS.out.x10.ci
  go_upto_region 4 with (go_at_call 18; refine hst.mono ?_; rintro e w2 ⟨rfl, b2⟩)
  replace HS := hd (HS.out.kept b2)
  clear hst b2 i0 i1 i2 i3 i4
  obtain ⟨i0, i1, i2, i3, i4⟩ := HS.out.x10.ci
  obtain ⟨c0, c1, c2, c3, c4, c5, c6, c7, c8⟩ := HS.out.x4.cs
  replace hwa := hwa w2
  go_wp2_with (go_at_call 19; refine hwa.mono ?_; rintro e w3 ⟨rfl, b3⟩)
  clear hwa c0 c1 c2 c3 c4 c5 c6 c7 c8 i0 i1 i2 i3 i4
  replace HS := hd (StW.mk' HS.out b3 k u v)
  clear b3
  unfold wantA at HS
  obtain ⟨gw, hgw⟩ : ∃ g, Hid (w3.heap.size = g) := ⟨_, rfl⟩
  obtain ⟨W3, hW3⟩ : ∃ W, Hid (w3.alloc (.cells #[.int .i64 k, .int .i64 u, .int .i64 v] 30) = W) := ⟨_, rfl⟩
  rw [hW3.out] at HS ⊢
  rw [hgw.out] at HS ⊢
  clear hW3 hgw
  obtain ⟨v0, v1, v2⟩ := HS.out.x12.cw
  go_step3
  go_upto_region 26 with fail
  have HN1 : ¬ gw = w.heap.size + 1 := by have := HS.out.g12; omega
  have HN2 : ¬ w.heap.size + 1 = gw := by omega
  obtain ⟨c0, c1, c2, c3, c4, c5, c6, c7, c8⟩ := HS.out.st.x4.cs
  obtain ⟨z0, z1, z2, z3, z4, z5, z6, z7, z8⟩ := HS.out.st.x8.cz
  obtain ⟨y0, y1, y2⟩ := Box.cw (k := 0) (u := 0) (v := 0) HS.out.st.x9
  obtain ⟨v0, v1, v2⟩ := HS.out.x12.cw
  have f8 := HS.out.st.x8.fr
  have f9 := HS.out.st.x9.fr
  have HE := hd (HS.out.st.ends c k u v)
  clear HS
  go_region
  go_wp2
  unfold put9 put3 at HE
  try rw [Exit.noGoto_ret]
  clear c0 c1 c2 c3 c4 c5 c6 c7 c8 z0 z1 z2 z3 z4 z5 z6 z7 z8 y0 y1 y2 v0 v1 v2 f8 f9 HN1 HN2
  obtain ⟨R8, R9, RB⟩ := HE.out
  obtain ⟨c0, c1, c2, c3, c4, c5, c6, c7, c8⟩ := R8.cs
  obtain ⟨y0, y1, y2⟩ := R9.cw
  refine bodyPost_ret ?_ rfl ⟨rfl, RB.drew⟩
  clear R8 R9 RB
  generalize World.setCell _ _ _ = Wf at *
  simp [results, Tryd.results7, go_sem, c0, c1, c2, c3, c4, c5, c6, c7, c8, y0, y1, y2]
set_option maxRecDepth 100000 in
set_option maxHeartbeats 2000000 in
theorem step_next (c : Core) (ad : Option Addr) (l : List Ins) (cap p : Nat) (tick self : Int) (hp : c.pc = (p : Int)) (hlt : p < l.length) (w : World) (hP : Prg w ad l) (hF : Fld w) (op imm : Int) (a b d : Nat) (ha : a < 8) (hb : b < 8) (hd' : d < 8)
    (hx : l.getD p default = ⟨op, a, b, d, imm⟩) (hok : (wrong (l.getD p default) l.length 8).1 = 0) (k u v : Int) (hwant : wantL c op a b d imm = (k, u, v)) (hk : k = 5 ∨ k = 8 ∨ k = 9) :
    Calls Tryd.prog 7 #[coreV c, .slice ad l.length cap, .int .i64 tick, .int .i64 self] w fun e w' => e = .returned (.tuple #[coreV c.next, wantV k u v]) ∧ Below w.heap.size w w' := by
  have HW0 : Hid (0 < w.heap.size) := hd (World.block_lt_of_cell? w _ (hF 0 (by decide)))
  obtain ⟨D, hD⟩ : ∃ D, Hid (c.next = D) := ⟨_, rfl⟩
  rw [hD.out]
  have hb0 := three_bel w (.cells (coreA c) 25) (.cells zeroC 25) (.cells zeroW 30)
  have hcur := current_yes c ad l cap p hp hlt _ (hP.kept hb0)
  have HS := hd (fun x w1 => StB.mk' (w1 := w1) (tc := 25) (tw := 30) (c := c) x hF)
  have hst := stands_any (l.getD p default) l.length
  rw [show ((wrong (l.getD p default) l.length 8).1 == 0) = true from by simpa using hok] at hst
  have hwa := wanted_any c op imm a b d ha hb hd'
  rw [hx] at hst hcur
  rw [hwant] at hwa
  clear hx hok
  generalize l.length = n at *
  clear hP hb0 hF hlt hp hwant
  unfold wantT wantV wantA at hwa
  simp only at hwa
  unfold coreV wantV wantA
  unfold insV at *
  unfold coreV at hcur hwa
  unfold coreA zeroC zeroW at *
  go_enter Tryd.func7, Tryd.ntmps7
  go_wp2_with fail
  go_step3
  go_upto_region 2 with (first | (go_at_call 17; refine hcur.mono ?_; rintro e w1 ⟨rfl, b1⟩))
  replace HS := hd (HS.out ⟨op, a, b, d, imm⟩ w1 b1)
  clear hcur b1
  unfold insA at HS
  obtain ⟨g, hg⟩ : ∃ g, Hid (w1.heap.size = g) := ⟨_, rfl⟩
  obtain ⟨W1, hW1⟩ : ∃ W, Hid (w1.alloc (.cells #[.int .i64 op, .int .i64 a, .int .i64 b, .int .i64 d, .int .i64 imm] 28) = W) := ⟨_, rfl⟩
  simp only at HS
  rw [hW1.out] at HS ⊢
  rw [hg.out] at HS ⊢
  clear hW1 hg
  replace hst := hst W1 HS.out.fld
  obtain ⟨i0, i1, i2, i3, i4⟩ := HS.out.x10.ci
  go_upto_region 4 with (go_at_call 18; refine hst.mono ?_; rintro e w2 ⟨rfl, b2⟩)
  replace HS := hd (HS.out.kept b2)
  clear hst b2 i0 i1 i2 i3 i4
  obtain ⟨i0, i1, i2, i3, i4⟩ := HS.out.x10.ci
  obtain ⟨c0, c1, c2, c3, c4, c5, c6, c7, c8⟩ := HS.out.x4.cs
  replace hwa := hwa w2
  go_wp2_with (go_at_call 19; refine hwa.mono ?_; rintro e w3 ⟨rfl, b3⟩)
  clear hwa c0 c1 c2 c3 c4 c5 c6 c7 c8 i0 i1 i2 i3 i4
  replace HS := hd (StW.mk' HS.out b3 k u v)
  clear b3
  unfold wantA at HS
  obtain ⟨gw, hgw⟩ : ∃ g, Hid (w3.heap.size = g) := ⟨_, rfl⟩
  obtain ⟨W3, hW3⟩ : ∃ W, Hid (w3.alloc (.cells #[.int .i64 k, .int .i64 u, .int .i64 v] 30) = W) := ⟨_, rfl⟩
  rw [hW3.out] at HS ⊢
  rw [hgw.out] at HS ⊢
  clear hW3 hgw
  obtain ⟨v0, v1, v2⟩ := HS.out.x12.cw
  go_step3
  rcases hk with rfl | rfl | rfl
  · go_upto_region 25 with fail
    obtain ⟨c0, c1, c2, c3, c4, c5, c6, c7, c8⟩ := HS.out.st.x4.cs
    have hnx := next_any c W3
    unfold coreV coreA Core.next at hnx
    simp only at hnx
    go_upto_region 26 with (go_at_call 15; refine hnx.mono ?_; rintro e w4 ⟨rfl, b4⟩; have HS := hd (HS.out.kept b4); obtain ⟨c0, c1, c2, c3, c4, c5, c6, c7, c8⟩ := HS.out.st.x4.cs; have f4 := HS.out.st.x4.fr)
    clear hnx c0 c1 c2 c3 c4 c5 c6 c7 c8
    obtain ⟨W5, hW5⟩ : ∃ W, Hid (put9 w4 w.heap.size (Core.next c) = W) := ⟨_, rfl⟩
    have HS4 := hd (HS.out.core (put9_oth _ _ _) (HS.out.st.x4.nine (Core.next c)) HW0.out)
    rw [hW5.out, hD.out] at HS4
    clear HS
    have HS := HS4
    clear HS4
    unfold put9 Core.next at hW5
    simp only at hW5
    rw [hW5.out]
    clear hW5
    have HN1 : ¬ gw = w.heap.size + 1 := by have := HS.out.g12; omega
    have HN2 : ¬ w.heap.size + 1 = gw := by omega
    obtain ⟨c0, c1, c2, c3, c4, c5, c6, c7, c8⟩ := HS.out.st.x4.cs
    obtain ⟨z0, z1, z2, z3, z4, z5, z6, z7, z8⟩ := HS.out.st.x8.cz
    obtain ⟨y0, y1, y2⟩ := Box.cw (k := 0) (u := 0) (v := 0) HS.out.st.x9
    obtain ⟨v0, v1, v2⟩ := HS.out.x12.cw
    have f8 := HS.out.st.x8.fr
    have f9 := HS.out.st.x9.fr
    have HE := hd (HS.out.st.ends D 5 u v)
    clear HS
    go_region
    go_wp2
    unfold put9 put3 at HE
    try rw [Exit.noGoto_ret]
    clear c0 c1 c2 c3 c4 c5 c6 c7 c8 z0 z1 z2 z3 z4 z5 z6 z7 z8 y0 y1 y2 v0 v1 v2 f8 f9 HN1 HN2
    obtain ⟨R8, R9, RB⟩ := HE.out
    obtain ⟨c0, c1, c2, c3, c4, c5, c6, c7, c8⟩ := R8.cs
    obtain ⟨y0, y1, y2⟩ := R9.cw
    refine bodyPost_ret ?_ rfl ⟨rfl, RB.drew⟩
    clear R8 R9 RB
    generalize World.setCell _ _ _ = Wf at *
    simp [results, Tryd.results7, go_sem, c0, c1, c2, c3, c4, c5, c6, c7, c8, y0, y1, y2]
  · go_upto_region 25 with fail
    obtain ⟨c0, c1, c2, c3, c4, c5, c6, c7, c8⟩ := HS.out.st.x4.cs
    have hnx := next_any c W3
    unfold coreV coreA Core.next at hnx
    simp only at hnx
    go_upto_region 26 with (go_at_call 15; refine hnx.mono ?_; rintro e w4 ⟨rfl, b4⟩; have HS := hd (HS.out.kept b4); obtain ⟨c0, c1, c2, c3, c4, c5, c6, c7, c8⟩ := HS.out.st.x4.cs; have f4 := HS.out.st.x4.fr)
    clear hnx c0 c1 c2 c3 c4 c5 c6 c7 c8
    obtain ⟨W5, hW5⟩ : ∃ W, Hid (put9 w4 w.heap.size (Core.next c) = W) := ⟨_, rfl⟩
    have HS4 := hd (HS.out.core (put9_oth _ _ _) (HS.out.st.x4.nine (Core.next c)) HW0.out)
    rw [hW5.out, hD.out] at HS4
    clear HS
    have HS := HS4
    clear HS4
    unfold put9 Core.next at hW5
    simp only at hW5
    rw [hW5.out]
    clear hW5
    have HN1 : ¬ gw = w.heap.size + 1 := by have := HS.out.g12; omega
    have HN2 : ¬ w.heap.size + 1 = gw := by omega
    obtain ⟨c0, c1, c2, c3, c4, c5, c6, c7, c8⟩ := HS.out.st.x4.cs
    obtain ⟨z0, z1, z2, z3, z4, z5, z6, z7, z8⟩ := HS.out.st.x8.cz
    obtain ⟨y0, y1, y2⟩ := Box.cw (k := 0) (u := 0) (v := 0) HS.out.st.x9
    obtain ⟨v0, v1, v2⟩ := HS.out.x12.cw
    have f8 := HS.out.st.x8.fr
    have f9 := HS.out.st.x9.fr
    have HE := hd (HS.out.st.ends D 8 u v)
    clear HS
    go_region
    go_wp2
    unfold put9 put3 at HE
    try rw [Exit.noGoto_ret]
    clear c0 c1 c2 c3 c4 c5 c6 c7 c8 z0 z1 z2 z3 z4 z5 z6 z7 z8 y0 y1 y2 v0 v1 v2 f8 f9 HN1 HN2
    obtain ⟨R8, R9, RB⟩ := HE.out
    obtain ⟨c0, c1, c2, c3, c4, c5, c6, c7, c8⟩ := R8.cs
    obtain ⟨y0, y1, y2⟩ := R9.cw
    refine bodyPost_ret ?_ rfl ⟨rfl, RB.drew⟩
    clear R8 R9 RB
    generalize World.setCell _ _ _ = Wf at *
    simp [results, Tryd.results7, go_sem, c0, c1, c2, c3, c4, c5, c6, c7, c8, y0, y1, y2]
  · go_upto_region 25 with fail
    obtain ⟨c0, c1, c2, c3, c4, c5, c6, c7, c8⟩ := HS.out.st.x4.cs
    have hnx := next_any c W3
    unfold coreV coreA Core.next at hnx
    simp only at hnx
    go_upto_region 26 with (go_at_call 15; refine hnx.mono ?_; rintro e w4 ⟨rfl, b4⟩; have HS := hd (HS.out.kept b4); obtain ⟨c0, c1, c2, c3, c4, c5, c6, c7, c8⟩ := HS.out.st.x4.cs; have f4 := HS.out.st.x4.fr)
    clear hnx c0 c1 c2 c3 c4 c5 c6 c7 c8
    obtain ⟨W5, hW5⟩ : ∃ W, Hid (put9 w4 w.heap.size (Core.next c) = W) := ⟨_, rfl⟩
    have HS4 := hd (HS.out.core (put9_oth _ _ _) (HS.out.st.x4.nine (Core.next c)) HW0.out)
    rw [hW5.out, hD.out] at HS4
    clear HS
    have HS := HS4
    clear HS4
    unfold put9 Core.next at hW5
    simp only at hW5
    rw [hW5.out]
    clear hW5
    have HN1 : ¬ gw = w.heap.size + 1 := by have := HS.out.g12; omega
    have HN2 : ¬ w.heap.size + 1 = gw := by omega
    obtain ⟨c0, c1, c2, c3, c4, c5, c6, c7, c8⟩ := HS.out.st.x4.cs
    obtain ⟨z0, z1, z2, z3, z4, z5, z6, z7, z8⟩ := HS.out.st.x8.cz
    obtain ⟨y0, y1, y2⟩ := Box.cw (k := 0) (u := 0) (v := 0) HS.out.st.x9
    obtain ⟨v0, v1, v2⟩ := HS.out.x12.cw
    have f8 := HS.out.st.x8.fr
    have f9 := HS.out.st.x9.fr
    have HE := hd (HS.out.st.ends D 9 u v)
    clear HS
    go_region
    go_wp2
    unfold put9 put3 at HE
    try rw [Exit.noGoto_ret]
    clear c0 c1 c2 c3 c4 c5 c6 c7 c8 z0 z1 z2 z3 z4 z5 z6 z7 z8 y0 y1 y2 v0 v1 v2 f8 f9 HN1 HN2
    obtain ⟨R8, R9, RB⟩ := HE.out
    obtain ⟨c0, c1, c2, c3, c4, c5, c6, c7, c8⟩ := R8.cs
    obtain ⟨y0, y1, y2⟩ := R9.cw
    refine bodyPost_ret ?_ rfl ⟨rfl, RB.drew⟩
    clear R8 R9 RB
    generalize World.setCell _ _ _ = Wf at *
    simp [results, Tryd.results7, go_sem, c0, c1, c2, c3, c4, c5, c6, c7, c8, y0, y1, y2]
end Go.Proofs.YtfkdaimhdjaefaaDoor
