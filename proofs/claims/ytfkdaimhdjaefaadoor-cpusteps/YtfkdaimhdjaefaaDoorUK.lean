/- The document's Told and Took. -/
import Derived.Test.YtfkdaimhdjaefaaDoorGUc
namespace Go.Proofs.YtfkdaimhdjaefaaDoor
open Go.RowKit

/-- The boxes of the document's Told: the core, the answer. -/
structure StV (w W : World) (c : Core) : Prop where
  x4 : Box W 33 w.heap.size (coreA c)
  x8 : Box W 33 (w.heap.size + 1) zeroC
  bel : Below w.heap.size w W
theorem StV.new (w : World) (c : Core) : StV w ((w.alloc (.cells (coreA c) 33)).alloc (.cells zeroC 33)) c := by
  obtain ⟨h4, h8⟩ := told_begin w c 33
  exact ⟨h4, h8, two_bel _ _ _⟩
theorem StV.kept {w W W' : World} {c : Core} (h : StV w W c) (hb : Below W.heap.size W W') : StV w W' c := ⟨h.x4.bel hb, h.x8.bel hb, h.bel.trans (hb.mono h.bel.size)⟩
theorem StV.core {w W W' : World} {c d : Core} (h : StV w W c) (ho : Oth w.heap.size W W') (hx : Box W' 33 w.heap.size (coreA d)) : StV w W' d := ⟨hx, h.x8.oth ho (by omega), ho.below h.bel (Nat.le_refl _)⟩
theorem StV.ends {w W : World} {c : Core} (h : StV w W c) (d : Core) : Box (put9 W (w.heap.size + 1) d) 33 (w.heap.size + 1) (coreA d) ∧ Below w.heap.size w (put9 W (w.heap.size + 1) d) :=
  ⟨h.x8.nine d, (put9_oth _ _ d).below h.bel (by omega)⟩

set_option maxRecDepth 100000 in
set_option maxHeartbeats 2000000 in
theorem rtold_no (c : Core) (ad : Option Addr) (n cap : Nat) (v : Int) (hout : ¬ (0 ≤ c.pc ∧ c.pc < n)) (w : World) :
    Calls Tryd.prog 10 #[coreV c, .slice ad n cap, .int .i64 v] w fun e w' => e = .returned (coreV c.next) ∧ Below w.heap.size w w' := by
  obtain ⟨D, hD⟩ : ∃ D, Hid (c.next = D) := ⟨_, rfl⟩
  have hnx := rnext_any c
  rw [hD.out] at hnx ⊢
  clear hD
  have HS := hd (StV.new w c)
  have hout' : (¬ 0 ≤ c.pc) ∨ (0 ≤ c.pc ∧ (n : Int) ≤ c.pc) := by omega
  clear hout
  unfold coreV at *
  unfold coreA zeroC at *
  rcases hout' with h1 | ⟨h1, h2⟩
  · have d1 : decide (0 ≤ c.pc) = false := decide_eq_false (by omega)
    clear h1
    go_enter Tryd.func10, Tryd.ntmps10
    go_upto_region 3 with fail
    obtain ⟨W1, hW1⟩ : ∃ W, Hid (World.alloc (World.alloc w (.cells #[.int .i64 c.pc, .int .i64 (c.r 0), .int .i64 (c.r 1), .int .i64 (c.r 2), .int .i64 (c.r 3), .int .i64 (c.r 4), .int .i64 (c.r 5), .int .i64 (c.r 6), .int .i64 (c.r 7)] 33)) (.cells #[.int .i64 0, .int .i64 0, .int .i64 0, .int .i64 0, .int .i64 0, .int .i64 0, .int .i64 0, .int .i64 0, .int .i64 0] 33) = W) := ⟨_, rfl⟩
    rw [hW1.out] at HS ⊢
    clear hW1
    obtain ⟨c0, c1, c2, c3, c4, c5, c6, c7, c8⟩ := HS.out.x4.cs
    replace hnx := hnx W1
    go_wp2_with (go_at_call 16; refine hnx.mono ?_; rintro e w4 ⟨rfl, b4⟩; have HT := hd (HS.out.kept b4); obtain ⟨z0, z1, z2, z3, z4, z5, z6, z7, z8⟩ := HT.out.x8.cz; have f8 := HT.out.x8.fr)
    have HE := hd (HT.out.ends D)
    clear HS HT
    unfold put9 at HE
    clear c0 c1 c2 c3 c4 c5 c6 c7 c8 z0 z1 z2 z3 z4 z5 z6 z7 z8 f8
    obtain ⟨R8, RB⟩ := HE.out
    obtain ⟨c0, c1, c2, c3, c4, c5, c6, c7, c8⟩ := R8.cs
    refine bodyPost_ret ?_ rfl ⟨rfl, RB⟩
    clear R8 RB
    generalize World.setCell _ _ _ = Wf at *
    simp [results, Tryd.results10, go_sem, c0, c1, c2, c3, c4, c5, c6, c7, c8]
  · have d2 : decide (c.pc < (n : Int)) = false := decide_eq_false (by omega)
    clear h2
    go_enter Tryd.func10, Tryd.ntmps10
    go_upto_region 3 with fail
    obtain ⟨W1, hW1⟩ : ∃ W, Hid (World.alloc (World.alloc w (.cells #[.int .i64 c.pc, .int .i64 (c.r 0), .int .i64 (c.r 1), .int .i64 (c.r 2), .int .i64 (c.r 3), .int .i64 (c.r 4), .int .i64 (c.r 5), .int .i64 (c.r 6), .int .i64 (c.r 7)] 33)) (.cells #[.int .i64 0, .int .i64 0, .int .i64 0, .int .i64 0, .int .i64 0, .int .i64 0, .int .i64 0, .int .i64 0, .int .i64 0] 33) = W) := ⟨_, rfl⟩
    rw [hW1.out] at HS ⊢
    clear hW1
    obtain ⟨c0, c1, c2, c3, c4, c5, c6, c7, c8⟩ := HS.out.x4.cs
    replace hnx := hnx W1
    go_wp2_with (go_at_call 16; refine hnx.mono ?_; rintro e w4 ⟨rfl, b4⟩; have HT := hd (HS.out.kept b4); obtain ⟨z0, z1, z2, z3, z4, z5, z6, z7, z8⟩ := HT.out.x8.cz; have f8 := HT.out.x8.fr)
    have HE := hd (HT.out.ends D)
    clear HS HT
    unfold put9 at HE
    clear c0 c1 c2 c3 c4 c5 c6 c7 c8 z0 z1 z2 z3 z4 z5 z6 z7 z8 f8
    obtain ⟨R8, RB⟩ := HE.out
    obtain ⟨c0, c1, c2, c3, c4, c5, c6, c7, c8⟩ := R8.cs
    refine bodyPost_ret ?_ rfl ⟨rfl, RB⟩
    clear R8 RB
    generalize World.setCell _ _ _ = Wf at *
    simp [results, Tryd.results10, go_sem, c0, c1, c2, c3, c4, c5, c6, c7, c8]

set_option maxRecDepth 100000 in
set_option maxHeartbeats 2000000 in
theorem rtook_no (c : Core) (ad : Option Addr) (n cap : Nat) (v u : Int) (hout : ¬ (0 ≤ c.pc ∧ c.pc < n)) (w : World) :
    Calls Tryd.prog 11 #[coreV c, .slice ad n cap, .int .i64 v, .int .i64 u] w fun e w' => e = .returned (coreV c.next) ∧ Below w.heap.size w w' := by
  obtain ⟨D, hD⟩ : ∃ D, Hid (c.next = D) := ⟨_, rfl⟩
  have hnx := rnext_any c
  rw [hD.out] at hnx ⊢
  clear hD
  have HS := hd (StV.new w c)
  have hout' : (¬ 0 ≤ c.pc) ∨ (0 ≤ c.pc ∧ (n : Int) ≤ c.pc) := by omega
  clear hout
  unfold coreV at *
  unfold coreA zeroC at *
  rcases hout' with h1 | ⟨h1, h2⟩
  · have d1 : decide (0 ≤ c.pc) = false := decide_eq_false (by omega)
    clear h1
    go_enter Tryd.func11, Tryd.ntmps11
    go_upto_region 5 with fail
    obtain ⟨W1, hW1⟩ : ∃ W, Hid (World.alloc (World.alloc w (.cells #[.int .i64 c.pc, .int .i64 (c.r 0), .int .i64 (c.r 1), .int .i64 (c.r 2), .int .i64 (c.r 3), .int .i64 (c.r 4), .int .i64 (c.r 5), .int .i64 (c.r 6), .int .i64 (c.r 7)] 33)) (.cells #[.int .i64 0, .int .i64 0, .int .i64 0, .int .i64 0, .int .i64 0, .int .i64 0, .int .i64 0, .int .i64 0, .int .i64 0] 33) = W) := ⟨_, rfl⟩
    rw [hW1.out] at HS ⊢
    clear hW1
    obtain ⟨c0, c1, c2, c3, c4, c5, c6, c7, c8⟩ := HS.out.x4.cs
    replace hnx := hnx W1
    go_wp2_with (go_at_call 16; refine hnx.mono ?_; rintro e w4 ⟨rfl, b4⟩; have HT := hd (HS.out.kept b4); obtain ⟨z0, z1, z2, z3, z4, z5, z6, z7, z8⟩ := HT.out.x8.cz; have f8 := HT.out.x8.fr)
    have HE := hd (HT.out.ends D)
    clear HS HT
    unfold put9 at HE
    clear c0 c1 c2 c3 c4 c5 c6 c7 c8 z0 z1 z2 z3 z4 z5 z6 z7 z8 f8
    obtain ⟨R8, RB⟩ := HE.out
    obtain ⟨c0, c1, c2, c3, c4, c5, c6, c7, c8⟩ := R8.cs
    refine bodyPost_ret ?_ rfl ⟨rfl, RB⟩
    clear R8 RB
    generalize World.setCell _ _ _ = Wf at *
    simp [results, Tryd.results11, go_sem, c0, c1, c2, c3, c4, c5, c6, c7, c8]
  · have d2 : decide (c.pc < (n : Int)) = false := decide_eq_false (by omega)
    clear h2
    go_enter Tryd.func11, Tryd.ntmps11
    go_upto_region 5 with fail
    obtain ⟨W1, hW1⟩ : ∃ W, Hid (World.alloc (World.alloc w (.cells #[.int .i64 c.pc, .int .i64 (c.r 0), .int .i64 (c.r 1), .int .i64 (c.r 2), .int .i64 (c.r 3), .int .i64 (c.r 4), .int .i64 (c.r 5), .int .i64 (c.r 6), .int .i64 (c.r 7)] 33)) (.cells #[.int .i64 0, .int .i64 0, .int .i64 0, .int .i64 0, .int .i64 0, .int .i64 0, .int .i64 0, .int .i64 0, .int .i64 0] 33) = W) := ⟨_, rfl⟩
    rw [hW1.out] at HS ⊢
    clear hW1
    obtain ⟨c0, c1, c2, c3, c4, c5, c6, c7, c8⟩ := HS.out.x4.cs
    replace hnx := hnx W1
    go_wp2_with (go_at_call 16; refine hnx.mono ?_; rintro e w4 ⟨rfl, b4⟩; have HT := hd (HS.out.kept b4); obtain ⟨z0, z1, z2, z3, z4, z5, z6, z7, z8⟩ := HT.out.x8.cz; have f8 := HT.out.x8.fr)
    have HE := hd (HT.out.ends D)
    clear HS HT
    unfold put9 at HE
    clear c0 c1 c2 c3 c4 c5 c6 c7 c8 z0 z1 z2 z3 z4 z5 z6 z7 z8 f8
    obtain ⟨R8, RB⟩ := HE.out
    obtain ⟨c0, c1, c2, c3, c4, c5, c6, c7, c8⟩ := R8.cs
    refine bodyPost_ret ?_ rfl ⟨rfl, RB⟩
    clear R8 RB
    generalize World.setCell _ _ _ = Wf at *
    simp [results, Tryd.results11, go_sem, c0, c1, c2, c3, c4, c5, c6, c7, c8]

set_option maxRecDepth 100000 in
set_option maxHeartbeats 2000000 in
theorem rtold_yes (c : Core) (ad : Option Addr) (l : List Ins) (cap p : Nat) (v : Int) (hp : c.pc = (p : Int)) (hlt : p < l.length) (w : World) (hP : Prg w ad l) :
    Calls Tryd.prog 10 #[coreV c, .slice ad l.length cap, .int .i64 v] w fun e w' => e = .returned (coreV (c.lay (l.getD p default).a v).next) ∧ Below w.heap.size w w' := by
  have hB := two_bel w
  have HS := hd (StV.new w c)
  have hlt' : (p : Int) < (l.length : Int) := by omega
  obtain ⟨b, off, rfl, hx⟩ := hP p hlt
  have hk := fun o1 o2 => hx.kept (hB o1 o2)
  have k0 := fun o1 o2 => (hk o1 o2).c0
  have k1 := fun o1 o2 => (hk o1 o2).c1
  have k2 := fun o1 o2 => (hk o1 o2).c2
  have k3 := fun o1 o2 => (hk o1 o2).c3
  have k4 := fun o1 o2 => (hk o1 o2).c4
  generalize l.getD p default = x at *
  generalize l.length = n at *
  clear hk hx hP hlt
  have hpa := put_any c x.a v (t := 33) (b := w.heap.size)
  obtain ⟨C1, hC1⟩ : ∃ D, Hid (c.lay x.a v = D) := ⟨_, rfl⟩
  rw [hC1.out] at hpa ⊢
  have hnx := rnext_any C1
  obtain ⟨D, hD⟩ : ∃ D, Hid (C1.next = D) := ⟨_, rfl⟩
  rw [hD.out] at hnx ⊢
  clear hD hC1 hB
  obtain ⟨pc, r⟩ := c
  simp only at hp
  subst hp
  unfold coreV at *
  have HQ := hd (fun W' (h : Box W' 33 w.heap.size (coreA C1)) (ho : Oth w.heap.size _ W') => HS.out.core ho h)
  have hpa := hpa _ HS.out.x4
  clear HS
  unfold coreA zeroC at *
  simp only at hpa HQ ⊢
  go_enter Tryd.func10, Tryd.ntmps10
  go_upto_region 3 with (go_at_call 23; refine hpa.mono ?_; rintro e W1 ⟨rfl, hbx, hox⟩)
  have HS := hd (HQ.out W1 hbx hox)
  clear HQ hpa hbx hox k0 k1 k2 k3 k4
  obtain ⟨c0, c1, c2, c3, c4, c5, c6, c7, c8⟩ := HS.out.x4.cs
  replace hnx := hnx W1
  go_wp2_with (go_at_call 16; refine hnx.mono ?_; rintro e w4 ⟨rfl, b4⟩; have HT := hd (HS.out.kept b4); obtain ⟨z0, z1, z2, z3, z4, z5, z6, z7, z8⟩ := HT.out.x8.cz; have f8 := HT.out.x8.fr)
  have HE := hd (HT.out.ends D)
  clear HS HT
  unfold put9 at HE
  clear c0 c1 c2 c3 c4 c5 c6 c7 c8 z0 z1 z2 z3 z4 z5 z6 z7 z8 f8
  obtain ⟨R8, RB⟩ := HE.out
  obtain ⟨c0, c1, c2, c3, c4, c5, c6, c7, c8⟩ := R8.cs
  refine bodyPost_ret ?_ rfl ⟨rfl, RB⟩
  clear R8 RB
  generalize World.setCell _ _ _ = Wf at *
  simp [results, Tryd.results10, go_sem, c0, c1, c2, c3, c4, c5, c6, c7, c8]

/-- With the instruction. -/
structure StY (w W : World) (c : Core) (x : Ins) : Prop where
  st : StV w W c
  x9 : Box W 28 (w.heap.size + 1 + 1) (insA x)
theorem StY.new (w : World) (c : Core) (x : Ins) : StY w (((w.alloc (.cells (coreA c) 33)).alloc (.cells zeroC 33)).alloc (.cells (insA x) 28)) c x := by
  refine ⟨(StV.new w c).kept (below_al' _ _), ?_⟩
  have h := Box.new ((w.alloc (.cells (coreA c) 33)).alloc (.cells zeroC 33)) 28 (insA x)
  simpa using h
theorem StY.core {w W W' : World} {c d : Core} {x : Ins} (h : StY w W c x) (ho : Oth w.heap.size W W') (hx : Box W' 33 w.heap.size (coreA d)) : StY w W' d x := ⟨h.st.core ho hx, h.x9.oth ho (by omega)⟩

set_option maxRecDepth 100000 in
set_option maxHeartbeats 2000000 in
theorem rtook_yes (c : Core) (ad : Option Addr) (l : List Ins) (cap p : Nat) (v u : Int) (hp : c.pc = (p : Int)) (hlt : p < l.length) (w : World) (hP : Prg w ad l) :
    Calls Tryd.prog 11 #[coreV c, .slice ad l.length cap, .int .i64 v, .int .i64 u] w fun e w' => e = .returned (coreV ((c.lay (l.getD p default).a v).lay (l.getD p default).b u).next) ∧ Below w.heap.size w w' := by
  have hB := two_bel w
  have HS := hd (StV.new w c)
  have hlt' : (p : Int) < (l.length : Int) := by omega
  obtain ⟨b, off, rfl, hx⟩ := hP p hlt
  have hk := fun o1 o2 => hx.kept (hB o1 o2)
  have k0 := fun o1 o2 => (hk o1 o2).c0
  have k1 := fun o1 o2 => (hk o1 o2).c1
  have k2 := fun o1 o2 => (hk o1 o2).c2
  have k3 := fun o1 o2 => (hk o1 o2).c3
  have k4 := fun o1 o2 => (hk o1 o2).c4
  generalize l.getD p default = x at *
  generalize l.length = n at *
  clear hk hx hP hlt
  have hpa := put_any c x.a v (t := 33) (b := w.heap.size)
  obtain ⟨C0, hC0⟩ : ∃ D, Hid (c.lay x.a v = D) := ⟨_, rfl⟩
  rw [hC0.out] at hpa ⊢
  have hpb := put_any C0 x.b u (t := 33) (b := w.heap.size)
  obtain ⟨C1, hC1⟩ : ∃ D, Hid (C0.lay x.b u = D) := ⟨_, rfl⟩
  rw [hC1.out] at hpb ⊢
  clear hC0
  have hnx := rnext_any C1
  obtain ⟨D, hD⟩ : ∃ D, Hid (C1.next = D) := ⟨_, rfl⟩
  rw [hD.out] at hnx ⊢
  clear hD hC1 hB
  obtain ⟨pc, r⟩ := c
  simp only at hp
  subst hp
  unfold coreV at *
  have HQ := hd (fun W' (h : Box W' 33 w.heap.size (coreA C0)) (ho : Oth w.heap.size _ W') => HS.out.core ho h)
  have HY := hd (StY.new w ⟨p, r⟩ x)
  clear HQ
  have hpa := hpa _ HY.out.st.x4
  clear HS
  unfold zeroC insA at *
  unfold coreA at *
  simp only at hpa HY ⊢
  go_enter Tryd.func11, Tryd.ntmps11
  go_upto_region 4 with (go_at_call 23; refine hpa.mono ?_; rintro e W1 ⟨rfl, hbx, hox⟩)
  have HS := hd (HY.out.core hox hbx)
  clear HY hpa hbx hox k0 k1 k2 k3 k4
  obtain ⟨i0, i1, i2, i3, i4⟩ := HS.out.x9.ci
  have hpb := hpb _ HS.out.st.x4
  unfold coreA at hpb
  go_upto_region 5 with (go_at_call 23; refine hpb.mono ?_; rintro e W2 ⟨rfl, hbx, hox⟩)
  have HS := hd (HS.out.core hox hbx).st
  clear hpb hbx hox i0 i1 i2 i3 i4
  obtain ⟨c0, c1, c2, c3, c4, c5, c6, c7, c8⟩ := HS.out.x4.cs
  replace hnx := hnx W2
  go_wp2_with (go_at_call 16; refine hnx.mono ?_; rintro e w4 ⟨rfl, b4⟩; have HT := hd (HS.out.kept b4); obtain ⟨z0, z1, z2, z3, z4, z5, z6, z7, z8⟩ := HT.out.x8.cz; have f8 := HT.out.x8.fr)
  have HE := hd (HT.out.ends D)
  clear HS HT
  unfold put9 at HE
  clear c0 c1 c2 c3 c4 c5 c6 c7 c8 z0 z1 z2 z3 z4 z5 z6 z7 z8 f8
  obtain ⟨R8, RB⟩ := HE.out
  obtain ⟨c0, c1, c2, c3, c4, c5, c6, c7, c8⟩ := R8.cs
  refine bodyPost_ret ?_ rfl ⟨rfl, RB⟩
  clear R8 RB
  generalize World.setCell _ _ _ = Wf at *
  simp [results, Tryd.results11, go_sem, c0, c1, c2, c3, c4, c5, c6, c7, c8]

theorem rtold_any (c : Core) (ad : Option Addr) (l : List Ins) (cap : Nat) (v : Int) (w : World) (hP : Prg w ad l) :
    Calls Tryd.prog 10 #[coreV c, .slice ad l.length cap, .int .i64 v] w fun e w' => e = .returned (coreV (toldL c l v)) ∧ Below w.heap.size w w' := by
  unfold toldL
  by_cases h : 0 ≤ c.pc ∧ c.pc < l.length
  · rw [if_pos h]
    obtain ⟨p, hp⟩ : ∃ p : Nat, c.pc = p := ⟨c.pc.toNat, by omega⟩
    rw [show c.pc.toNat = p by omega]
    exact rtold_yes c ad l cap p v hp (by omega) w hP
  · rw [if_neg h]
    exact rtold_no c ad l.length cap v h w
theorem rtook_any (c : Core) (ad : Option Addr) (l : List Ins) (cap : Nat) (v u : Int) (w : World) (hP : Prg w ad l) :
    Calls Tryd.prog 11 #[coreV c, .slice ad l.length cap, .int .i64 v, .int .i64 u] w fun e w' => e = .returned (coreV (tookL c l v u)) ∧ Below w.heap.size w w' := by
  unfold tookL
  by_cases h : 0 ≤ c.pc ∧ c.pc < l.length
  · rw [if_pos h]
    obtain ⟨p, hp⟩ : ∃ p : Nat, c.pc = p := ⟨c.pc.toNat, by omega⟩
    rw [show c.pc.toNat = p by omega]
    exact rtook_yes c ad l cap p v u hp (by omega) w hP
  · rw [if_neg h]
    exact rtook_no c ad l.length cap v u h w
end Go.Proofs.YtfkdaimhdjaefaaDoor
