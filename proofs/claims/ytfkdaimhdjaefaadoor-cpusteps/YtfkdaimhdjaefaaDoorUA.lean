/- Step of an instruction that reckons with two numbers. -/
import Derived.Test.YtfkdaimhdjaefaaDoorU8
import Derived.Test.YtfkdaimhdjaefaaDoorUT
import Derived.Deep.CutBlock
namespace Go.Proofs.YtfkdaimhdjaefaaDoor
open Go.RowKit

/-- A world in which the boxes stay. -/
structure StP (w : World) (tc tw : TypeId) (g gw : Nat) (c : Core) (x : Ins) (k u v : Int) where
  val : World
  kp : StW w val tc tw g gw c x k u v

set_option maxRecDepth 100000 in
set_option maxHeartbeats 2000000 in
theorem step_reck (c : Core) (ad : Option Addr) (l : List Ins) (cap p : Nat) (tick self : Int) (hp : c.pc = (p : Int)) (hlt : p < l.length) (w : World) (hP : Prg w ad l) (hF : Fld w) (op imm : Int) (a b d : Nat) (ha : a < 8) (hb : b < 8) (hd' : d < 8)
    (hx : l.getD p default = ⟨op, a, b, d, imm⟩) (hok : (wrong (l.getD p default) l.length 8).1 = 0) (hwant : wantL c op a b d imm = (0, 0, 0)) (n1 : 3 ≤ op) (n2 : op ≤ 21) :
    Calls Tryd.prog 7 #[coreV c, .slice ad l.length cap, .int .i64 tick, .int .i64 self] w fun e w' => e = .returned (.tuple #[coreV ((c.set a (reckL op (c.r b) (c.r d))).next), wantV 0 0 0]) ∧ Below w.heap.size w w' := by
  have HW0 : Hid (0 < w.heap.size) := hd (World.block_lt_of_cell? w _ (hF 0 (by decide)))
  obtain ⟨D, hD⟩ : ∃ D, Hid ((c.set a (reckL op (c.r b) (c.r d))).next = D) := ⟨_, rfl⟩
  rw [hD.out]
  obtain ⟨C1, hC1⟩ : ∃ D, Hid (c.set a (reckL op (c.r b) (c.r d)) = D) := ⟨_, rfl⟩
  rw [hC1.out] at hD
  have HA := hd ha
  have HBb := hd hb
  have HDd := hd hd'
  have hb0 := three_bel w (.cells (coreA c) 25) (.cells zeroC 25) (.cells zeroW 30)
  have hcur := current_yes c ad l cap p hp hlt _ (hP.kept hb0)
  have HS := hd (fun x w1 => StB.mk' (w1 := w1) (tc := 25) (tw := 30) (c := c) x hF)
  have hst := stands_any (l.getD p default) l.length
  rw [show ((wrong (l.getD p default) l.length 8).1 == 0) = true from by simpa using hok] at hst
  have hwa := wanted_any c op imm a b d ha hb hd'
  rw [hx] at hst hcur
  rw [hwant] at hwa
  clear hx hok
  generalize l.length = n at *
  clear hP hb0 hF hlt hp hwant
  unfold wantT wantV wantA at hwa
  simp only at hwa
  unfold coreV wantV wantA
  unfold insV at *
  unfold coreV at hcur hwa
  unfold coreA zeroC zeroW at *
  go_enter Tryd.func7, Tryd.ntmps7
  go_wp2_with fail
  go_step3
  go_upto_region 2 with (first | (go_at_call 17; refine hcur.mono ?_; rintro e w1 ⟨rfl, b1⟩))
  replace HS := hd (HS.out ⟨op, a, b, d, imm⟩ w1 b1)
  clear hcur b1
  unfold insA at HS
  obtain ⟨g, hg⟩ : ∃ g, Hid (w1.heap.size = g) := ⟨_, rfl⟩
  obtain ⟨W1, hW1⟩ : ∃ W, Hid (w1.alloc (.cells #[.int .i64 op, .int .i64 a, .int .i64 b, .int .i64 d, .int .i64 imm] 28) = W) := ⟨_, rfl⟩
  simp only at HS
  rw [hW1.out] at HS ⊢
  rw [hg.out] at HS ⊢
  clear hW1 hg
  replace hst := hst W1 HS.out.fld
  obtain ⟨i0, i1, i2, i3, i4⟩ := HS.out.x10.ci
  go_upto_region 4 with (go_at_call 18; refine hst.mono ?_; rintro e w2 ⟨rfl, b2⟩)
  replace HS := hd (HS.out.kept b2)
  clear hst b2 i0 i1 i2 i3 i4
  obtain ⟨i0, i1, i2, i3, i4⟩ := HS.out.x10.ci
  obtain ⟨c0, c1, c2, c3, c4, c5, c6, c7, c8⟩ := HS.out.x4.cs
  replace hwa := hwa w2
  go_wp2_with (go_at_call 19; refine hwa.mono ?_; rintro e w3 ⟨rfl, b3⟩)
  clear hwa c0 c1 c2 c3 c4 c5 c6 c7 c8 i0 i1 i2 i3 i4
  replace HS := hd (StW.mk' HS.out b3 0 0 0)
  clear b3
  unfold wantA at HS
  obtain ⟨gw, hgw⟩ : ∃ g, Hid (w3.heap.size = g) := ⟨_, rfl⟩
  obtain ⟨W3, hW3⟩ : ∃ W, Hid (w3.alloc (.cells #[.int .i64 0, .int .i64 0, .int .i64 0] 30) = W) := ⟨_, rfl⟩
  rw [hW3.out] at HS ⊢
  rw [hgw.out] at HS ⊢
  clear hW3 hgw
  obtain ⟨v0, v1, v2⟩ := HS.out.x12.cw
  obtain ⟨i0, i1, i2, i3, i4⟩ := HS.out.st.x10.ci
  have ra := HS.out.st.x4.reg a HA.out
  have rb := HS.out.st.x4.reg b HBb.out
  have rd := HS.out.st.x4.reg d HDd.out
  have rp := HS.out.st.x4.pc
  have f4 := HS.out.st.x4.fr
  have la : (a : Int) < 8 := by have := HA.out; omega
  have lb : (b : Int) < 8 := by have := HBb.out; omega
  have ld : (d : Int) < 8 := by have := HDd.out; omega
  clear ha hb hd'
  go_step3
  obtain ⟨V, hV⟩ : ∃ V, Hid (reckL op (c.r b) (c.r d) = V) := ⟨_, rfl⟩
  rw [hV.out] at hC1
  have hre := reckoned_any op (c.r b) (c.r d) n1 n2
  rw [hV.out] at hre
  clear hV
  have m1 : (op == 1) = false := by simp; omega
  have m2 : (op == 2) = false := by simp; omega
  have m3 : (op == 22) = false := by simp; omega
  have m4 : (op == 23) = false := by simp; omega
  have m5 : (op == 32) = false := by simp; omega
  have m6 : (op == 33) = false := by simp; omega
  clear n1 n2
  have HR := hd (HS.out.kept ((Below.refl _ W3).drew))
  clear v0 v1 v2 i0 i1 i2 i3 i4 ra rb rd rp f4
  have v0 : ∀ p : StP w 25 30 g gw c ⟨op, a, b, d, imm⟩ 0 0 0, p.val.cell? ⟨g, 0, none⟩ = some (.int .i64 op) := fun p => p.kp.st.x10.ci.1
  have v1 : ∀ p : StP w 25 30 g gw c ⟨op, a, b, d, imm⟩ 0 0 0, p.val.cell? ⟨g, 1, none⟩ = some (.int .i64 a) := fun p => p.kp.st.x10.ci.2.1
  have v2 : ∀ p : StP w 25 30 g gw c ⟨op, a, b, d, imm⟩ 0 0 0, p.val.cell? ⟨g, 2, none⟩ = some (.int .i64 b) := fun p => p.kp.st.x10.ci.2.2.1
  have v3 : ∀ p : StP w 25 30 g gw c ⟨op, a, b, d, imm⟩ 0 0 0, p.val.cell? ⟨g, 3, none⟩ = some (.int .i64 d) := fun p => p.kp.st.x10.ci.2.2.2.1
  have ra : ∀ p : StP w 25 30 g gw c ⟨op, a, b, d, imm⟩ 0 0 0, p.val.cell? ⟨w.heap.size, 1 + a, none⟩ = some (.int .i64 (c.r a)) := fun p => p.kp.st.x4.reg a HA.out
  have rb : ∀ p : StP w 25 30 g gw c ⟨op, a, b, d, imm⟩ 0 0 0, p.val.cell? ⟨w.heap.size, 1 + b, none⟩ = some (.int .i64 (c.r b)) := fun p => p.kp.st.x4.reg b HBb.out
  have rd : ∀ p : StP w 25 30 g gw c ⟨op, a, b, d, imm⟩ 0 0 0, p.val.cell? ⟨w.heap.size, 1 + d, none⟩ = some (.int .i64 (c.r d)) := fun p => p.kp.st.x4.reg d HDd.out
  have f4 : ∀ p : StP w 25 30 g gw c ⟨op, a, b, d, imm⟩ 0 0 0, ∀ i, p.val.frozen? ⟨w.heap.size, i, none⟩ = false := fun p => p.kp.st.x4.fr
  have q1 : ∀ p : StP w 25 30 g gw c ⟨op, a, b, d, imm⟩ 0 0 0, Calls Tryd.prog 20 #[.int .i64 op, .int .i64 (c.r b), .int .i64 (c.r d)] p.val fun e w'' => e = .returned (.int .i64 V) ∧ ∃ p' : StP w 25 30 g gw c ⟨op, a, b, d, imm⟩ 0 0 0, w'' = p'.val :=
    fun p => (hre p.val).mono fun e w'' h => ⟨h.1, ⟨w'', p.kp.kept h.2⟩, rfl⟩
  have nek : Nonempty (StP w 25 30 g gw c ⟨op, a, b, d, imm⟩ 0 0 0) := ⟨⟨W3, HS.out⟩⟩
  obtain ⟨y0, y1, y2⟩ := HS.out.x12.cw
  have s0 := HS.out.st.x10.ci.1
  clear hre
  go_upto_block 2 with fail
  go_cut [42] from 35 to 108 (fun _ wy => Hid (StW w wy 25 30 g gw C1 ⟨op, a, b, d, imm⟩ 0 0 0))
  case first =>
    go_upto_region 11 with fail
    refine wp_region_last (α := StP w 25 30 g gw c ⟨op, a, b, d, imm⟩ 0 0 0) 17 StP.val (by kernel_rfl) (by kernel_rfl) (by kernel_rfl) rfl rfl ⟨W3.drew, HR.out⟩ rfl ?_
    simp only [List.take_succ_cons, List.take_zero]
    repeat (go_big_quiet_step (first | with_reducible exact q1 _))
    refine wpQuiet_nil ?_
    rintro w' ⟨p, rfl⟩
    have HP := hd p.kp
    go_wp2_with fail
    go_meet
    case rel =>
      have h1 := HP.out.core (Oth.setCell _ _ _ _) (HP.out.st.x4.set a HA.out V) HW0.out
      rw [hC1.out] at h1
      exact hd h1
  case rest =>
    replace HS := hcut
    clear hcut v0 v1 v2 v3 ra rb rd f4 q1 nek s0 y0 y1 y2 HR
    obtain ⟨W4, rfl⟩ : ∃ W, W = wc := ⟨_, rfl⟩
    have HW := HW0
    obtain ⟨c0, c1, c2, c3, c4, c5, c6, c7, c8⟩ := HS.out.st.x4.cs
    have hnx := next_any C1 W4
    unfold coreV coreA Core.next at hnx
    simp only at hnx
    go_upto_region 26 with (go_at_call 15; refine hnx.mono ?_; rintro e w4 ⟨rfl, b4⟩; have HS := hd (HS.out.kept b4); obtain ⟨c0, c1, c2, c3, c4, c5, c6, c7, c8⟩ := HS.out.st.x4.cs; have f4 := HS.out.st.x4.fr)
    clear hnx c0 c1 c2 c3 c4 c5 c6 c7 c8
    obtain ⟨W5, hW5⟩ : ∃ W, Hid (put9 w4 w.heap.size (Core.next C1) = W) := ⟨_, rfl⟩
    have HS4 := hd (HS.out.core (put9_oth _ _ _) (HS.out.st.x4.nine (Core.next C1)) HW0.out)
    rw [hW5.out, hD.out] at HS4
    clear HS
    have HS := HS4
    clear HS4
    unfold put9 Core.next at hW5
    simp only at hW5
    rw [hW5.out]
    clear hW5
    have HN1 : ¬ gw = w.heap.size + 1 := by have := HS.out.g12; omega
    have HN2 : ¬ w.heap.size + 1 = gw := by omega
    obtain ⟨c0, c1, c2, c3, c4, c5, c6, c7, c8⟩ := HS.out.st.x4.cs
    obtain ⟨z0, z1, z2, z3, z4, z5, z6, z7, z8⟩ := HS.out.st.x8.cz
    obtain ⟨y0, y1, y2⟩ := Box.cw (k := 0) (u := 0) (v := 0) HS.out.st.x9
    obtain ⟨v0, v1, v2⟩ := HS.out.x12.cw
    have f8 := HS.out.st.x8.fr
    have f9 := HS.out.st.x9.fr
    have HE := hd (HS.out.st.ends D 0 0 0)
    clear HS
    go_region
    go_wp2
    unfold put9 put3 at HE
    try rw [Exit.noGoto_ret]
    clear c0 c1 c2 c3 c4 c5 c6 c7 c8 z0 z1 z2 z3 z4 z5 z6 z7 z8 y0 y1 y2 v0 v1 v2 f8 f9 HN1 HN2
    obtain ⟨R8, R9, RB⟩ := HE.out
    obtain ⟨c0, c1, c2, c3, c4, c5, c6, c7, c8⟩ := R8.cs
    obtain ⟨y0, y1, y2⟩ := R9.cw
    refine bodyPost_ret ?_ rfl ⟨rfl, RB.drew⟩
    clear R8 R9 RB
    generalize World.setCell _ _ _ = Wf at *
    simp [results, Tryd.results7, go_sem, c0, c1, c2, c3, c4, c5, c6, c7, c8, y0, y1, y2]
end Go.Proofs.YtfkdaimhdjaefaaDoor
