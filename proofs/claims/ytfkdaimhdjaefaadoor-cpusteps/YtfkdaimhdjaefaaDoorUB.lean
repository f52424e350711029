/- Step, of any core and code. -/
import Derived.Test.YtfkdaimhdjaefaaDoorU9
import Derived.Test.YtfkdaimhdjaefaaDoorUA
namespace Go.Proofs.YtfkdaimhdjaefaaDoor
open Go.RowKit

set_option maxRecDepth 100000 in
set_option maxHeartbeats 1000000 in
theorem step_out (c : Core) (a : Option Addr) (n cap : Nat) (tick self : Int) (hout : ¬ (0 ≤ c.pc ∧ c.pc < n)) (w : World) (hF : Fld w) :
    Calls Tryd.prog 7 #[coreV c, .slice a n cap, .int .i64 tick, .int .i64 self] w fun e w' => e = .returned (.tuple #[coreV c, wantV 1 0 0]) ∧ Below w.heap.size w w' := by
  have hcur := current_no c a n cap hout (((w.alloc (.cells (coreA c) 25)).alloc (.cells zeroC 25)).alloc (.cells zeroW 30))
  have HS := hd (fun w1 => StB.mk' (w1 := w1) (tc := 25) (tw := 30) (c := c) ⟨0, 0, 0, 0, 0⟩ hF)
  clear hout hF
  unfold coreV wantV wantA
  unfold noIns at *
  unfold coreV at hcur
  unfold coreA zeroC zeroW at *
  go_enter Tryd.func7, Tryd.ntmps7
  go_wp2_with fail
  go_step3
  go_upto_region 2 with (first | (go_at_call 17; refine hcur.mono ?_; rintro e w1 ⟨rfl, b1⟩))
  replace HS := hd (HS.out w1 b1)
  clear hcur b1
  unfold insA at HS
  simp only at HS
  obtain ⟨g, hg⟩ : ∃ g, Hid (w1.heap.size = g) := ⟨_, rfl⟩
  obtain ⟨W1, hW1⟩ : ∃ W, Hid (w1.alloc (.cells #[.int .i64 0, .int .i64 0, .int .i64 0, .int .i64 0, .int .i64 0] 28) = W) := ⟨_, rfl⟩
  rw [hW1.out] at HS ⊢
  rw [hg.out] at HS ⊢
  clear hW1 hg
  obtain ⟨c0, c1, c2, c3, c4, c5, c6, c7, c8⟩ := HS.out.x4.cs
  obtain ⟨z0, z1, z2, z3, z4, z5, z6, z7, z8⟩ := HS.out.x8.cz
  obtain ⟨y0, y1, y2⟩ := Box.cw (k := 0) (u := 0) (v := 0) HS.out.x9
  have f8 := HS.out.x8.fr
  have f9 := HS.out.x9.fr
  have HE := hd (HS.out.ends c 1 0 0)
  clear HS
  go_wp2
  unfold put9 put3 at HE
  rw [Exit.noGoto_ret]
  clear c0 c1 c2 c3 c4 c5 c6 c7 c8 z0 z1 z2 z3 z4 z5 z6 z7 z8 y0 y1 y2 f8 f9
  obtain ⟨R8, R9, RB⟩ := HE.out
  obtain ⟨c0, c1, c2, c3, c4, c5, c6, c7, c8⟩ := R8.cs
  obtain ⟨y0, y1, y2⟩ := R9.cw
  refine bodyPost_ret ?_ rfl ⟨rfl, RB⟩
  clear R8 R9 RB
  generalize World.setCell _ _ _ = Wf at *
  simp [results, Tryd.results7, go_sem, c0, c1, c2, c3, c4, c5, c6, c7, c8, y0, y1, y2]

/-- What an instruction that wants nothing makes of a core. -/
def doL (c : Core) (op : Int) (a b d : Nat) (imm tick self : Int) : Core :=
  if op = 1 then (c.set a imm).next else
  if op = 2 then (c.set a (c.r b)).next else
  if op = 22 then Core.mk imm c.r else
  if op = 23 then (if c.r a = 0 then c.next else Core.mk imm c.r) else
  if op = 32 then (c.set a tick).next else
  if op = 33 then (c.set a self).next else (c.set a (reckL op (c.r b) (c.r d))).next

/-- Step: the core, and what is wanted. -/
def stepI (c : Core) (op : Int) (a b d : Nat) (imm tick self : Int) : Core × (Int × Int × Int) :=
  (if (wantL c op a b d imm).1 = 0 then doL c op a b d imm tick self else
   if (wantL c op a b d imm).1 = 5 ∨ (wantL c op a b d imm).1 = 8 ∨ (wantL c op a b d imm).1 = 9 then c.next else c, wantL c op a b d imm)

def stepL (c : Core) (l : List Ins) (tick self : Int) : Core × (Int × Int × Int) :=
  if 0 ≤ c.pc ∧ c.pc < l.length then
    if (wrong (l.getD c.pc.toNat default) l.length 8).1 = 0 then
      stepI c (l.getD c.pc.toNat default).op (l.getD c.pc.toNat default).a.toNat (l.getD c.pc.toNat default).b.toNat (l.getD c.pc.toNat default).c.toNat (l.getD c.pc.toNat default).imm tick self
    else (c, (1, 0, 0))
  else (c, (1, 0, 0))

/-- An instruction that may stand there: its registers, as places. -/
theorem ins_form {x : Ins} {n : Int} (h : (wrong x n 8).1 = 0) : x = ⟨x.op, (x.a.toNat : Int), (x.b.toNat : Int), (x.c.toNat : Int), x.imm⟩ ∧ x.a.toNat < 8 ∧ x.b.toNat < 8 ∧ x.c.toNat < 8 ∧ 0 ≤ x.op ∧ x.op < 34 := by
  obtain ⟨h1, h2, h3, h4, h5, _⟩ := wrong_ok h
  have a1 := regE_ok h3
  have a2 := regE_ok h4
  have a3 := regE_ok h5
  obtain ⟨op, a, b, c, imm⟩ := x
  simp only at *
  refine ⟨?_, by omega, by omega, by omega, h1, h2⟩
  rw [Int.toNat_of_nonneg a1.1, Int.toNat_of_nonneg a2.1, Int.toNat_of_nonneg a3.1]

theorem want_zero {c : Core} {op a b d imm : Int} (h : (wantL c op a b d imm).1 = 0) : wantL c op a b d imm = (0, 0, 0) ∧ op ≠ 0 ∧ (op < 24 ∨ 31 < op) := by
  unfold wantL at *
  by_cases h0 : op = 0
  · rw [if_pos h0] at h; simp at h
  rw [if_neg h0] at h ⊢
  by_cases h1 : op = 24
  · rw [if_pos h1] at h; simp at h
  rw [if_neg h1] at h ⊢
  by_cases h2 : op = 25
  · rw [if_pos h2] at h; simp at h
  rw [if_neg h2] at h ⊢
  by_cases h3 : op = 26
  · rw [if_pos h3] at h; simp at h
  rw [if_neg h3] at h ⊢
  by_cases h4 : op = 27
  · rw [if_pos h4] at h; simp at h
  rw [if_neg h4] at h ⊢
  by_cases h5 : op = 28
  · rw [if_pos h5] at h; simp at h
  rw [if_neg h5] at h ⊢
  by_cases h6 : op = 29
  · rw [if_pos h6] at h; simp at h
  rw [if_neg h6] at h ⊢
  by_cases h7 : op = 30
  · rw [if_pos h7] at h; simp at h
  rw [if_neg h7] at h ⊢
  by_cases h8 : op = 31
  · rw [if_pos h8] at h; simp at h
  rw [if_neg h8]
  exact ⟨rfl, h0, by omega⟩

theorem step_any (c : Core) (ad : Option Addr) (l : List Ins) (cap : Nat) (tick self : Int) (w : World) (hP : Prg w ad l) (hF : Fld w) :
    Calls Tryd.prog 7 #[coreV c, .slice ad l.length cap, .int .i64 tick, .int .i64 self] w fun e w' => e = .returned (.tuple #[coreV (stepL c l tick self).1, wantT (stepL c l tick self).2]) ∧ Below w.heap.size w w' := by
  unfold stepL
  by_cases h1 : 0 ≤ c.pc ∧ c.pc < l.length
  · rw [if_pos h1]
    obtain ⟨p, hp⟩ : ∃ p : Nat, c.pc = p := ⟨c.pc.toNat, by omega⟩
    have hlt : p < l.length := by omega
    have ep : c.pc.toNat = p := by omega
    rw [ep]
    by_cases h2 : (wrong (l.getD p default) l.length 8).1 = 0
    · rw [if_pos h2]
      obtain ⟨hx, ha, hb, hd', ho1, ho2⟩ := ins_form h2
      generalize (l.getD p default).a.toNat = a at *
      generalize (l.getD p default).b.toNat = b at *
      generalize (l.getD p default).c.toNat = d at *
      generalize (l.getD p default).op = op at *
      generalize (l.getD p default).imm = imm at *
      unfold stepI
      by_cases h3 : (wantL c op a b d imm).1 = 0
      · rw [if_pos h3]
        obtain ⟨hw, hn0, hn1⟩ := want_zero h3
        simp only [hw]
        unfold doL
        by_cases o1 : op = 1
        · rw [if_pos o1]; exact step_set c ad l cap p tick self hp hlt w hP hF op imm a b d ha hb hd' hx h2 hw o1
        rw [if_neg o1]
        by_cases o2 : op = 2
        · rw [if_pos o2]; exact step_move c ad l cap p tick self hp hlt w hP hF op imm a b d ha hb hd' hx h2 hw o2
        rw [if_neg o2]
        by_cases o3 : op = 22
        · rw [if_pos o3]; exact step_jump c ad l cap p tick self hp hlt w hP hF op imm a b d ha hb hd' hx h2 hw o3
        rw [if_neg o3]
        by_cases o4 : op = 23
        · rw [if_pos o4]
          by_cases hr : c.r a = 0
          · rw [if_pos hr]; exact step_else c ad l cap p tick self hp hlt w hP hF op imm a b d ha hb hd' hx h2 hw o4 (by simpa using hr)
          · rw [if_neg hr]; exact step_if c ad l cap p tick self hp hlt w hP hF op imm a b d ha hb hd' hx h2 hw o4 hr
        rw [if_neg o4]
        by_cases o5 : op = 32
        · rw [if_pos o5]; exact step_now c ad l cap p tick self hp hlt w hP hF op imm a b d ha hb hd' hx h2 hw o5
        rw [if_neg o5]
        by_cases o6 : op = 33
        · rw [if_pos o6]; exact step_self c ad l cap p tick self hp hlt w hP hF op imm a b d ha hb hd' hx h2 hw o6
        rw [if_neg o6]
        exact step_reck c ad l cap p tick self hp hlt w hP hF op imm a b d ha hb hd' hx h2 hw (by omega) (by omega)
      · rw [if_neg h3]
        by_cases h4 : (wantL c op a b d imm).1 = 5 ∨ (wantL c op a b d imm).1 = 8 ∨ (wantL c op a b d imm).1 = 9
        · rw [if_pos h4]
          exact step_next c ad l cap p tick self hp hlt w hP hF op imm a b d ha hb hd' hx h2 _ _ _ rfl h4
        · rw [if_neg h4]
          exact step_hold c ad l cap p tick self hp hlt w hP hF op imm a b d ha hb hd' hx h2 _ _ _ rfl (by simpa using h3) (by simp; omega) (by simp; omega) (by simp; omega)
    · rw [if_neg h2]
      exact step_bad c ad l cap p tick self hp hlt w hP hF h2
  · rw [if_neg h1]
    exact step_out c ad l.length cap tick self h1 w hF
end Go.Proofs.YtfkdaimhdjaefaaDoor
