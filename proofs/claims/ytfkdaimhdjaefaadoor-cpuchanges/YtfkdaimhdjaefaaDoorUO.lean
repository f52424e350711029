/- CpuChanges. -/
import Derived.Test.YtfkdaimhdjaefaaDoorUN
import Derived.Deep.LoopGhost
namespace Go.Proofs.YtfkdaimhdjaefaaDoor
open Go.RowKit

/-- The boxes of the statement: the core, what came of it, what is wanted. -/
structure StC (w W : World) (g : Nat) (c d : Core) (k u v : Int) (ad : Option Addr) (l : List Ins) : Prop where
  x4 : Box W 25 w.heap.size (coreA c)
  x9 : Box W 25 g (coreA d)
  x10 : Box W 30 (g + 1) (wantA k u v)
  prg : Prg W ad l
  bel : Below w.heap.size w W
theorem StC.kept {w W W' : World} {g : Nat} {c d : Core} {k u v : Int} {ad : Option Addr} {l : List Ins} (h : StC w W g c d k u v ad l) (hb : Below W.heap.size W W') : StC w W' g c d k u v ad l :=
  ⟨h.x4.bel hb, h.x9.bel hb, h.x10.bel hb, h.prg.kept hb, h.bel.trans (hb.mono h.bel.size)⟩

set_option maxRecDepth 100000 in
set_option maxHeartbeats 4000000 in
theorem cpuChanges_walk (c : Core) (ad : Option Addr) (l : List Ins) (cap : Nat) (tick self : Int) (w : World) (hP : Prg w ad l) (hF : Fld w) :
    Calls Tryd.prog 5 #[coreV c, .slice ad l.length cap, .int .i64 tick, .int .i64 self] w fun e w' => e = .returned (.bool true) ∧ Below w.heap.size w w' := by
  have hb0 := below_al' w (.cells (coreA c) 25)
  have haw := awake_any _ (hF.kept hb0)
  have HW := hd (step_wants c l tick self)
  have HQ := hd (step_plain c l tick self)
  have hst := fun W hP hF => step_any c ad l cap tick self W hP hF
  obtain ⟨D, hD⟩ : ∃ D, Hid ((stepL c l tick self).1 = D) := ⟨_, rfl⟩
  obtain ⟨K, U, V, hK⟩ : ∃ K U V, Hid ((stepL c l tick self).2 = (K, U, V)) := ⟨_, _, _, rfl⟩
  rw [hD.out, hK.out] at HW HQ
  rw [hD.out, hK.out] at hst
  clear hD hK
  have HX := hd (Box.new w 25 (coreA c))
  have HP := hd (hP.kept hb0)
  have HF := hd (hF.kept hb0)
  have HB := hd hb0
  clear hP hF hb0
  unfold wantT wantV wantA at hst
  simp only at hst
  unfold coreV at *
  unfold coreA at *
  go_enter Tryd.func5, Tryd.ntmps5
  go_upto_region 3 with (go_at_call 6; refine haw.mono ?_; rintro e w1 ⟨rfl, b1⟩)
  clear haw
  replace HX := hd (HX.out.bel b1)
  replace HP := hd (HP.out.kept b1)
  replace HF := hd (HF.out.kept b1)
  replace HB := hd (HB.out.trans (b1.mono HB.out.size))
  clear b1
  obtain ⟨c0, c1, c2, c3, c4, c5, c6, c7, c8⟩ := Box.cs HX.out
  replace hst := hst w1 HP.out HF.out
  go_upto_region 4 with (go_at_call 7; refine hst.mono ?_; rintro e w2 ⟨rfl, b2⟩)
  clear hst c0 c1 c2 c3 c4 c5 c6 c7 c8
  have HS : Hid (StC w ((w2.alloc (.cells (coreA D) 25)).alloc (.cells (wantA K U V) 30)) w2.heap.size c D K U V ad l) := hd (by
    have b3 := two_bel w2 (.cells (coreA D) 25) (.cells (wantA K U V) 30)
    exact ⟨(HX.out.bel b2).bel b3, (Box.new w2 _ _).bel (below_al' _ _), Box.next _ _ _, (HP.out.kept b2).kept b3, (HB.out.trans (b2.mono HB.out.size)).trans (b3.mono (HB.out.trans (b2.mono HB.out.size)).size)⟩)
  clear HX HP HF HB b2
  unfold coreA wantA at HS
  obtain ⟨g, hg⟩ : ∃ g, Hid (w2.heap.size = g) := ⟨_, rfl⟩
  obtain ⟨W, hW⟩ : ∃ W, Hid ((w2.alloc (.cells #[.int .i64 D.pc, .int .i64 (D.r 0), .int .i64 (D.r 1), .int .i64 (D.r 2), .int .i64 (D.r 3), .int .i64 (D.r 4), .int .i64 (D.r 5), .int .i64 (D.r 6), .int .i64 (D.r 7)] 25)).alloc (.cells #[.int .i64 K, .int .i64 U, .int .i64 V] 30) = W) := ⟨_, rfl⟩
  rw [hW.out] at HS ⊢
  rw [hg.out] at HS ⊢
  clear hW hg
  go_wp2_with fail
  go_loopg [11, 12] 8 (fun gk v11 v12 wr => ∃ j : Nat, j + gk = 8 ∧ v11 = .int .i64 (dif c D j : Nat) ∧ v12 = .int .i64 j ∧ ∃ m, wr = W.drewN m)
  case atStart => exact ⟨0, rfl, rfl, rfl, 0, rfl⟩
  case round =>
    obtain ⟨j, hj, rfl, rfl, m, rfl⟩ := hrel
    have hle := dif_le c D j
    by_cases hlt : j < 8
    · have hlt' : (j : Int) < 8 := by omega
      have ra := HS.out.x4.reg j hlt
      have rb := HS.out.x9.reg j hlt
      have HD : Hid (dif c D (j + 1) = dif c D j + (if c.r j = D.r j then 0 else 1)) := rfl
      obtain ⟨N, hN⟩ : ∃ N, Hid (dif c D j = N) := ⟨_, rfl⟩
      rw [hN.out] at hle HD ⊢
      clear hN
      have hle' : N ≤ 8 := by omega
      by_cases he : c.r j = D.r j
      · have e1 : (c.r j == D.r j) = true := by simpa using he
        rw [if_pos he] at HD
        clear he
        go_wp2_with fail
        go_quiet (fail)
        go_wp2
        go_roundg (gk - 1)
        case measure => omega
        case rel => exact ⟨j + 1, by omega, by rw [HD.out]; rfl, by go_num, _, rfl⟩
      · have e1 : (c.r j == D.r j) = false := by simpa using he
        rw [if_neg he] at HD
        clear he
        go_wp2_with fail
        go_quiet (fail)
        go_wp2
        go_roundg (gk - 1)
        case measure => omega
        case rel => exact ⟨j + 1, by omega, by rw [HD.out]; go_num, by go_num, _, rfl⟩
    · have hltd : decide ((j : Int) < 8) = false := decide_eq_false (by omega)
      have h8 : Hid (j = 8) := hd (by omega)
      obtain ⟨N, hN⟩ : ∃ N, Hid (dif c D j = N) := ⟨_, rfl⟩
      rw [h8.out] at hN
      have hN' : Hid (dif c D j = N) := by rw [h8.out]; exact hN
      rw [hN'.out] at hle ⊢
      clear hN'
      have hle' : N ≤ 8 := by have := h8.out; omega
      clear hle hj hlt
      have HB := hd (below_drewN HS.out.bel m)
      obtain ⟨y0, y1, y2⟩ := HS.out.x10.cw
      have p4 := HS.out.x4.pc
      have p9 := HS.out.x9.pc
      by_cases hk : K = 0
      · have ek : (K == 0) = true := by simpa using hk
        obtain ⟨hin, hcase⟩ := HQ.out hk
        clear hk HW HQ
        obtain ⟨p, hp⟩ : ∃ p : Nat, c.pc = p := ⟨c.pc.toNat, by omega⟩
        rw [show c.pc.toNat = p by omega] at hcase
        have hlt : p < l.length := by omega
        have d1 : decide ((p : Int) < 0) = false := decide_eq_false (by omega)
        have d2 : decide ((l.length : Int) ≤ (p : Int)) = false := decide_eq_false (by omega)
        have hlt' : (p : Int) < (l.length : Int) := by omega
        rw [hp] at p4 hcase
        obtain ⟨b, off, rfl, hx⟩ := HS.out.prg p hlt
        have k0 := hx.c0
        have k4 := hx.c4
        generalize l.getD p default = x at *
        obtain ⟨LL, hLL⟩ : ∃ n, Hid (l.length = n) := ⟨_, rfl⟩
        rw [hLL.out] at d2 hlt' ⊢
        clear hx hin hp hlt HS hLL
        have n1 : N ≤ 1 := by
          rcases hcase with ⟨⟨a, q⟩, _⟩ | ⟨q, _⟩
          · have := dif_one q 8
            rw [hN.out] at this
            split at this <;> omega
          · have := dif_none q 8
            rw [hN.out] at this
            omega
        have n1' : (N : Int) ≤ 1 := by omega
        by_cases e6 : D.pc = wrap64 ((p : Int) + 1)
        · have e7 : (D.pc == wrap64 ((p : Int) + 1)) = true := by simpa using e6
          clear e6 hcase
          by_cases o1 : x.op = 22
          · have o1' : (x.op == 22) = true := by simpa using o1
            clear o1
            go_upto_region 15 with fail
            go_quiet (fail)
            go_wp2
            go_ret
            exact ⟨rfl, below_drewN HB.out _⟩
          · have o1' : (x.op == 22) = false := by simpa using o1
            by_cases o2 : x.op = 23
            · have o2' : (x.op == 23) = true := by simpa using o2
              clear o1 o2
              go_upto_region 15 with fail
              go_quiet (fail)
              go_wp2
              go_ret
              exact ⟨rfl, below_drewN HB.out _⟩
            · have o2' : (x.op == 23) = false := by simpa using o2
              clear o1 o2
              go_upto_region 15 with fail
              go_quiet (fail)
              go_wp2
              go_ret
              exact ⟨rfl, below_drewN HB.out _⟩
        · have e7 : (D.pc == wrap64 ((p : Int) + 1)) = false := by simpa using e6
          obtain ⟨q1, q2, q3⟩ : D.r = c.r ∧ (x.op = 22 ∨ x.op = 23) ∧ D.pc = x.imm := by
            rcases hcase with ⟨_, q⟩ | q
            · exact absurd q e6
            · exact q
          have eN : Hid (N = 0) := hd (by rw [← hN.out]; exact dif_none q1 8)
          have eN' : ((N : Int) == 0) = true := by have := eN.out; simp; omega
          have e8 : (D.pc == x.imm) = true := by simpa using q3
          clear e6 hcase q1 q3
          rcases q2 with o1 | o2
          · have o1' : (x.op == 22) = true := by simpa using o1
            clear o1
            go_upto_region 15 with fail
            go_quiet (fail)
            go_wp2
            go_ret
            exact ⟨rfl, below_drewN HB.out _⟩
          · have o1' : (x.op == 22) = false := by simp [o2]
            have o2' : (x.op == 23) = true := by simpa using o2
            clear o2
            go_upto_region 15 with fail
            go_quiet (fail)
            go_wp2
            go_ret
            exact ⟨rfl, below_drewN HB.out _⟩
      · have ek : (K == 0) = false := by simpa using hk
        obtain ⟨q1, q2⟩ := HW.out hk
        have eN : Hid (N = 0) := hd (by rw [← hN.out]; exact dif_none q1 8)
        have eN' : ((N : Int) == 0) = true := by have := eN.out; simp; omega
        clear q1 hk HW HQ
        by_cases e4 : D.pc = c.pc
        · have e5 : (D.pc == c.pc) = true := by simpa using e4
          clear e4 q2
          go_wp2
          go_ret
          exact ⟨rfl, HB.out⟩
        · have e5 : (D.pc == c.pc) = false := by simpa using e4
          have e6 : (D.pc == wrap64 (c.pc + 1)) = true := by rcases q2 with q | q; exact absurd q e4; simpa using q
          clear e4 q2
          go_wp2
          go_ret
          exact ⟨rfl, HB.out⟩
end Go.Proofs.YtfkdaimhdjaefaaDoor
