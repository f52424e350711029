/- CodeChecks. -/
import Derived.Test.YtngihjmhedkanaaDoorW18
import Derived.Deep.CutRange
import Derived.Deep.RegionWith
namespace Go.Proofs.YtngihjmhedkanaaDoor
open Go.RowKit

/-- What stays through the calls: the instruction that came in, its copy. -/
structure Kp (w : World) (x : Ins) (yb : Nat) (y : Ins) (W : World) : Prop where
  below : Below w.heap.size w W
  atx : InsAt W w.heap.size 0 x
  aty : InsAt W yb 0 y

theorem Kp.step {w : World} {x : Ins} {yb : Nat} {y : Ins} {W W' : World} (h : Kp w x yb y W) (hb : Below W.heap.size W W') : Kp w x yb y W' :=
  ⟨h.below.trans (hb.mono h.below.size), h.atx.kept hb, h.aty.kept hb⟩
theorem Kp.drew {w : World} {x : Ins} {yb : Nat} {y : Ins} {W : World} (h : Kp w x yb y W) : Kp w x yb y W.drew := h.step (Below.refl _ _).drew

/-- A world in which they stay. -/
structure KW (w : World) (x : Ins) where
  val : World
  kp : Kp w x w.heap.size x val

/-- A region that draws its order and whose calls leave worlds of a family: one walk, in the order of the text. -/
theorem wp_region_family {P : Program} {id : Nat} {Q : Exit → Act → World → Prop} {a : Act} {w : World} {l : List Oper} {α : Type} (f : α → World) (hm : P.follows .mixedOrders = true) (hB : Region.lexB .any l.toArray = true)
    (p0 : α) (h0 : f p0 = w.drew) (h : wpQuiet P l.toArray (fun w' => ∃ p, w' = f p) (fun a' => ∀ w', (∃ p, w' = f p) → Q .normal a' w') l a) : (Code.region id l.toArray true).wp P Q a w :=
  wp_region_quiet (C := fun w' => ∃ p, w' = f p) hm hB ⟨p0, h0.symm⟩ (by simpa using h)

set_option maxRecDepth 100000 in
set_option maxHeartbeats 8000000 in
theorem codeChecks_walk (x : Ins) (n k op : Int) (w : World) (hF : Fld w) :
    Calls Tryd.prog 4 #[insV x, .int .i64 n, .int .i64 k, .int .i64 op] w fun e w' => e = .returned (.bool true) ∧ Below w.heap.size w w' := by
  have HF : Hid (Fld w) := hF
  have haw : ∀ W, Below w.heap.size w W → _ := fun W hb => awake_any W (HF.out.kept hb)
  clear hF
  unfold insV
  go_enter Tryd.func4, Tryd.ntmps4
  go_wp2_with fail
  have b0 : Below w.heap.size w (w.alloc (.cells #[.int .i64 x.op, .int .i64 x.a, .int .i64 x.b, .int .i64 x.c, .int .i64 x.imm] 25)) := (Below.refl _ _).alloc (Nat.le_refl _) _
  refine (haw _ b0).mono ?_
  rintro e w1 ⟨rfl, b1⟩
  have bw1 := b0.trans (b1.mono b0.size)
  have hx1 : InsAt w1 w.heap.size 0 x := InsAt.kept (w := w.alloc (.cells #[.int .i64 x.op, .int .i64 x.a, .int .i64 x.b, .int .i64 x.c, .int .i64 x.imm] 25)) ⟨by simp, by simp, by simp, by simp, by simp⟩ b1
  clear haw b0 b1
  go_wp2_with fail
  go_loopw [9, 10, 11, 12, 13, 14, 15, 16, 17, 18] (fun v9 _ _ _ _ _ _ _ _ _ wr => ∃ q : Int, v9 = .int .i64 q ∧ -1 ≤ q ∧ q ≤ 36 ∧ Below w.heap.size w wr ∧ InsAt wr w.heap.size 0 x) (fun v9 _ _ _ _ _ _ _ _ _ _ => (36 - intOf v9).toNat)
  case atStart => exact ⟨-1, rfl, by omega, by omega, bw1, hx1⟩
  case round =>
    obtain ⟨q, rfl, hq1, hq2, hbr, hxr⟩ := hrel
    clear bw1 hx1
    by_cases hlt : q ≤ 35
    · have h1 := fields_any q wr (HF.out.kept hbr)
      have h2 := rfields_any q wr
      have hc1 : ∀ yb W, Kp w x yb ⟨q, x.a, x.b, x.c, x.imm⟩ W → Calls Tryd.prog 12 #[insV ⟨q, x.a, x.b, x.c, x.imm⟩, .int .i64 n, .int .i64 k] W fun e w' => e = .returned (.int .i64 (wrong ⟨q, x.a, x.b, x.c, x.imm⟩ n k).1) ∧ Kp w x yb ⟨q, x.a, x.b, x.c, x.imm⟩ w' := fun yb W h =>
        (check_any _ n k W (HF.out.kept h.below)).mono fun e w' he => ⟨he.1, h.step he.2⟩
      have hc2 : ∀ yb W, Kp w x yb ⟨q, x.a, x.b, x.c, x.imm⟩ W → Calls Tryd.prog 13 #[insV ⟨q, x.a, x.b, x.c, x.imm⟩, .int .i64 n, .int .i64 k] W fun e w' => e = .returned (.int .i64 (wrong ⟨q, x.a, x.b, x.c, x.imm⟩ n k).1) ∧ Kp w x yb ⟨q, x.a, x.b, x.c, x.imm⟩ w' := fun yb W h =>
        (rcheck_any _ n k W).mono fun e w' he => ⟨he.1, h.step he.2⟩
      generalize (wrong ⟨q, x.a, x.b, x.c, x.imm⟩ n k).1 = E at hc1 hc2
      generalize hA q = A at h1 h2
      generalize hB q = B at h1 h2
      generalize hC q = C at h1 h2
      generalize hI q = I at h1 h2
      unfold insV at hc1 hc2
      obtain ⟨x0, x1, x2, x3, x4⟩ := hxr
      have hxr : InsAt wr w.heap.size 0 x := ⟨x0, x1, x2, x3, x4⟩
      have HXR : Hid _ := hxr
      clear hxr
      simp only [Nat.zero_add] at x1 x2 x3 x4
      go_wp2_with fail
      refine h1.mono ?_
      rintro e wr1 ⟨rfl, rfl⟩
      go_wp2_with fail
      refine h2.mono ?_
      rintro e wr2 ⟨rfl, rfl⟩
      clear h1 h2
      go_upto_region 12 with fail
      obtain ⟨W, hW⟩ : ∃ W, Hid (W = wr2.alloc (.cells #[.int .i64 q, .int .i64 x.a, .int .i64 x.b, .int .i64 x.c, .int .i64 x.imm] 25)) := ⟨_, rfl⟩
      obtain ⟨yb, hyb⟩ : ∃ b, Hid (b = wr2.heap.size) := ⟨_, rfl⟩
      have hba : Below wr2.heap.size wr2 W := by rw [hW.out]; exact (Below.refl _ _).alloc (Nat.le_refl _) _
      have hk : Kp w x yb ⟨q, x.a, x.b, x.c, x.imm⟩ W := ⟨hbr.trans (hba.mono hbr.size), HXR.out.kept hba, by rw [hW.out, hyb.out]; exact ⟨by simp, by simp, by simp, by simp, by simp⟩⟩
      rw [← hW.out, ← hyb.out]
      have hc1 := hc1 yb
      have hc2 := hc2 yb
      have y0 : W.cell? ⟨yb, 0, none⟩ = some (.int .i64 q) := hk.aty.c0
      have y1 : W.cell? ⟨yb, 1, none⟩ = some (.int .i64 x.a) := hk.aty.c1
      have y2 : W.cell? ⟨yb, 2, none⟩ = some (.int .i64 x.b) := hk.aty.c2
      have y3 : W.cell? ⟨yb, 3, none⟩ = some (.int .i64 x.c) := hk.aty.c3
      have y4 : W.cell? ⟨yb, 4, none⟩ = some (.int .i64 x.imm) := hk.aty.c4
      clear hW hyb hba hbr HXR x0 x1 x2 x3 x4
      go_cut [71, 75, 76] from 68 to 76 (fun _ _ v76 wx => v76 = .bool false ∧ Kp w x yb ⟨q, x.a, x.b, x.c, x.imm⟩ wx)
      case first =>
        go_region_with (first
          | (go_at_call 12; refine (hc1 _ ?_).mono ?_; (first | exact hk.drew | exact hk); rintro e wz ⟨rfl, hkz⟩; have z0 : wz.cell? ⟨yb, 0, none⟩ = some (.int .i64 q) := hkz.aty.c0; have z1 : wz.cell? ⟨yb, 1, none⟩ = some (.int .i64 x.a) := hkz.aty.c1; have z2 : wz.cell? ⟨yb, 2, none⟩ = some (.int .i64 x.b) := hkz.aty.c2; have z3 : wz.cell? ⟨yb, 3, none⟩ = some (.int .i64 x.c) := hkz.aty.c3; have z4 : wz.cell? ⟨yb, 4, none⟩ = some (.int .i64 x.imm) := hkz.aty.c4)
          | (go_at_call 13; refine (hc2 _ ?_).mono ?_; (first | exact hkz | exact hkz.drew); rintro e wy ⟨rfl, hky⟩))
        all_goals (go_wp2_with fail; go_meet; exact ⟨rfl, hky⟩)
      case rest =>
        obtain ⟨rfl, hkc⟩ := hcut
        clear hk y0 y1 y2 y3 y4 hc1 hc2
        go_wp2_with fail
        go_roundw
        case rel => exact ⟨q + 1, by go_num, by omega, by omega, hkc.below, hkc.atx⟩
        case measure => simp [intOf]; omega
    · have hge : decide (q ≤ 35) = false := by simpa using hlt
      have h1 := fields_any op wr (HF.out.kept hbr)
      have h2 := rfields_any op wr
      have hc1 : ∀ W, Kp w x w.heap.size x W → Calls Tryd.prog 12 #[insV x, .int .i64 n, .int .i64 k] W fun e w' => e = .returned (.int .i64 (wrong x n k).1) ∧ Kp w x w.heap.size x w' := fun W h =>
        (check_any _ n k W (HF.out.kept h.below)).mono fun e w' he => ⟨he.1, h.step he.2⟩
      have hc2 : ∀ W, Kp w x w.heap.size x W → Calls Tryd.prog 13 #[insV x, .int .i64 n, .int .i64 k] W fun e w' => e = .returned (.int .i64 (wrong x n k).1) ∧ Kp w x w.heap.size x w' := fun W h =>
        (rcheck_any _ n k W).mono fun e w' he => ⟨he.1, h.step he.2⟩
      generalize (wrong x n k).1 = E at hc1 hc2
      generalize hA op = A at h1 h2
      generalize hB op = B at h1 h2
      generalize hC op = C at h1 h2
      generalize hI op = I at h1 h2
      unfold insV at hc1 hc2
      have hk : Kp w x w.heap.size x wr := ⟨hbr, hxr, hxr⟩
      go_wp2_with fail
      refine h1.mono ?_
      rintro e wr1 ⟨rfl, rfl⟩
      go_wp2_with fail
      refine h2.mono ?_
      rintro e wr2 ⟨rfl, rfl⟩
      clear h1 h2 hbr hxr HF
      go_upto_region 16 with fail
      have nek : Nonempty (KW w x) := ⟨⟨wr2, hk⟩⟩
      have y0 : ∀ p : KW w x, p.val.cell? ⟨w.heap.size, 0, none⟩ = some (.int .i64 x.op) := fun p => p.kp.aty.c0
      have y1 : ∀ p : KW w x, p.val.cell? ⟨w.heap.size, 1, none⟩ = some (.int .i64 x.a) := fun p => p.kp.aty.c1
      have y2 : ∀ p : KW w x, p.val.cell? ⟨w.heap.size, 2, none⟩ = some (.int .i64 x.b) := fun p => p.kp.aty.c2
      have y3 : ∀ p : KW w x, p.val.cell? ⟨w.heap.size, 3, none⟩ = some (.int .i64 x.c) := fun p => p.kp.aty.c3
      have y4 : ∀ p : KW w x, p.val.cell? ⟨w.heap.size, 4, none⟩ = some (.int .i64 x.imm) := fun p => p.kp.aty.c4
      have q1 : ∀ p : KW w x, Calls Tryd.prog 12 #[.agg #[.int .i64 x.op, .int .i64 x.a, .int .i64 x.b, .int .i64 x.c, .int .i64 x.imm], .int .i64 n, .int .i64 k] p.val fun e w'' => e = .returned (.int .i64 E) ∧ ∃ p' : KW w x, w'' = p'.val := fun p => (hc1 p.val p.kp).mono fun e w'' h => ⟨h.1, ⟨w'', h.2⟩, rfl⟩
      have q2 : ∀ p : KW w x, Calls Tryd.prog 13 #[.agg #[.int .i64 x.op, .int .i64 x.a, .int .i64 x.b, .int .i64 x.c, .int .i64 x.imm], .int .i64 n, .int .i64 k] p.val fun e w'' => e = .returned (.int .i64 E) ∧ ∃ p' : KW w x, w'' = p'.val := fun p => (hc2 p.val p.kp).mono fun e w'' h => ⟨h.1, ⟨w'', h.2⟩, rfl⟩
      clear hc1 hc2
      refine wp_region_family (α := KW w x) KW.val (by kernel_rfl) (by kernel_rfl) ⟨wr2.drew, hk.drew⟩ rfl ?_
      repeat (go_big_quiet_step (first | with_reducible exact q1 _ | with_reducible exact q2 _))
      refine wpQuiet_nil ?_
      rintro w' ⟨p, rfl⟩
      go_wp2_with fail
      go_ret
      exact ⟨rfl, p.kp.below⟩
end Go.Proofs.YtngihjmhedkanaaDoor
