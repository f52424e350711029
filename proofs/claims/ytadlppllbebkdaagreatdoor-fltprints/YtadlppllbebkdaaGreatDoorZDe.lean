/- floatBits: the main road. -/
import Derived.Test.YtadlppllbebkdaaGreatDoorZDd
namespace Go.Proofs.YtadlppllbebkdaaGreatDoor
open Go.RowKit

/-- The point and the first digit, as the world has them. -/
def cellI (q i : Nat) (w : World) : Int := match w.cell? ⟨q, i, none⟩ with
  | some (.int _ n) => n
  | _ => 0
theorem Dr.dpI {B q nd : Nat} {w : World} {g : Nat → Nat} {dp : Int} {neg tr : Bool} (h : Dr B q w g nd dp neg tr) : cellI q 801 w = dp := by
  unfold cellI; rw [h.dpc]
theorem Dr.g0I {B q nd : Nat} {w : World} {g : Nat → Nat} {dp : Int} {neg tr : Bool} (h : Dr B q w g nd dp neg tr) : cellI q 0 w = (g 0 : Int) := by
  unfold cellI; rw [h.dig 0 (by omega)]
/-- What is left to halve. -/
def m1 (dp g0 : Int) : Nat := (2 * dp + (if 56 ≤ g0 then 1 else 0)).toNat
def m2 (dp g0 : Int) : Nat := (10 * (61 - dp) + (57 - g0)).toNat

theorem m1_less {n r g0 g0' : Nat} {dp : Int} (h1 : 0 < dp) (n3 : 3 ≤ n) (r1 : 1 ≤ r) (g1 : 49 ≤ g0) (g2 : g0 ≤ 57) (hr : r = 1 → 2 ^ n ≤ g0 - 48 ∧ g0' = 48 + (g0 - 48) / 2 ^ n) : m1 (dp - ((r : Int) - 1)) (g0' : Int) < m1 dp (g0 : Int) := by
  unfold m1
  by_cases e : r = 1
  · obtain ⟨a1, a2⟩ := hr e
    have n4 : n = 3 := by
      rcases Nat.lt_or_ge 3 n with h | h
      · have : 2 ^ 4 ≤ 2 ^ n := Nat.pow_le_pow_right (by decide) h
        omega
      · omega
    subst n4
    have e8 : (2 : Nat) ^ 3 = 8 := rfl
    rw [e8] at a1 a2
    clear hr e8
    have h49 : g0' = 49 := by omega
    have h56 : 56 ≤ g0 := by omega
    rw [if_neg (by omega), if_pos (by omega)]
    omega
  · split <;> split <;> omega

theorem powL_at : ∀ j : Fin 9, 1 ≤ powL.getD j.val 0 ∧ powL.getD j.val 0 ≤ 27 ∧ (1 ≤ j.val → 3 ≤ powL.getD j.val 0) := by decide

theorem m2_less {dl g0 g0' : Nat} {dp : Int} (h1 : dp ≤ 0) (hl : dl ≤ 61) (g1 : g0 ≤ 57) (g2 : g0' ≤ 57) (g3 : 49 ≤ g0') (hr : dl = 0 → g0 < g0') : m2 (dp + (dl : Int)) (g0' : Int) < m2 dp (g0 : Int) := by
  unfold m2
  by_cases e : dl = 0
  · have := hr e; omega
  · omega

set_option maxRecDepth 100000 in
set_option maxHeartbeats 8000000 in
theorem fb_main (w0 : World) (q nd : Nat) (g : Nat → Nat) (dp : Int) (neg tr : Bool) (hd1 : -330 ≤ dp) (hd2 : dp ≤ 310) (w : World) (S : Slow w0) (D : Dc w0 q w g nd dp neg tr) :
    Calls Tryz.prog 151 #[.pointer (some ⟨q, 0, none⟩), .pointer (some ⟨9, 0, none⟩)] w fun e w' => ∃ (v : Int) (o : Value), e = .returned (.tuple #[.int .u64 v, o]) ∧ IsB o ∧ Below w0.heap.size w0 w' := by
  have HX := Lib.hid D
  have SS := Lib.hid S
  have c1 := HX.out.at_.ndc
  have c2 := HX.out.at_.dpc
  have c3 := HX.out.at_.negc
  have S1 := SS.out.kept HX.out.low
  have i0 := S1.i0
  have i1 := S1.i1
  have i2 := S1.i2
  clear S1
  have n1 := D.one
  have d1 : ((nd : Int) == 0) = false := by rw [beq_eq_false_iff_ne]; omega
  have d2 : decide ((310 : Int) < dp) = false := by simp; omega
  have d3 : decide (dp < (-330 : Int)) = false := by simp; omega
  clear S D
  go_enter Tryz.func151, Tryz.ntmps151
  go_wp2_with fail
  refine wp_scope_named ?_
  intro Qf hgo
  go_upto_block 0 with fail
  go_cut [6, 8] from 35 to 60 (fun s6 _ wy => ∃ (g : Nat → Nat) (nd : Nat) (dp : Int) (tr : Bool) (x : Int), s6 = .int .i64 x ∧ 0 ≤ x ∧ x ≤ 20000 ∧ -330 ≤ dp ∧ dp ≤ 0 ∧ Hid (Dc w0 q wy g nd dp neg tr))
  case first =>
    go_wp2_with fail
    go_loopw [6, 8] (fun s6 _ wr => ∃ (g : Nat → Nat) (nd : Nat) (dp : Int) (tr : Bool) (x : Int), s6 = .int .i64 x ∧ 0 ≤ x ∧ x + 27 * (m1 dp (g 0) : Int) ≤ 20000 ∧ -330 ≤ dp ∧ dp ≤ 310 ∧ Hid (Dc w0 q wr g nd dp neg tr)) (fun _ _ wr => m1 (cellI q 801 wr) (cellI q 0 wr))
    case atStart => exact ⟨g, nd, dp, tr, 0, rfl, by omega, by unfold m1; split <;> omega, hd1, hd2, HX⟩
    case round =>
      clear HX c1 c2 c3 n1 d1 d2 d3 i0 i1 i2 hd1 hd2
      obtain ⟨g, nd, dp, tr, x, rfl, x1, x2, hd1, hd2, HX⟩ := hrel
      have eM : m1 (cellI q 801 wr) (cellI q 0 wr) = m1 dp (g 0) := by rw [HX.out.at_.dpI, HX.out.at_.g0I]
      rw [eM]
      have c2 := HX.out.at_.dpc
      obtain ⟨b, o, t1, t2⟩ := (SS.out.kept HX.out.low).pw
      by_cases h0 : 0 < dp
      · have g1 := HX.out.first
        have g2 := (HX.out.digs 0 (by have := HX.out.one; omega)).2
        go_upto_region 13 with fail
        go_quiet (fail)
        obtain ⟨W, hW⟩ : ∃ W, Hid (wr.drewN nq = W) := ⟨_, Lib.hid rfl⟩
        have HY := Lib.hid (HX.out.drewN nq)
        have t1' : W.cell? ⟨13, 0, none⟩ = some (.slice (some ⟨b, o, none⟩) 9 9) := by rw [← hW.out]; exact t1
        have t2' : ∀ j, j < 9 → W.cell? ⟨b, o + j, none⟩ = some (.int .i64 ((powL.getD j 0 : Nat) : Int)) := fun j hj => by rw [← hW.out]; exact t2 j hj
        rw [hW.out] at HY ⊢
        clear t1 t2 c2 HX hW
        have c2 := HY.out.at_.dpc
        go_upto_if 46 with fail
        go_cut [8, 46] from 46 to 53 (fun s8 _ wy => ∃ n : Nat, s8 = .int .i64 n ∧ 3 ≤ n ∧ n ≤ 27 ∧ Hid (Dc w0 q wy g nd dp neg tr))
        case first =>
          by_cases h9 : 9 ≤ dp
          · clear t2'
            go_wp2_with fail
            go_meet
            exact ⟨27, rfl, by omega, by omega, HY⟩
          · have d9 : decide ((9 : Int) ≤ dp) = false := by simp; omega
            obtain ⟨j, hj⟩ : ∃ j : Nat, dp = (j : Int) := ⟨dp.toNat, by omega⟩
            subst hj
            have j9 : j < 9 := by omega
            have pj := powL_at ⟨j, j9⟩
            have t3 := t2' j j9
            obtain ⟨n, hn⟩ : ∃ n, Hid (powL.getD j 0 = n) := ⟨_, Lib.hid rfl⟩
            simp only at pj
            rw [hn.out] at pj t3
            clear t2'
            go_wp2_with fail
            go_quiet (fail)
            have HZ := Lib.hid (HY.out.drewN nq)
            go_wp2_with fail
            go_meet
            exact ⟨n, rfl, pj.2.2 (by omega), pj.2.1, HZ⟩
        case rest =>
          clear HY c2 t1' t2'
          obtain ⟨n, rfl, n3, n27, HX⟩ := hcut
          have hS := shift_right w0 q nd n g dp neg tr (by omega) (by omega) (by omega) (by omega) wc HX.out
          go_wp2_with fail
          refine hS.mono ?_
          rintro e w2 ⟨rfl, g', nd', r, tr', r1, r20, hr, DX⟩
          have lt := m1_less h0 n3 r1 g1 g2 hr
          have HX2 := Lib.hid DX
          have LT := Lib.hid lt
          have LT2 : x + (n : Int) + 27 * (m1 (dp - ((r : Int) - 1)) (g' 0 : Int) : Int) ≤ 20000 := by omega
          have HL2 := Lib.hid LT2
          clear DX lt hr LT2
          go_wp2_with fail
          refine ⟨⟨g', nd', _, tr', _, rfl, by omega, HL2.out, by omega, by omega, HX2⟩, ?_⟩
          rw [HX2.out.at_.dpI, HX2.out.at_.g0I]
          exact LT.out
      · have d0 : decide ((0 : Int) < dp) = false := by simp; omega
        have d0' : dp ≤ 0 := by omega
        clear t2
        go_wp2_with fail
        go_meet
        exact ⟨g, nd, dp, tr, x, rfl, x1, by omega, hd1, d0', HX⟩
  case rest =>
    clear HX c1 c2 c3 n1 d1 d2 d3 i0 i1 i2 hd1 hd2
    obtain ⟨g, nd, dp, tr, x, rfl, x1, x2, hd1, hd2, HX⟩ := hcut
    go_upto_block 2 with fail
    go_cut [6, 9] from 61 to 102 (fun s6 _ wy => ∃ (g : Nat → Nat) (nd : Nat) (dp : Int) (tr : Bool) (x : Int), s6 = .int .i64 x ∧ -130000 ≤ x ∧ x ≤ 20000 ∧ -330 ≤ dp ∧ dp ≤ 61 ∧ Hid (Dc w0 q wy g nd dp neg tr))
    case first =>
      go_wp2_with fail
      go_loopw [6, 9] (fun s6 _ wr => ∃ (g : Nat → Nat) (nd : Nat) (dp : Int) (tr : Bool) (x : Int), s6 = .int .i64 x ∧ x ≤ 20000 ∧ -130000 + 27 * (m2 dp (g 0) : Int) ≤ x ∧ -330 ≤ dp ∧ dp ≤ 61 ∧ Hid (Dc w0 q wr g nd dp neg tr)) (fun _ _ wr => m2 (cellI q 801 wr) (cellI q 0 wr))
      case atStart =>
        have g1 := HX.out.first
        exact ⟨g, nd, dp, tr, x, rfl, x2, by unfold m2; omega, hd1, by omega, HX⟩
      case round =>
        clear HX x1 x2 hd1 hd2
        obtain ⟨g, nd, dp, tr, x, rfl, x2, x1, hd1, hd2, HX⟩ := hrel
        have eM : m2 (cellI q 801 wr) (cellI q 0 wr) = m2 dp (g 0) := by rw [HX.out.at_.dpI, HX.out.at_.g0I]
        rw [eM]
        have c2 := HX.out.at_.dpc
        have c4 := HX.out.at_.dig 0 (by omega)
        have g1 := HX.out.first
        have g2 := (HX.out.digs 0 (by have := HX.out.one; omega)).2
        obtain ⟨g0, hg0⟩ : ∃ y, Hid (g 0 = y) := ⟨_, Lib.hid rfl⟩
        rw [hg0.out] at c4 g1 g2 x1 ⊢
        obtain ⟨b, o, t1, t2⟩ := (SS.out.kept HX.out.low).pw
        obtain ⟨bb, hbb⟩ : ∃ bb : Bool, Hid (bb = decide (dp < 0 ∨ (dp = 0 ∧ g0 < 53))) := ⟨_, Lib.hid rfl⟩
        go_upto_region 18 with fail
        go_cut [80] from 61 to 79 (fun s80 wy => s80 = .bool bb ∧ wy = wr)
        case first =>
          clear t2
          by_cases a1 : dp < 0
          · have eb : bb = true := by rw [hbb.out]; simp; omega
            have EB := Lib.hid eb
            clear eb
            go_wp2_with fail
            go_meet
            exact ⟨by rw [EB.out], rfl⟩
          · have a1' : decide (dp < (0 : Int)) = false := by simp; omega
            by_cases a2 : dp = 0
            · subst a2
              by_cases a3 : g0 < 53
              · have a3' : (g0 : Int) < 53 := by omega
                have eb : bb = true := by rw [hbb.out]; simp; omega
                have EB := Lib.hid eb
                clear eb
                go_wp2_with fail
                go_meet
                exact ⟨by rw [EB.out], rfl⟩
              · have a3' : decide ((g0 : Int) < 53) = false := by simp; omega
                have a3'' : (53 : Int) ≤ (g0 : Int) := by omega
                have eb : bb = false := by rw [hbb.out]; simp; omega
                have EB := Lib.hid eb
                clear eb
                go_wp2_with fail
                go_meet
                exact ⟨by rw [EB.out], rfl⟩
            · have a2' : (dp == (0 : Int)) = false := by rw [beq_eq_false_iff_ne]; omega
              have a2'' : 0 ≤ dp := by omega
              have eb : bb = false := by rw [hbb.out]; simp; omega
              have EB := Lib.hid eb
              clear eb
              go_wp2_with fail
              go_meet
              exact ⟨by rw [EB.out], rfl⟩
        case rest =>
        obtain ⟨rfl, hwc⟩ := hcut
        obtain rfl : wr = wc := hwc.symm
        cases bb with
        | true =>
          have hin := of_decide_eq_true hbb.out.symm
          have h0 : dp ≤ 0 := by omega
          have HI := Lib.hid hin
          clear hin
          go_upto_region 20 with fail
          go_quiet (fail)
          obtain ⟨W, hW⟩ : ∃ W, Hid (wr.drewN nq = W) := ⟨_, Lib.hid rfl⟩
          have HY := Lib.hid (HX.out.drewN nq)
          have t1' : W.cell? ⟨13, 0, none⟩ = some (.slice (some ⟨b, o, none⟩) 9 9) := by rw [← hW.out]; exact t1
          have t2' : ∀ j, j < 9 → W.cell? ⟨b, o + j, none⟩ = some (.int .i64 ((powL.getD j 0 : Nat) : Int)) := fun j hj => by rw [← hW.out]; exact t2 j hj
          rw [hW.out] at HY ⊢
          clear t1 t2 c2 c4 HX hW
          have c2 := HY.out.at_.dpc
          go_upto_if 88 with fail
          go_cut [9, 88] from 81 to 96 (fun s9 _ wy => ∃ n : Nat, s9 = .int .i64 n ∧ 1 ≤ n ∧ n ≤ 27 ∧ Hid (Dc w0 q wy g nd dp neg tr))
          case first =>
            by_cases h9 : 9 ≤ -dp
            · clear t2'
              go_wp2_with fail
              go_meet
              exact ⟨27, rfl, by omega, by omega, HY⟩
            · have d9 : decide ((9 : Int) ≤ -dp) = false := by simp; omega
              obtain ⟨j, hj⟩ : ∃ j : Nat, Hid ((j : Int) = -dp) := ⟨(-dp).toNat, Lib.hid (by omega)⟩
              have ej : -dp = (j : Int) := hj.out.symm
              have j9 : j < 9 := by omega
              have pj := powL_at ⟨j, j9⟩
              have t3 := t2' j j9
              obtain ⟨n, hn⟩ : ∃ n, Hid (powL.getD j 0 = n) := ⟨_, Lib.hid rfl⟩
              simp only at pj
              rw [hn.out] at pj t3
              clear t2'
              go_wp2_with fail
              go_quiet (fail)
              have HZ := Lib.hid (HY.out.drewN nq)
              go_wp2_with fail
              go_meet
              exact ⟨n, rfl, pj.1, pj.2.1, HZ⟩
          case rest =>
            clear HY c2 t1' t2'
            obtain ⟨n, rfl, n1, n27, HX⟩ := hcut
            have hS := shift_left w0 q nd n g dp neg tr (by omega) (by omega) (by omega) (by omega) wc SS.out.chz HX.out
            go_wp2_with fail
            refine hS.mono ?_
            rintro e w2 ⟨rfl, g', nd', dl, tr', l61, hr, DX⟩
            have q2 := (DX.digs 0 (by have := DX.one; omega)).2
            have q1 := DX.first
            have lt := m2_less (g0 := g 0) (g0' := g' 0) h0 l61 (by rw [hg0.out]; exact g2) q2 q1 hr
            rw [hg0.out] at lt
            have HX2 := Lib.hid DX
            have LT := Lib.hid lt
            have LT2 : -130000 + 27 * (m2 (dp + (dl : Int)) (g' 0 : Int) : Int) ≤ x - (n : Int) := by omega
            have HL2 := Lib.hid LT2
            clear DX lt hr LT2 q1 q2
            go_wp2_with fail
            refine ⟨⟨g', nd', _, tr', _, rfl, by omega, HL2.out, by omega, by omega, HX2⟩, ?_⟩
            rw [HX2.out.at_.dpI, HX2.out.at_.g0I]
            exact LT.out
        | false =>
          clear t2
          go_wp2_with fail
          go_meet
          exact ⟨g, nd, dp, tr, x, rfl, by omega, x2, hd1, hd2, HX⟩
    case rest =>
      clear HX x1 x2 hd1 hd2
      obtain ⟨g, nd, dp, tr, x, rfl, x1, x2, hd1, hd2, HX⟩ := hcut
      have i2 := (SS.out.kept HX.out.low).i2
      obtain ⟨y, hy⟩ : ∃ y, Hid (x - 1 = y) := ⟨_, Lib.hid rfl⟩
      have ey : x - 1 = y := hy.out
      have y1 : -130001 ≤ y := by omega
      have y2 : y ≤ 20000 := by omega
      have HX0 := HX
      go_upto_if 111 with fail
      go_cut [6, 10, 111] from 111 to 125 (fun s6 _ _ wy => ∃ (g : Nat → Nat) (nd : Nat) (dp : Int) (tr : Bool) (x : Int), s6 = .int .i64 x ∧ -1022 ≤ x ∧ x ≤ 20000 ∧ -400000 ≤ dp ∧ dp ≤ 61 ∧ Hid (Dc w0 q wy g nd dp neg tr))
      case first =>
        clear ey x1 x2
        by_cases hlt : y < -1022
        · obtain ⟨N, hN⟩ : ∃ N : Nat, Hid ((N : Int) = -1022 - y) := ⟨(-1022 - y).toNat, Lib.hid (by omega)⟩
          have eN : -1022 - y = (N : Int) := hN.out.symm
          have hS := shift_far w0 q nd N g dp neg tr (by omega) (by omega) (by omega) (by omega) wc HX0.out
          go_wp2_with fail
          refine hS.mono ?_
          rintro e w2 ⟨rfl, g', nd', dp', tr', l1, l2, DX⟩
          have HX2 := Lib.hid DX
          have e22 : y + (N : Int) = -1022 := by omega
          clear DX
          go_wp2_with fail
          go_meet
          exact ⟨g', nd', dp', tr', _, rfl, by omega, by omega, by omega, by omega, HX2⟩
        · have hlt' : decide (y < (-1022 : Int)) = false := by simp; omega
          have hlt'' : -1022 ≤ y := by omega
          go_wp2_with fail
          go_meet
          exact ⟨g, nd, dp, tr, y, rfl, by omega, by omega, by omega, by omega, HX0⟩
      case rest =>
        clear HX HX0 i2 ey y1 y2 x1 x2 hd1 hd2
        obtain ⟨g, nd, dp, tr, x, rfl, x1, x2, hd1, hd2, HX⟩ := hcut
        have S1 := SS.out.kept HX.out.low
        have i0 := S1.i0
        have i1 := S1.i1
        have i2 := S1.i2
        have c3 := HX.out.at_.negc
        clear S1
        by_cases hov : 2047 ≤ x + 1023
        · have hov' : (2047 : Int) ≤ x - (-1023) := by omega
          go_upto_region 30 with fail
          go_quiet (fail)
          go_wp2_with fail
          go_step3
          refine hgo 1 _ _ _ rfl ?_
          clear hgo
          go_wp2_with fail
          go_quiet (fail)
          go_wp2_with fail
          go_step3
          go_wp2_with fail
          go_quiet (fail)
          cases neg with
          | true =>
            go_wp2_with fail
            go_quiet (fail)
            go_wp2_with fail
            rw [Go.Exit.noGoto_ret]
            go_ret2
            exact ⟨_, _, rfl, ⟨_, rfl⟩, by repeat (first | exact HX.out.low | refine below_drewN ?_ _)⟩
          | false =>
            go_wp2_with fail
            rw [Go.Exit.noGoto_ret]
            go_ret2
            exact ⟨_, _, rfl, ⟨_, rfl⟩, by repeat (first | exact HX.out.low | refine below_drewN ?_ _)⟩
        · have hov' : decide ((2047 : Int) ≤ x - (-1023)) = false := by simp; omega
          have hov'' : decide ((2047 : Int) ≤ x + 1023) = false := by simp; omega
          have hlo : x + 1023 < 2047 := by omega
          have hS := fun W (DW : Dc w0 q W g nd dp neg tr) => shift_left w0 q nd 53 g dp neg tr (by omega) (by omega) (by omega) (by omega) W SS.out.chz DW
          go_upto_region 30 with fail
          go_quiet (fail)
          go_wp2_with fail
          refine (hS _ (HX.out.drewN nq)).mono ?_
          rintro e w2 ⟨rfl, g2, nd2, dl, tr2, l61, hr, DX⟩
          have hR := drounded_any w0 q nd2 g2 _ neg tr2 w2 DX
          clear hS i0 i1 i2 c3 HX hr
          have HX := Lib.hid DX
          have S1 := SS.out.kept DX.low
          have i0 := S1.i0
          have i1 := S1.i1
          have i2 := S1.i2
          have c3 := DX.at_.negc
          clear S1 DX
          go_wp2_with fail
          refine hR.mono ?_
          rintro e w3 ⟨a, a1, a2, rfl, rfl⟩
          clear hR
          by_cases ha : a = 9007199254740992
          · subst ha
            have z0 : bits .and .u64 4503599627370496 4503599627370496 = 4503599627370496 := by kernel_rfl
            by_cases hov2 : 2047 ≤ x + 1 + 1023
            · have hov3 : (2047 : Int) ≤ x + 1 - (-1023) := by omega
              go_wp2_with fail
              go_quiet (fail)
              go_wp2_with fail
              go_step3
              refine hgo 1 _ _ _ rfl ?_
              clear hgo
              go_wp2_with fail
              go_quiet (fail)
              go_wp2_with fail
              go_step3
              go_wp2_with fail
              go_quiet (fail)
              cases neg with
              | true =>
                go_wp2_with fail
                go_quiet (fail)
                go_wp2_with fail
                rw [Go.Exit.noGoto_ret]
                go_ret2
                exact ⟨_, _, rfl, ⟨_, rfl⟩, by repeat (first | exact HX.out.low | refine below_drewN ?_ _)⟩
              | false =>
                go_wp2_with fail
                rw [Go.Exit.noGoto_ret]
                go_ret2
                exact ⟨_, _, rfl, ⟨_, rfl⟩, by repeat (first | exact HX.out.low | refine below_drewN ?_ _)⟩
            · have hov3 : decide ((2047 : Int) ≤ x + 1 - (-1023)) = false := by simp; omega
              have hov4 : decide ((2047 : Int) ≤ x + 1 + 1023) = false := by simp; omega
              go_wp2_with fail
              go_quiet (fail)
              go_wp2_with fail
              go_step3
              refine hgo 0 _ _ _ rfl ?_
              clear hgo
              go_wp2_with fail
              go_quiet (fail)
              cases neg with
              | true =>
                go_wp2_with fail
                go_quiet (fail)
                go_wp2_with fail
                rw [Go.Exit.noGoto_ret]
                go_ret2
                exact ⟨_, _, rfl, ⟨_, rfl⟩, by repeat (first | exact HX.out.low | refine below_drewN ?_ _)⟩
              | false =>
                go_wp2_with fail
                rw [Go.Exit.noGoto_ret]
                go_ret2
                exact ⟨_, _, rfl, ⟨_, rfl⟩, by repeat (first | exact HX.out.low | refine below_drewN ?_ _)⟩
          · have da : (a == (9007199254740992 : Int)) = false := by rw [beq_eq_false_iff_ne]; exact ha
            obtain ⟨z, hz⟩ : ∃ z, Hid (bits .and .u64 a 4503599627370496 = z) := ⟨_, Lib.hid rfl⟩
            have ez : bits .and .u64 a 4503599627370496 = z := hz.out
            by_cases hz0 : z = 0
            · have dz : (z == (0 : Int)) = true := by rw [beq_iff_eq]; exact hz0
              have hz0' := Lib.hid hz0
              clear hz0
              go_wp2_with fail
              go_step3
              refine hgo 0 _ _ _ rfl ?_
              clear hgo
              go_wp2_with fail
              go_quiet (fail)
              cases neg with
              | true =>
                go_wp2_with fail
                go_quiet (fail)
                go_wp2_with fail
                rw [Go.Exit.noGoto_ret]
                go_ret2
                exact ⟨_, _, rfl, ⟨_, rfl⟩, by repeat (first | exact HX.out.low | refine below_drewN ?_ _)⟩
              | false =>
                go_wp2_with fail
                rw [Go.Exit.noGoto_ret]
                go_ret2
                exact ⟨_, _, rfl, ⟨_, rfl⟩, by repeat (first | exact HX.out.low | refine below_drewN ?_ _)⟩
            · have dz : (z == (0 : Int)) = false := by rw [beq_eq_false_iff_ne]; exact hz0
              go_wp2_with fail
              go_step3
              refine hgo 0 _ _ _ rfl ?_
              clear hgo
              go_wp2_with fail
              go_quiet (fail)
              cases neg with
              | true =>
                go_wp2_with fail
                go_quiet (fail)
                go_wp2_with fail
                rw [Go.Exit.noGoto_ret]
                go_ret2
                exact ⟨_, _, rfl, ⟨_, rfl⟩, by repeat (first | exact HX.out.low | refine below_drewN ?_ _)⟩
              | false =>
                go_wp2_with fail
                rw [Go.Exit.noGoto_ret]
                go_ret2
                exact ⟨_, _, rfl, ⟨_, rfl⟩, by repeat (first | exact HX.out.low | refine below_drewN ?_ _)⟩
end Go.Proofs.YtadlppllbebkdaaGreatDoor
