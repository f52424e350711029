/- floatBits: the main road. -/
import Derived.Test.YtalaajniammggaaGreatDoorXDd
namespace Go.Proofs.YtalaajniammggaaGreatDoor
open Go.RowKit
def cellI (q i : Nat) (w : World) : Int := match w.cell? ⟨q,i,none⟩ with
 | some (.int _ n) => n
 | _ => 0
theorem Dr.dpI {B q nd : Nat} {w : World} {g : Nat → Nat} {dp : Int} {neg tr : Bool} (h : Dr B q w g nd dp neg tr) : cellI q 801 w = dp := by
 unfold cellI; rw [h.dpc]
theorem Dr.g0I {B q nd : Nat} {w : World} {g : Nat → Nat} {dp : Int} {neg tr : Bool} (h : Dr B q w g nd dp neg tr) : cellI q 0 w = (g 0 : Int) := by
 unfold cellI; rw [h.dig 0 (by omega)]
def m1 (dp g0 : Int) : Nat := (2 * dp + (if 56 ≤ g0 then 1 else 0)).toNat
def m2 (dp g0 : Int) : Nat := (10 * (61 - dp) + (57 - g0)).toNat
theorem m1_less {n r g0 g0' : Nat} {dp : Int} (h1 : 0 < dp) (n3 : 3 ≤ n) (r1 : 1 ≤ r) (g1 : 49 ≤ g0) (g2 : g0 ≤ 57) (hr : r = 1 → 2 ^ n ≤ g0 - 48 ∧ g0' = 48 + (g0 - 48) / 2 ^ n) : m1 (dp - ((r : Int) - 1)) (g0' : Int) < m1 dp (g0 : Int) := by
 unfold m1
 by_cases e : r = 1
 ·obtain ⟨a1,a2⟩ := hr e
  have n4 : n = 3 := by
   rcases Nat.lt_or_ge 3 n with h | h
   ·have : 2 ^ 4 ≤ 2 ^ n := Nat.pow_le_pow_right (by decide) h
    omega
   ·omega
  subst n4
  have e8 : (2 : Nat) ^ 3 = 8 := rfl
  rw [e8] at a1 a2
  clear hr e8
  have h49 : g0' = 49 := by omega
  have h56 : 56 ≤ g0 := by omega
  rw [if_neg (by omega),if_pos (by omega)]
  omega
 ·split <;> split <;> omega
theorem powL_at : ∀ j : Fin 9,1 ≤ powL.getD j.val 0 ∧ powL.getD j.val 0 ≤ 27 ∧ (1 ≤ j.val → 3 ≤ powL.getD j.val 0) := by decide
theorem m2_less {dl g0 g0' : Nat} {dp : Int} (h1 : dp ≤ 0) (hl : dl ≤ 61) (g1 : g0 ≤ 57) (g2 : g0' ≤ 57) (g3 : 49 ≤ g0') (hr : dl = 0 → g0 < g0') : m2 (dp + (dl : Int)) (g0' : Int) < m2 dp (g0 : Int) := by
 unfold m2
 by_cases e : dl = 0
 ·have := hr e; omega
 ·omega
set_option maxRecDepth 100000 in
set_option maxHeartbeats 8000000 in
theorem fb_main (w0 : World) (q nd : Nat) (g : Nat → Nat) (dp : Int) (neg tr : Bool) (hd1 : -330 ≤ dp) (hd2 : dp ≤ 310) (w : World) (S : Slow w0) (D : Dc w0 q w g nd dp neg tr) :
  Calls Tryz.prog 184 #[.pointer (some ⟨q,0,none⟩),.pointer (some ⟨13,0,none⟩)] w fun e w' => ∃ (v : Int) (o : Value),e = .returned (.tuple #[.int .u64 v,o]) ∧ IsB o ∧ Below w0.heap.size w0 w' := by
 have HX := Lib.hid D
 have SS := Lib.hid S
 have c1 := HX.out.at_.ndc
 have c2 := HX.out.at_.dpc
 have c3 := HX.out.at_.negc
 have S1 := SS.out.kept HX.out.low
 have i0 := S1.i0
 have i1 := S1.i1
 have i2 := S1.i2
 clear S1
 have n1 := D.one
 have d1 : ((nd : Int) == 0) = false := by rw [beq_eq_false_iff_ne]; omega
 have d2 : decide ((310 : Int) < dp) = false := by simp; omega
 have d3 : decide (dp < (-330 : Int)) = false := by simp; omega
 clear S D
 go_enter Tryz.func184,Tryz.ntmps184
 go_wp2_with fail
 refine wp_scope_named ?_
 intro Qf hgo
 go_upto_block 0 with fail
 go_cut [6,8] from 35 to 60 (fun s6 _ wy => ∃ (g : Nat → Nat) (nd : Nat) (dp : Int) (tr : Bool) (x : Int),s6 = .int .i64 x ∧ 0 ≤ x ∧ x ≤ 20000 ∧ -330 ≤ dp ∧ dp ≤ 0 ∧ Hid (Dc w0 q wy g nd dp neg tr))
 case first =>
  go_wp2_with fail
  go_loopw [6,8] (fun s6 _ wr => ∃ (g : Nat → Nat) (nd : Nat) (dp : Int) (tr : Bool) (x : Int),s6 = .int .i64 x ∧ 0 ≤ x ∧ x + 27 * (m1 dp (g 0) : Int) ≤ 20000 ∧ -330 ≤ dp ∧ dp ≤ 310 ∧ Hid (Dc w0 q wr g nd dp neg tr)) (fun _ _ wr => m1 (cellI q 801 wr) (cellI q 0 wr))
  case atStart => exact ⟨g,nd,dp,tr,0,rfl,by omega,by unfold m1; split <;> omega,hd1,hd2,HX⟩
  case round =>
   clear HX c1 c2 c3 n1 d1 d2 d3 i0 i1 i2 hd1 hd2
   obtain ⟨g,nd,dp,tr,x,rfl,x1,x2,hd1,hd2,HX⟩ := hrel
   have eM : m1 (cellI q 801 wr) (cellI q 0 wr) = m1 dp (g 0) := by rw [HX.out.at_.dpI,HX.out.at_.g0I]
   rw [eM]
   have c2 := HX.out.at_.dpc
   obtain ⟨b,o,t1,t2⟩ := (SS.out.kept HX.out.low).pw
   by_cases h0 : 0 < dp
   ·have g1 := HX.out.first
    have g2 := (HX.out.digs 0 (by have := HX.out.one; omega)).2
    go_upto_region 13 with fail
    go_quiet (fail)
    obtain ⟨W,hW⟩ : ∃ W,Hid (wr.drewN nq = W) := ⟨_,Lib.hid rfl⟩
    have HY := Lib.hid (HX.out.drewN nq)
    have t1' : W.cell? ⟨15,0,none⟩ = some (.slice (some ⟨b,o,none⟩) 9 9) := by rw [← hW.out]; exact t1
    have t2' : ∀ j,j < 9 → W.cell? ⟨b,o + j,none⟩ = some (.int .i64 ((powL.getD j 0 : Nat) : Int)) := fun j hj => by rw [← hW.out]; exact t2 j hj
    rw [hW.out] at HY ⊢
    clear t1 t2 c2 HX hW
    have c2 := HY.out.at_.dpc
    go_upto_if 46 with fail
    go_cut [8,46] from 46 to 53 (fun s8 _ wy => ∃ n : Nat,s8 = .int .i64 n ∧ 3 ≤ n ∧ n ≤ 27 ∧ Hid (Dc w0 q wy g nd dp neg tr))
    case first =>
     by_cases h9 : 9 ≤ dp
     ·clear t2'
      go_wp2_with fail
      go_meet
      exact ⟨27,rfl,by omega,by omega,HY⟩
     ·have d9 : decide ((9 : Int) ≤ dp) = false := by simp; omega
      obtain ⟨j,hj⟩ : ∃ j : Nat,dp = (j : Int) := ⟨dp.toNat,by omega⟩
      subst hj
      have j9 : j < 9 := by omega
      have pj := powL_at ⟨j,j9⟩
      have t3 := t2' j j9
      obtain ⟨n,hn⟩ : ∃ n,Hid (powL.getD j 0 = n) := ⟨_,Lib.hid rfl⟩
      simp only at pj
      rw [hn.out] at pj t3
      clear t2'
      go_wp2_with fail
      go_quiet (fail)
      have HZ := Lib.hid (HY.out.drewN nq)
      go_wp2_with fail
      go_meet
      exact ⟨n,rfl,pj.2.2 (by omega),pj.2.1,HZ⟩
    case rest =>
     clear HY c2 t1' t2'
     obtain ⟨n,rfl,n3,n27,HX⟩ := hcut
     have hS := shift_right w0 q nd n g dp neg tr (by omega) (by omega) (by omega) (by omega) wc HX.out
     go_wp2_with fail
     refine hS.mono ?_
     rintro e w2 ⟨rfl,g',nd',r,tr',r1,r20,hr,DX⟩
     have lt := m1_less h0 n3 r1 g1 g2 hr
     have HX2 := Lib.hid DX
     have LT := Lib.hid lt
     have LT2 : x + (n : Int) + 27 * (m1 (dp - ((r : Int) - 1)) (g' 0 : Int) : Int) ≤ 20000 := by omega
     have HL2 := Lib.hid LT2
     clear DX lt hr LT2
     go_wp2_with fail
     refine ⟨⟨g',nd',_,tr',_,rfl,by omega,HL2.out,by omega,by omega,HX2⟩,?_⟩
     rw [HX2.out.at_.dpI,HX2.out.at_.g0I]
     exact LT.out
   ·have d0 : decide ((0 : Int) < dp) = false := by simp; omega
    have d0' : dp ≤ 0 := by omega
    clear t2
    go_wp2_with fail
    go_meet
    exact ⟨g,nd,dp,tr,x,rfl,x1,by omega,hd1,d0',HX⟩
 case rest =>
  clear HX c1 c2 c3 n1 d1 d2 d3 i0 i1 i2 hd1 hd2
  obtain ⟨g,nd,dp,tr,x,rfl,x1,x2,hd1,hd2,HX⟩ := hcut
  go_upto_block 2 with fail
  go_cut [6,9] from 61 to 102 (fun s6 _ wy => ∃ (g : Nat → Nat) (nd : Nat) (dp : Int) (tr : Bool) (x : Int),s6 = .int .i64 x ∧ -130000 ≤ x ∧ x ≤ 20000 ∧ -330 ≤ dp ∧ dp ≤ 61 ∧ Hid (Dc w0 q wy g nd dp neg tr))
  case first =>
   go_wp2_with fail
   go_loopw [6,9] (fun s6 _ wr => ∃ (g : Nat → Nat) (nd : Nat) (dp : Int) (tr : Bool) (x : Int),s6 = .int .i64 x ∧ x ≤ 20000 ∧ -130000 + 27 * (m2 dp (g 0) : Int) ≤ x ∧ -330 ≤ dp ∧ dp ≤ 61 ∧ Hid (Dc w0 q wr g nd dp neg tr)) (fun _ _ wr => m2 (cellI q 801 wr) (cellI q 0 wr))
   case atStart =>
    have g1 := HX.out.first
    exact ⟨g,nd,dp,tr,x,rfl,x2,by unfold m2; omega,hd1,by omega,HX⟩
   case round =>
    clear HX x1 x2 hd1 hd2
    obtain ⟨g,nd,dp,tr,x,rfl,x2,x1,hd1,hd2,HX⟩ := hrel
    have eM : m2 (cellI q 801 wr) (cellI q 0 wr) = m2 dp (g 0) := by rw [HX.out.at_.dpI,HX.out.at_.g0I]
    rw [eM]
    have c2 := HX.out.at_.dpc
    have c4 := HX.out.at_.dig 0 (by omega)
    have g1 := HX.out.first
    have g2 := (HX.out.digs 0 (by have := HX.out.one; omega)).2
    obtain ⟨g0,hg0⟩ : ∃ y,Hid (g 0 = y) := ⟨_,Lib.hid rfl⟩
    rw [hg0.out] at c4 g1 g2 x1 ⊢
    obtain ⟨b,o,t1,t2⟩ := (SS.out.kept HX.out.low).pw
    obtain ⟨bb,hbb⟩ : ∃ bb : Bool,Hid (bb = decide (dp < 0 ∨ (dp = 0 ∧ g0 < 53))) := ⟨_,Lib.hid rfl⟩
    go_upto_region 18 with fail
    go_cut [80] from 61 to 79 (fun s80 wy => s80 = .bool bb ∧ wy = wr)
    case first =>
     clear t2
     by_cases a1 : dp < 0
     ·have eb : bb = true := by rw [hbb.out]; simp; omega
      have EB := Lib.hid eb
      clear eb
      go_wp2_with fail
      go_meet
      exact ⟨by rw [EB.out],rfl⟩
     ·have a1' : decide (dp < (0 : Int)) = false := by simp; omega
      by_cases a2 : dp = 0
      ·subst a2
       by_cases a3 : g0 < 53
       ·have a3' : (g0 : Int) < 53 := by omega
        have eb : bb = true := by rw [hbb.out]; simp; omega
        have EB := Lib.hid eb
        clear eb
        go_wp2_with fail
        go_meet
        exact ⟨by rw [EB.out],rfl⟩
       ·have a3' : decide ((g0 : Int) < 53) = false := by simp; omega
        have a3'' : (53 : Int) ≤ (g0 : Int) := by omega
        have eb : bb = false := by rw [hbb.out]; simp; omega
        have EB := Lib.hid eb
        clear eb
        go_wp2_with fail
        go_meet
        exact ⟨by rw [EB.out],rfl⟩
      ·have a2' : (dp == (0 : Int)) = false := by rw [beq_eq_false_iff_ne]; omega
       have a2'' : 0 ≤ dp := by omega
       have eb : bb = false := by rw [hbb.out]; simp; omega
       have EB := Lib.hid eb
       clear eb
       go_wp2_with fail
       go_meet
       exact ⟨by rw [EB.out],rfl⟩
    case rest =>
    obtain ⟨rfl,hwc⟩ := hcut
    obtain rfl : wr = wc := hwc.symm
    cases bb with
    | true =>
     have hin := of_decide_eq_true hbb.out.symm
     have h0 : dp ≤ 0 := by omega
     have HI := Lib.hid hin
     clear hin
     go_upto_region 20 with fail
     go_quiet (fail)
     obtain ⟨W,hW⟩ : ∃ W,Hid (wr.drewN nq = W) := ⟨_,Lib.hid rfl⟩
     have HY := Lib.hid (HX.out.drewN nq)
     have t1' : W.cell? ⟨15,0,none⟩ = some (.slice (some ⟨b,o,none⟩) 9 9) := by rw [← hW.out]; exact t1
     have t2' : ∀ j,j < 9 → W.cell? ⟨b,o + j,none⟩ = some (.int .i64 ((powL.getD j 0 : Nat) : Int)) := fun j hj => by rw [← hW.out]; exact t2 j hj
     rw [hW.out] at HY ⊢
     clear t1 t2 c2 c4 HX hW
     have c2 := HY.out.at_.dpc
     go_upto_if 88 with fail
     go_cut [9,88] from 81 to 96 (fun s9 _ wy => ∃ n : Nat,s9 = .int .i64 n ∧ 1 ≤ n ∧ n ≤ 27 ∧ Hid (Dc w0 q wy g nd dp neg tr))
     case first =>
      by_cases h9 : 9 ≤ -dp
      ·clear t2'
       go_wp2_with fail
       go_meet
       exact ⟨27,rfl,by omega,by omega,HY⟩
      ·have d9 : decide ((9 : Int) ≤ -dp) = false := by simp; omega
       obtain ⟨j,hj⟩ : ∃ j : Nat,Hid ((j : Int) = -dp) := ⟨(-dp).toNat,Lib.hid (by omega)⟩
       have ej : -dp = (j : Int) := hj.out.symm
       have j9 : j < 9 := by omega
       have pj := powL_at ⟨j,j9⟩
       have t3 := t2' j j9
       obtain ⟨n,hn⟩ : ∃ n,Hid (powL.getD j 0 = n) := ⟨_,Lib.hid rfl⟩
       simp only at pj
       rw [hn.out] at pj t3
       clear t2'
       go_wp2_with fail
       go_quiet (fail)
       have HZ := Lib.hid (HY.out.drewN nq)
       go_wp2_with fail
       go_meet
       exact ⟨n,rfl,pj.1,pj.2.1,HZ⟩
     case rest =>
      clear HY c2 t1' t2'
      obtain ⟨n,rfl,n1,n27,HX⟩ := hcut
      have hS := shift_left w0 q nd n g dp neg tr (by omega) (by omega) (by omega) (by omega) wc SS.out.chz HX.out
      go_wp2_with fail
      refine hS.mono ?_
      rintro e w2 ⟨rfl,g',nd',dl,tr',l61,hr,DX⟩
      have q2 := (DX.digs 0 (by have := DX.one; omega)).2
      have q1 := DX.first
      have lt := m2_less (g0 := g 0) (g0' := g' 0) h0 l61 (by rw [hg0.out]; exact g2) q2 q1 hr
      rw [hg0.out] at lt
      have HX2 := Lib.hid DX
      have LT := Lib.hid lt
      have LT2 : -130000 + 27 * (m2 (dp + (dl : Int)) (g' 0 : Int) : Int) ≤ x - (n : Int) := by omega
      have HL2 := Lib.hid LT2
      clear DX lt hr LT2 q1 q2
      go_wp2_with fail
      refine ⟨⟨g',nd',_,tr',_,rfl,by omega,HL2.out,by omega,by omega,HX2⟩,?_⟩
      rw [HX2.out.at_.dpI,HX2.out.at_.g0I]
      exact LT.out
    | false =>
     clear t2
     go_wp2_with fail
     go_meet
     exact ⟨g,nd,dp,tr,x,rfl,by omega,x2,hd1,hd2,HX⟩
  case rest =>
   clear HX x1 x2 hd1 hd2
   obtain ⟨g,nd,dp,tr,x,rfl,x1,x2,hd1,hd2,HX⟩ := hcut
   have i2 := (SS.out.kept HX.out.low).i2
   obtain ⟨y,hy⟩ : ∃ y,Hid (x - 1 = y) := ⟨_,Lib.hid rfl⟩
   have ey : x - 1 = y := hy.out
   have y1 : -130001 ≤ y := by omega
   have y2 : y ≤ 20000 := by omega
   have HX0 := HX
   go_upto_if 111 with fail
   go_cut [6,10,111] from 111 to 125 (fun s6 _ _ wy => ∃ (g : Nat → Nat) (nd : Nat) (dp : Int) (tr : Bool) (x : Int),s6 = .int .i64 x ∧ -1022 ≤ x ∧ x ≤ 20000 ∧ -400000 ≤ dp ∧ dp ≤ 61 ∧ Hid (Dc w0 q wy g nd dp neg tr))
   case first =>
    clear ey x1 x2
    by_cases hlt : y < -1022
    ·obtain ⟨N,hN⟩ : ∃ N : Nat,Hid ((N : Int) = -1022 - y) := ⟨(-1022 - y).toNat,Lib.hid (by omega)⟩
     have eN : -1022 - y = (N : Int) := hN.out.symm
     have hS := shift_far w0 q nd N g dp neg tr (by omega) (by omega) (by omega) (by omega) wc HX0.out
     go_wp2_with fail
     refine hS.mono ?_
     rintro e w2 ⟨rfl,g',nd',dp',tr',l1,l2,DX⟩
     have HX2 := Lib.hid DX
     have e22 : y + (N : Int) = -1022 := by omega
     clear DX
     go_wp2_with fail
     go_meet
     exact ⟨g',nd',dp',tr',_,rfl,by omega,by omega,by omega,by omega,HX2⟩
    ·have hlt' : decide (y < (-1022 : Int)) = false := by simp; omega
     have hlt'' : -1022 ≤ y := by omega
     go_wp2_with fail
     go_meet
     exact ⟨g,nd,dp,tr,y,rfl,by omega,by omega,by omega,by omega,HX0⟩
   case rest =>
    clear HX HX0 i2 ey y1 y2 x1 x2 hd1 hd2
    obtain ⟨g,nd,dp,tr,x,rfl,x1,x2,hd1,hd2,HX⟩ := hcut
    have S1 := SS.out.kept HX.out.low
    have i0 := S1.i0
    have i1 := S1.i1
    have i2 := S1.i2
    have c3 := HX.out.at_.negc
    clear S1
    by_cases hov : 2047 ≤ x + 1023
    ·have hov' : (2047 : Int) ≤ x - (-1023) := by omega
     go_upto_region 30 with fail
     go_quiet (fail)
     go_wp2_with fail
     go_step3
     refine hgo 1 _ _ _ rfl ?_
     clear hgo
     go_wp2_with fail
     go_quiet (fail)
     go_wp2_with fail
     go_step3
     go_wp2_with fail
     go_quiet (fail)
     cases neg with
     | true =>
      go_wp2_with fail
      go_quiet (fail)
      go_wp2_with fail
      rw [Go.Exit.noGoto_ret]
      go_ret2
      exact ⟨_,_,rfl,⟨_,rfl⟩,by repeat (first | exact HX.out.low | refine below_drewN ?_ _)⟩
     | false =>
      go_wp2_with fail
      rw [Go.Exit.noGoto_ret]
      go_ret2
      exact ⟨_,_,rfl,⟨_,rfl⟩,by repeat (first | exact HX.out.low | refine below_drewN ?_ _)⟩
    ·have hov' : decide ((2047 : Int) ≤ x - (-1023)) = false := by simp; omega
     have hov'' : decide ((2047 : Int) ≤ x + 1023) = false := by simp; omega
     have hlo : x + 1023 < 2047 := by omega
     have hS := fun W (DW : Dc w0 q W g nd dp neg tr) => shift_left w0 q nd 53 g dp neg tr (by omega) (by omega) (by omega) (by omega) W SS.out.chz DW
     go_upto_region 30 with fail
     go_quiet (fail)
     go_wp2_with fail
     refine (hS _ (HX.out.drewN nq)).mono ?_
     rintro e w2 ⟨rfl,g2,nd2,dl,tr2,l61,hr,DX⟩
     have hR := drounded_any w0 q nd2 g2 _ neg tr2 w2 DX
     clear hS i0 i1 i2 c3 HX hr
     have HX := Lib.hid DX
     have S1 := SS.out.kept DX.low
     have i0 := S1.i0
     have i1 := S1.i1
     have i2 := S1.i2
     have c3 := DX.at_.negc
     clear S1 DX
     go_wp2_with fail
     refine hR.mono ?_
     rintro e w3 ⟨a,a1,a2,rfl,rfl⟩
     clear hR
     by_cases ha : a = 9007199254740992
     ·subst ha
      have z0 : bits .and .u64 4503599627370496 4503599627370496 = 4503599627370496 := by kernel_rfl
      by_cases hov2 : 2047 ≤ x + 1 + 1023
      ·have hov3 : (2047 : Int) ≤ x + 1 - (-1023) := by omega
       go_wp2_with fail
       go_quiet (fail)
       go_wp2_with fail
       go_step3
       refine hgo 1 _ _ _ rfl ?_
       clear hgo
       go_wp2_with fail
       go_quiet (fail)
       go_wp2_with fail
       go_step3
       go_wp2_with fail
       go_quiet (fail)
       cases neg with
       | true =>
        go_wp2_with fail
        go_quiet (fail)
        go_wp2_with fail
        rw [Go.Exit.noGoto_ret]
        go_ret2
        exact ⟨_,_,rfl,⟨_,rfl⟩,by repeat (first | exact HX.out.low | refine below_drewN ?_ _)⟩
       | false =>
        go_wp2_with fail
        rw [Go.Exit.noGoto_ret]
        go_ret2
        exact ⟨_,_,rfl,⟨_,rfl⟩,by repeat (first | exact HX.out.low | refine below_drewN ?_ _)⟩
      ·have hov3 : decide ((2047 : Int) ≤ x + 1 - (-1023)) = false := by simp; omega
       have hov4 : decide ((2047 : Int) ≤ x + 1 + 1023) = false := by simp; omega
       go_wp2_with fail
       go_quiet (fail)
       go_wp2_with fail
       go_step3
       refine hgo 0 _ _ _ rfl ?_
       clear hgo
       go_wp2_with fail
       go_quiet (fail)
       cases neg with
       | true =>
        go_wp2_with fail
        go_quiet (fail)
        go_wp2_with fail
        rw [Go.Exit.noGoto_ret]
        go_ret2
        exact ⟨_,_,rfl,⟨_,rfl⟩,by repeat (first | exact HX.out.low | refine below_drewN ?_ _)⟩
       | false =>
        go_wp2_with fail
        rw [Go.Exit.noGoto_ret]
        go_ret2
        exact ⟨_,_,rfl,⟨_,rfl⟩,by repeat (first | exact HX.out.low | refine below_drewN ?_ _)⟩
     ·have da : (a == (9007199254740992 : Int)) = false := by rw [beq_eq_false_iff_ne]; exact ha
      obtain ⟨z,hz⟩ : ∃ z,Hid (bits .and .u64 a 4503599627370496 = z) := ⟨_,Lib.hid rfl⟩
      have ez : bits .and .u64 a 4503599627370496 = z := hz.out
      by_cases hz0 : z = 0
      ·have dz : (z == (0 : Int)) = true := by rw [beq_iff_eq]; exact hz0
       have hz0' := Lib.hid hz0
       clear hz0
       go_wp2_with fail
       go_step3
       refine hgo 0 _ _ _ rfl ?_
       clear hgo
       go_wp2_with fail
       go_quiet (fail)
       cases neg with
       | true =>
        go_wp2_with fail
        go_quiet (fail)
        go_wp2_with fail
        rw [Go.Exit.noGoto_ret]
        go_ret2
        exact ⟨_,_,rfl,⟨_,rfl⟩,by repeat (first | exact HX.out.low | refine below_drewN ?_ _)⟩
       | false =>
        go_wp2_with fail
        rw [Go.Exit.noGoto_ret]
        go_ret2
        exact ⟨_,_,rfl,⟨_,rfl⟩,by repeat (first | exact HX.out.low | refine below_drewN ?_ _)⟩
      ·have dz : (z == (0 : Int)) = false := by rw [beq_eq_false_iff_ne]; exact hz0
       go_wp2_with fail
       go_step3
       refine hgo 0 _ _ _ rfl ?_
       clear hgo
       go_wp2_with fail
       go_quiet (fail)
       cases neg with
       | true =>
        go_wp2_with fail
        go_quiet (fail)
        go_wp2_with fail
        rw [Go.Exit.noGoto_ret]
        go_ret2
        exact ⟨_,_,rfl,⟨_,rfl⟩,by repeat (first | exact HX.out.low | refine below_drewN ?_ _)⟩
       | false =>
        go_wp2_with fail
        rw [Go.Exit.noGoto_ret]
        go_ret2
        exact ⟨_,_,rfl,⟨_,rfl⟩,by repeat (first | exact HX.out.low | refine below_drewN ?_ _)⟩
end Go.Proofs.YtalaajniammggaaGreatDoor

/- A decimal read off a text. -/
namespace Go.Proofs.YtalaajniammggaaGreatDoor
open Go.RowKit
def Sd (w0 : World) (q : Nat) (w : World) : Prop := ∃ (g : Nat → Nat) (nd : Nat) (dp : Int) (neg tr : Bool),nd ≤ 800 ∧ Digs g nd ∧ (1 ≤ nd → 49 ≤ g 0) ∧ Dr w0.heap.size q w g nd dp neg tr ∧ Below w0.heap.size w0 w
structure Sr (w0 : World) (q : Nat) (w : World) (g : Nat → Nat) (nd : Nat) (dp : Int) (neg tr : Bool) : Prop where
 le : nd ≤ 800
 digs : Digs g nd
 first : 1 ≤ nd → 49 ≤ g 0
 at_ : Dr w0.heap.size q w g nd dp neg tr
 low : Below w0.heap.size w0 w
theorem Sr.sd {w0 : World} {q : Nat} {w : World} {g : Nat → Nat} {nd : Nat} {dp : Int} {neg tr : Bool} (h : Sr w0 q w g nd dp neg tr) : Sd w0 q w := ⟨g,nd,dp,neg,tr,h.le,h.digs,h.first,h.at_,h.low⟩
theorem Sr.putDp {w0 : World} {q : Nat} {w : World} {g : Nat → Nat} {nd : Nat} {dp : Int} {neg tr : Bool} (h : Sr w0 q w g nd dp neg tr) (x : Int) : Sr w0 q (w.setCell ⟨q,801,none⟩ (.int .i64 x)) g nd x neg tr :=
 ⟨h.le,h.digs,h.first,h.at_.putDp x,h.low.setCell h.at_.le _⟩
theorem Sr.putTr {w0 : World} {q : Nat} {w : World} {g : Nat → Nat} {nd : Nat} {dp : Int} {neg tr : Bool} (h : Sr w0 q w g nd dp neg tr) (x : Bool) : Sr w0 q (w.setCell ⟨q,803,none⟩ (.bool x)) g nd dp neg x :=
 ⟨h.le,h.digs,h.first,h.at_.putTr x,h.low.setCell h.at_.le _⟩
theorem Sr.putNeg {w0 : World} {q : Nat} {w : World} {g : Nat → Nat} {nd : Nat} {dp : Int} {neg tr : Bool} (h : Sr w0 q w g nd dp neg tr) (x : Bool) : Sr w0 q (w.setCell ⟨q,802,none⟩ (.bool x)) g nd dp x tr :=
 ⟨h.le,h.digs,h.first,h.at_.putNeg x,h.low.setCell h.at_.le _⟩
theorem Sr.drewN {w0 : World} {q : Nat} {w : World} {g : Nat → Nat} {nd : Nat} {dp : Int} {neg tr : Bool} (h : Sr w0 q w g nd dp neg tr) (n : Nat) : Sr w0 q (w.drewN n) g nd dp neg tr :=
 ⟨h.le,h.digs,h.first,h.at_.drewN n,below_drewN h.low n⟩
theorem Sr.more {w0 : World} {q : Nat} {w : World} {g : Nat → Nat} {nd : Nat} {dp : Int} {neg tr : Bool} (h : Sr w0 q w g nd dp neg tr) {c : Nat} (h8 : nd < 800) (c1 : 48 ≤ c) (c2 : c ≤ 57) (c0 : nd = 0 → 49 ≤ c) :
  Sr w0 q ((w.setCell ⟨q,nd,none⟩ (.int .u8 (c : Int))).setCell ⟨q,800,none⟩ (.int .i64 ((nd + 1 : Nat) : Int))) (put g nd c) (nd + 1) dp neg tr := by
 refine ⟨h8,digs_put h.digs c1 c2,fun _ => ?_,(h.at_.putD h8 c).putNd (nd + 1),(h.low.setCell h.at_.le _).setCell h.at_.le _⟩
 by_cases e : nd = 0
 ·subst e; rw [put_same]; exact c0 rfl
 ·rw [put_ne g c (by omega)]; exact h.first (by omega)
set_option maxRecDepth 100000 in
set_option maxHeartbeats 8000000 in
theorem set_any (w0 : World) (q : Nat) (g : Nat → Nat) (s : ByteArray) (hs : s.size ≤ 140737488355328) (w : World) (D : Dr w0.heap.size q w g 0 0 false false) (low : Below w0.heap.size w0 w) :
  Calls Tryz.prog 183 #[.pointer (some ⟨q,0,none⟩),.string s] w fun e w' => ∃ v,e = .returned v ∧ IsB v ∧ Sd w0 q w' := by
 have S0 : Sr w0 q w g 0 0 false false := ⟨by omega,fun i hi => absurd hi (Nat.not_lt_zero i),fun h => absurd h (by decide),D,low⟩
 have hlow := lower_any
 have z1 := D.frz 802
 have c1 := D.negc
 have S1 := S0.putNeg false
 have S2 := S1.putTr false
 have z2 := S1.at_.frz 803
 have c2 := S1.at_.trc
 obtain ⟨W1,hW1⟩ : ∃ W,Hid (w.setCell ⟨q,802,none⟩ (.bool false) = W) := ⟨_,Lib.hid rfl⟩
 obtain ⟨W2,hW2⟩ : ∃ W,Hid (W1.setCell ⟨q,803,none⟩ (.bool false) = W) := ⟨_,Lib.hid rfl⟩
 rw [hW1.out] at S1 S2 z2 c2
 rw [hW2.out] at S2
 clear S0 D
 have HX := Lib.hid S2
 clear S1 S2
 go_enter Tryz.func183,Tryz.ntmps183
 go_upto_region 3 with fail
 rw [hW1.out]
 clear z1 c1
 go_upto_region 4 with fail
 rw [hW2.out]
 clear z2 c2 hW1 hW2 low
 by_cases h0 : s.size = 0
 ·have hE : s = ByteArray.empty := ByteArray.size_eq_zero_iff.1 h0
  have d0 : decide (s = ByteArray.empty) = true := decide_eq_true hE
  have h0' : (s.size : Int) ≤ 0 := by omega
  clear h0 hE
  go_wp2_with fail
  go_ret
  exact ⟨_,rfl,⟨_,rfl⟩,HX.out.sd⟩
 ·have hE : ¬ s = ByteArray.empty := fun e => h0 (by rw [e]; rfl)
  have d0 : decide (s = ByteArray.empty) = false := decide_eq_false hE
  have d0' : (0 : Int) < (s.size : Int) := by omega
  have hs0 : 0 < s.size := by omega
  go_upto_block 0 with fail
  go_cut [5] from 23 to 33 (fun s5 wy => ∃ (i : Nat) (neg : Bool),s5 = .int .i64 i ∧ i ≤ 1 ∧ Hid (Sr w0 q wy g 0 0 neg false))
  case first =>
   obtain ⟨c,hc⟩ : ∃ c,s[0] = c := ⟨_,rfl⟩
   have c255 : c.toNat < 256 := c.toNat_lt
   by_cases a1 : c.toNat = 43
   ·have a1' : ((c.toNat : Int) == 43) = true := by rw [beq_iff_eq]; omega
    clear a1
    go_wp2_with fail
    go_meet
    exact ⟨1,false,rfl,by omega,HX⟩
   ·have a1' : ((c.toNat : Int) == 43) = false := by rw [beq_eq_false_iff_ne]; omega
    by_cases a2 : c.toNat = 45
    ·have a2' : ((c.toNat : Int) == 45) = true := by rw [beq_iff_eq]; omega
     have z1 := HX.out.at_.frz 802
     have c1 := HX.out.at_.negc
     have HX' := Lib.hid (HX.out.putNeg true)
     clear a2
     go_wp2_with fail
     go_meet
     exact ⟨1,true,rfl,by omega,HX'⟩
    ·have a2' : ((c.toNat : Int) == 45) = false := by rw [beq_eq_false_iff_ne]; omega
     go_wp2_with fail
     go_meet
     exact ⟨0,false,rfl,by omega,HX⟩
  case rest =>
   clear HX
   obtain ⟨i0,neg,rfl,hi0,HX⟩ := hcut
   go_upto_block 1 with fail
   go_cut [5,6,7] from 34 to 116 (fun s5 s6 s7 wy => ∃ (i : Nat) (sd sg : Bool) (g : Nat → Nat) (nd : Nat) (dp : Int) (tr : Bool),s5 = .int .i64 i ∧ s6 = .bool sd ∧ s7 = .bool sg ∧ i ≤ s.size ∧ -140737488355328 ≤ dp ∧ dp ≤ 800 ∧ Hid (Sr w0 q wy g nd dp neg tr))
   case first =>
    go_wp2_with fail
    go_loopw [5,6,7] (fun s5 s6 s7 wr => ∃ (i : Nat) (sd sg : Bool) (g : Nat → Nat) (nd : Nat) (dp : Int) (tr : Bool),s5 = .int .i64 i ∧ s6 = .bool sd ∧ s7 = .bool sg ∧ i ≤ s.size ∧ -(i : Int) ≤ dp ∧ dp ≤ 800 ∧ Hid (Sr w0 q wr g nd dp neg tr)) (fun s5 _ _ _ => s.size - (intOf s5).toNat)
    case atStart => exact ⟨i0,false,false,g,0,0,false,rfl,rfl,rfl,by omega,by omega,by omega,HX⟩
    case round =>
     clear HX hi0
     obtain ⟨i,sd,sg,g,nd,dp,tr,rfl,rfl,rfl,hi,p1,p2,HX⟩ := hrel
     by_cases his : i < s.size
     ·have his' : (i : Int) < (s.size : Int) := by omega
      obtain ⟨c,hc⟩ : ∃ c,s[i] = c := ⟨_,rfl⟩
      have c255 : c.toNat < 256 := c.toNat_lt
      by_cases a1 : c.toNat = 95
      ·have a1' : ((c.toNat : Int) == 95) = true := by rw [beq_iff_eq]; omega
       clear a1
       go_wp2_with fail
       exact ⟨⟨i + 1,sd,sg,g,nd,dp,tr,rfl,rfl,rfl,his,by omega,p2,HX⟩,by simp [intOf] <;> omega⟩
      ·have a1' : ((c.toNat : Int) == 95) = false := by rw [beq_eq_false_iff_ne]; omega
       by_cases a2 : c.toNat = 46
       ·have a2' : ((c.toNat : Int) == 46) = true := by rw [beq_iff_eq]; omega
        clear a2
        cases sd with
        | true =>
         go_wp2_with fail
         go_ret
         exact ⟨_,rfl,⟨_,rfl⟩,HX.out.sd⟩
        | false =>
         have n8 := HX.out.le
         have e1 := HX.out.at_.ndc
         have e2 := HX.out.at_.dpc
         have z1 := HX.out.at_.frz 801
         have HX' := Lib.hid (HX.out.putDp (nd : Int))
         clear HX
         go_wp2_with fail
         exact ⟨⟨i + 1,true,sg,g,nd,_,tr,rfl,rfl,rfl,his,by omega,by omega,HX'⟩,by simp [intOf] <;> omega⟩
       ·have a2' : ((c.toNat : Int) == 46) = false := by rw [beq_eq_false_iff_ne]; omega
        by_cases a3 : 48 ≤ c.toNat
        ·have a3' : (48 : Int) ≤ (c.toNat : Int) := by omega
         by_cases a4 : c.toNat ≤ 57
         ·have a4' : (c.toNat : Int) ≤ 57 := by omega
          have e1 := HX.out.at_.ndc
          have e2 := HX.out.at_.dpc
          have n8 := HX.out.le
          by_cases a5 : c.toNat = 48 ∧ nd = 0
          ·have a5' : ((c.toNat : Int) == 48) = true := by rw [beq_iff_eq]; omega
           have a6' : ((nd : Int) == 0) = true := by rw [beq_iff_eq]; omega
           have z1 := HX.out.at_.frz 801
           have HX' := Lib.hid (HX.out.putDp (dp - 1))
           clear HX a5
           go_wp2_with fail
           exact ⟨⟨i + 1,sd,true,g,nd,_,tr,rfl,rfl,rfl,his,by omega,by omega,HX'⟩,by simp [intOf] <;> omega⟩
          ·by_cases a7 : nd < 800
           ·have a7' : (nd : Int) < 800 := by omega
            have HM := Lib.hid (HX.out.more a7 a3 a4 (fun e => by omega))
            have z1 := HX.out.at_.frz nd
            obtain ⟨y,e3⟩ : ∃ y,wr.cell? ⟨q,nd,none⟩ = some y := ⟨_,HX.out.at_.dig nd a7⟩
            obtain ⟨W,hW⟩ : ∃ W,Hid (wr.setCell ⟨q,nd,none⟩ (.int .u8 (c.toNat : Int)) = W) := ⟨_,Lib.hid rfl⟩
            have DW := HX.out.at_.putD a7 c.toNat
            have LW : Below w0.heap.size w0 (wr.setCell ⟨q,nd,none⟩ (.int .u8 (c.toNat : Int))) := HX.out.low.setCell HX.out.at_.le _
            rw [hW.out] at DW LW
            go_upto_region 22 with fail
            go_cut [79] from 69 to 78 (fun s79 wy => s79 = .bool false ∧ wy = wr)
            case first =>
             by_cases a8 : c.toNat = 48
             ·have a8' : ((c.toNat : Int) == 48) = true := by rw [beq_iff_eq]; omega
              have a9' : ((nd : Int) == 0) = false := by rw [beq_eq_false_iff_ne]; omega
              clear a8
              go_wp2_with fail
              go_meet
              exact ⟨rfl,rfl⟩
             ·have a8' : ((c.toNat : Int) == 48) = false := by rw [beq_eq_false_iff_ne]; omega
              go_wp2_with fail
              go_meet
              exact ⟨rfl,rfl⟩
            case rest =>
             obtain ⟨rfl,hwc⟩ := hcut
             obtain rfl : wr = wc := hwc.symm
             clear a5
             go_upto_region 25 with fail
             go_region_with (fail)
             all_goals
              rw [hW.out]
              obtain ⟨V,hV⟩ : ∃ V,Hid (W.drew = V) := ⟨_,Lib.hid rfl⟩
              have DV := DW.drewN 1
              have LV := below_drewN LW 1
              have hV' : Hid (W.drewN 1 = V) := hV
              rw [hV'.out] at DV LV
              rw [hV.out]
              have e1 := DV.ndc
              have z1 := DV.frz 800
              have eN : (nd : Int) + 1 = ((nd + 1 : Nat) : Int) := by omega
              have HX' : Hid (Sr w0 q (V.setCell ⟨q,800,none⟩ (.int .i64 ((nd + 1 : Nat) : Int))) (put g nd c.toNat) (nd + 1) dp neg tr) := Lib.hid ⟨HM.out.le,HM.out.digs,HM.out.first,DV.putNd (nd + 1),LV.setCell DV.le _⟩
              rw [← eN] at HX'
              clear HM HX DW LW hW hV hV' eN e2 e3 LV DV
              go_wp2_with fail
              exact ⟨⟨i + 1,sd,true,_,nd + 1,dp,tr,rfl,rfl,rfl,his,by omega,p2,HX'⟩,by simp [intOf] <;> omega⟩
           ·have a7' : decide ((nd : Int) < 800) = false := by simp; omega
            have a7'' : (800 : Int) ≤ (nd : Int) := by omega
            have a9' : ((nd : Int) == 0) = false := by rw [beq_eq_false_iff_ne]; omega
            clear a5
            by_cases a8 : c.toNat = 48
            ·have a8' : ((c.toNat : Int) == 48) = true := by rw [beq_iff_eq]; omega
             clear a8
             go_wp2_with fail
             exact ⟨⟨i + 1,sd,true,g,nd,dp,tr,rfl,rfl,rfl,his,by omega,p2,HX⟩,by simp [intOf] <;> omega⟩
            ·have a8' : ((c.toNat : Int) == 48) = false := by rw [beq_eq_false_iff_ne]; omega
             have z1 := HX.out.at_.frz 803
             have e3 := HX.out.at_.trc
             have HX' := Lib.hid (HX.out.putTr true)
             clear HX
             go_wp2_with fail
             exact ⟨⟨i + 1,sd,true,g,nd,dp,true,rfl,rfl,rfl,his,by omega,p2,HX'⟩,by simp [intOf] <;> omega⟩
         ·have a4' : decide ((c.toNat : Int) ≤ 57) = false := by simp; omega
          have a4'' : (57 : Int) < (c.toNat : Int) := by omega
          go_wp2_with fail
          go_meet
          exact ⟨i,sd,sg,g,nd,dp,tr,rfl,rfl,rfl,hi,by omega,p2,HX⟩
        ·have a3' : decide ((48 : Int) ≤ (c.toNat : Int)) = false := by simp; omega
         have a3'' : (c.toNat : Int) < 48 := by omega
         go_wp2_with fail
         go_meet
         exact ⟨i,sd,sg,g,nd,dp,tr,rfl,rfl,rfl,hi,by omega,p2,HX⟩
     ·have his' : decide ((i : Int) < (s.size : Int)) = false := by simp; omega
      have his2 : s.size ≤ i := by omega
      go_wp2_with fail
      go_meet
      exact ⟨i,sd,sg,g,nd,dp,tr,rfl,rfl,rfl,hi,by omega,p2,HX⟩
   case rest =>
    clear HX hi0
    obtain ⟨i,sd,sg,g,nd,dp,tr,rfl,rfl,rfl,hi,p1,p2,HX⟩ := hcut
    cases sg with
    | false =>
     go_wp2_with fail
     go_ret
     exact ⟨_,rfl,⟨_,rfl⟩,HX.out.sd⟩
    | true =>
    go_upto_if 120 with fail
    go_cut [120] from 120 to 127 (fun _ wy => ∃ (dp : Int),-140737488355328 ≤ dp ∧ dp ≤ 800 ∧ Hid (Sr w0 q wy g nd dp neg tr))
    case first =>
     cases sd with
     | true =>
      go_wp2_with fail
      go_meet
      exact ⟨dp,p1,p2,HX⟩
     | false =>
      have n8 := HX.out.le
      have e1 := HX.out.at_.ndc
      have e2 := HX.out.at_.dpc
      have z1 := HX.out.at_.frz 801
      have HX' := Lib.hid (HX.out.putDp (nd : Int))
      go_wp2_with fail
      go_meet
      exact ⟨_,by omega,by omega,HX'⟩
    case rest =>
     clear HX p1 p2
     obtain ⟨dp,p1,p2,HX⟩ := hcut
     go_upto_region 32 with fail
     go_cut [138] from 128 to 137 (fun s138 wy => ∃ b : Bool,s138 = .bool b ∧ Hid (b = true → i < s.size) ∧ Hid (Sr w0 q wy g nd dp neg tr))
     case first =>
      by_cases his : i < s.size
      ·have his' : (i : Int) < (s.size : Int) := by omega
       obtain ⟨c,hc⟩ : ∃ c,s[i] = c := ⟨_,rfl⟩
       have c255 : c.toNat < 256 := c.toNat_lt
       have hl := hlow c.toNat c255
       obtain ⟨d,hd⟩ : ∃ d,Hid (c.toNat ||| 32 = d) := ⟨_,Lib.hid rfl⟩
       rw [hd.out] at hl
       go_wp2_with fail
       refine (hl _).mono ?_
       rintro e w' ⟨rfl,rfl⟩
       go_wp2_with fail
       go_meet
       exact ⟨_,rfl,Lib.hid (fun _ => his),HX⟩
      ·have his' : decide ((i : Int) < (s.size : Int)) = false := by simp; omega
       have his2 : s.size ≤ i := by omega
       go_wp2_with fail
       go_meet
       exact ⟨false,rfl,Lib.hid (fun h => absurd h (by decide)),HX⟩
     case rest =>
      clear HX
      obtain ⟨bb,rfl,HB,HX⟩ := hcut
      go_upto_if 138 with fail
      go_cut [5,8,9,138] from 138 to 219 (fun s5 _ _ _ wy => ∃ (i : Nat),s5 = .int .i64 i ∧ i ≤ s.size ∧ Hid (Sd w0 q wy))
      case first =>
       cases bb with
       | false =>
        go_wp2_with fail
        go_meet
        exact ⟨i,rfl,hi,Lib.hid HX.out.sd⟩
       | true =>
        have his := HB.out rfl
        clear HB
        obtain ⟨j,hj⟩ : ∃ j,Hid (i + 1 = j) := ⟨_,Lib.hid rfl⟩
        have ej : (i : Int) + 1 = (j : Int) := by have := hj.out; omega
        have js : j ≤ s.size := by have := hj.out; omega
        have j1 : j ≤ 140737488355328 := by omega
        by_cases h2 : j < s.size
        ·have h2' : (j : Int) < (s.size : Int) := by omega
         have h2'' : decide ((s.size : Int) ≤ (j : Int)) = false := by simp; omega
         have h2n : decide (s.size ≤ j) = false := by simp; omega
         obtain ⟨c,hc⟩ : ∃ c,s[j] = c := ⟨_,rfl⟩
         have c255 : c.toNat < 256 := c.toNat_lt
         go_upto_block 4 with fail
         go_cut [5,8] from 148 to 155 (fun s5 s8 wy => ∃ (k : Nat) (x : Int),s5 = .int .i64 k ∧ s8 = .int .i64 x ∧ k ≤ s.size ∧ Hid (x = 1 ∨ x = -1) ∧ Hid (Sr w0 q wy g nd dp neg tr))
         case first =>
          obtain ⟨k,hk⟩ : ∃ k,Hid (j + 1 = k) := ⟨_,Lib.hid rfl⟩
          have ek : (j : Int) + 1 = (k : Int) := by have := hk.out; omega
          have ks : k ≤ s.size := by have := hk.out; omega
          by_cases a1 : c.toNat = 43
          ·have a1' : ((c.toNat : Int) == 43) = true := by rw [beq_iff_eq]; omega
           clear a1 ej
           go_wp2_with fail
           go_meet
           exact ⟨k,1,rfl,rfl,ks,Lib.hid (.inl rfl),HX⟩
          ·have a1' : ((c.toNat : Int) == 43) = false := by rw [beq_eq_false_iff_ne]; omega
           by_cases a2 : c.toNat = 45
           ·have a2' : ((c.toNat : Int) == 45) = true := by rw [beq_iff_eq]; omega
            clear a2 ej
            go_wp2_with fail
            go_meet
            exact ⟨k,-1,rfl,rfl,ks,Lib.hid (.inr rfl),HX⟩
           ·have a2' : ((c.toNat : Int) == 45) = false := by rw [beq_eq_false_iff_ne]; omega
            clear ej
            go_wp2_with fail
            go_meet
            exact ⟨j,1,rfl,rfl,js,Lib.hid (.inl rfl),HX⟩
         case rest =>
          clear HX
          obtain ⟨k,x,rfl,rfl,ks,HX1,HX⟩ := hcut
          go_upto_region 42 with fail
          go_cut [171] from 156 to 170 (fun s171 wy => ∃ b : Bool,s171 = .bool b ∧ Hid (Sr w0 q wy g nd dp neg tr))
          case first =>
           by_cases his3 : k < s.size
           ·have d1 : decide ((s.size : Int) ≤ (k : Int)) = false := by simp; omega
            have d1n : decide (s.size ≤ k) = false := by simp; omega
            have d1' : (k : Int) < (s.size : Int) := by omega
            obtain ⟨c2,hc2⟩ : ∃ c,s[k] = c := ⟨_,rfl⟩
            have c2255 : c2.toNat < 256 := c2.toNat_lt
            by_cases a1 : c2.toNat < 48
            ·have a1' : (c2.toNat : Int) < 48 := by omega
             go_wp2_with fail
             go_meet
             exact ⟨_,rfl,HX⟩
            ·have a1' : decide ((c2.toNat : Int) < 48) = false := by simp; omega
             have a1'' : (48 : Int) ≤ (c2.toNat : Int) := by omega
             go_wp2_with fail
             go_meet
             exact ⟨_,rfl,HX⟩
           ·have d1 : (s.size : Int) ≤ (k : Int) := by omega
            go_wp2_with fail
            go_meet
            exact ⟨_,rfl,HX⟩
          case rest =>
           clear HX
           obtain ⟨b3,rfl,HX⟩ := hcut
           cases b3 with
           | true =>
            go_wp2_with fail
            go_ret
            exact ⟨_,rfl,⟨_,rfl⟩,HX.out.sd⟩
           | false =>
            go_upto_block 5 with fail
            go_cut [5,9] from 172 to 209 (fun s5 s9 wy => ∃ (k e : Nat),s5 = .int .i64 k ∧ s9 = .int .i64 e ∧ k ≤ s.size ∧ e ≤ 99999 ∧ Hid (Sr w0 q wy g nd dp neg tr))
            case first =>
             go_wp2_with fail
             go_loopw [5,9] (fun s5 s9 wr => ∃ (k e : Nat),s5 = .int .i64 k ∧ s9 = .int .i64 e ∧ k ≤ s.size ∧ e ≤ 99999 ∧ Hid (Sr w0 q wr g nd dp neg tr)) (fun s5 _ _ => s.size - (intOf s5).toNat)
             case atStart => exact ⟨k,0,rfl,rfl,ks,by omega,HX⟩
             case round =>
              clear HX ks
              obtain ⟨k,e,rfl,rfl,ks,he,HX⟩ := hrel
              by_cases hks : k < s.size
              ·have d1 : (k : Int) < (s.size : Int) := by omega
               obtain ⟨c2,hc2⟩ : ∃ c,s[k] = c := ⟨_,rfl⟩
               have c2255 : c2.toNat < 256 := c2.toNat_lt
               by_cases u1 : c2.toNat = 95
               ·have u1' : ((c2.toNat : Int) == 95) = true := by rw [beq_iff_eq]; omega
                have u2 : (48 : Int) ≤ (c2.toNat : Int) := by omega
                have u3 : decide ((c2.toNat : Int) ≤ 57) = false := by simp; omega
                have u3' : (57 : Int) < (c2.toNat : Int) := by omega
                clear u1
                go_wp2_with fail
                exact ⟨⟨k + 1,e,rfl,rfl,hks,he,HX⟩,by simp [intOf] <;> omega⟩
               ·have u1' : ((c2.toNat : Int) == 95) = false := by rw [beq_eq_false_iff_ne]; omega
                by_cases u2 : 48 ≤ c2.toNat
                ·have u2' : (48 : Int) ≤ (c2.toNat : Int) := by omega
                 by_cases u3 : c2.toNat ≤ 57
                 ·have u3' : (c2.toNat : Int) ≤ 57 := by omega
                  by_cases u4 : e < 10000
                  ·have u4' : (e : Int) < 10000 := by omega
                   obtain ⟨e2,he2⟩ : ∃ e2,Hid (e * 10 + c2.toNat - 48 = e2) := ⟨_,Lib.hid rfl⟩
                   have ee2 : (e : Int) * 10 + (c2.toNat : Int) - 48 = (e2 : Int) := by have := he2.out; omega
                   have e2b : e2 ≤ 99999 := by have := he2.out; omega
                   go_wp2_with fail
                   exact ⟨⟨k + 1,e2,rfl,rfl,hks,e2b,HX⟩,by simp [intOf] <;> omega⟩
                  ·have u4' : decide ((e : Int) < 10000) = false := by simp; omega
                   have u4'' : (10000 : Int) ≤ (e : Int) := by omega
                   go_wp2_with fail
                   exact ⟨⟨k + 1,e,rfl,rfl,hks,he,HX⟩,by simp [intOf] <;> omega⟩
                 ·have u3' : decide ((c2.toNat : Int) ≤ 57) = false := by simp; omega
                  have u3'' : (57 : Int) < (c2.toNat : Int) := by omega
                  go_wp2_with fail
                  go_meet
                  exact ⟨k,e,rfl,rfl,ks,he,HX⟩
                ·have u2' : decide ((48 : Int) ≤ (c2.toNat : Int)) = false := by simp; omega
                 have u2'' : (c2.toNat : Int) < 48 := by omega
                 go_wp2_with fail
                 go_meet
                 exact ⟨k,e,rfl,rfl,ks,he,HX⟩
              ·have d1 : decide ((k : Int) < (s.size : Int)) = false := by simp; omega
               have d1' : s.size ≤ k := by omega
               go_wp2_with fail
               go_meet
               exact ⟨k,e,rfl,rfl,ks,he,HX⟩
            case rest =>
             clear HX ks
             obtain ⟨k,e,rfl,rfl,ks,he,HX⟩ := hcut
             obtain ⟨p,hp⟩ : ∃ p,Hid ((e : Int) * x = p) := ⟨_,Lib.hid rfl⟩
             have ep : (e : Int) * x = p := hp.out
             have pb : -99999 ≤ p ∧ p ≤ 99999 := by
              rw [← hp.out]
              rcases HX1.out with h | h <;> rw [h] <;> omega
             obtain ⟨p3,p4⟩ := pb
             have e1 := HX.out.at_.dpc
             have z1 := HX.out.at_.frz 801
             have HX' := Lib.hid (HX.out.putDp (dp + p)).sd
             clear HX
             go_wp2_with fail
             go_meet
             exact ⟨k,rfl,ks,HX'⟩
        ·have h2'' : (s.size : Int) ≤ (j : Int) := by omega
         go_wp2_with fail
         go_ret
         exact ⟨_,rfl,⟨_,rfl⟩,HX.out.sd⟩
      case rest =>
       clear HX
       obtain ⟨i2,rfl,hi2,HX⟩ := hcut
       by_cases he : i2 = s.size
       ·have d1 : ((i2 : Int) == (s.size : Int)) = true := by rw [beq_iff_eq]; omega
        clear he
        go_wp2_with fail
        go_ret
        exact ⟨_,rfl,⟨_,rfl⟩,HX.out⟩
       ·have d1 : ((i2 : Int) == (s.size : Int)) = false := by rw [beq_eq_false_iff_ne]; omega
        go_wp2_with fail
        go_ret
        exact ⟨_,rfl,⟨_,rfl⟩,HX.out⟩
end Go.Proofs.YtalaajniammggaaGreatDoor
