/- Shift; shouldRoundUp; RoundedInteger. -/
import Derived.Test.YtalaajniammggaaGreatDoorXDb
import Derived.ScopeJumps
import Derived.WalkMore
namespace Go.Proofs.YtalaajniammggaaGreatDoor
open Go.RowKit
theorem Chz.keptB {w w' : World} (h : Chz w) (hb : Below w.heap.size w w') : Chz w' :=
 h.kept fun _ ⟨_,hv⟩ => hb.cell (World.block_lt_of_cell? w _ hv)
structure Dc (w0 : World) (q : Nat) (w : World) (g : Nat → Nat) (nd : Nat) (dp : Int) (neg tr : Bool) : Prop where
 at_ : Dr w0.heap.size q w g nd dp neg tr
 one : 1 ≤ nd
 le : nd ≤ 800
 digs : Digs g nd
 first : 49 ≤ g 0
 low : Below w0.heap.size w0 w
set_option maxRecDepth 100000 in
set_option maxHeartbeats 1000000 in
theorem shift_left (w0 : World) (q nd k : Nat) (g : Nat → Nat) (dp : Int) (neg tr : Bool) (k1 : 1 ≤ k) (k2 : k ≤ 60) (hd1 : -1000000 ≤ dp) (hd2 : dp ≤ 1000000) (w : World) (C : Chz w0) (D : Dc w0 q w g nd dp neg tr) :
  Calls Tryz.prog 148 #[.pointer (some ⟨q,0,none⟩),.int .i64 k] w fun e w' => e = .returned (.tuple #[]) ∧ ∃ (g' : Nat → Nat) (nd' dl : Nat) (tr' : Bool),dl ≤ 61 ∧ (dl = 0 → g 0 < g' 0) ∧ Dc w0 q w' g' nd' (dp + dl) neg tr' := by
 have hL := left_any w0.heap.size q nd k g dp neg tr D.one D.le D.digs D.first k1 k2 hd1 hd2 w (C.keptB D.low) D.at_
 have c1 := D.at_.ndc
 have n1 := D.one
 have HD := Lib.hid D
 have d1 : ((nd : Int) == 0) = false := by rw [beq_eq_false_iff_ne]; omega
 have d2 : (0 : Int) < (k : Int) := by omega
 have d3 : decide ((60 : Int) < (k : Int)) = false := by simp; omega
 have d3' : (k : Int) ≤ 60 := by omega
 clear D C
 go_enter Tryz.func148,Tryz.ntmps148
 go_wp2_with fail
 go_loopw [1] (fun s1 wr => s1 = .int .i64 k ∧ wr = w) (fun _ _ => 0)
 case atStart => exact ⟨rfl,rfl⟩
 case round =>
  obtain ⟨rfl,rfl⟩ := hrel
  go_wp2_with fail
  refine hL.mono ?_
  rintro e w2 ⟨rfl,g',nd',dl,tr',a1,a2,a3,a4,a5,a6,a7,a8⟩
  go_wp2_with fail
  refine bodyPost_end (results_none rfl _ _ _) rfl ?_
  exact ⟨rfl,g',nd',dl,tr',a1,a2,a7,a3,a4,a5,a6,HD.out.low.trans a8⟩
set_option maxRecDepth 100000 in
set_option maxHeartbeats 1000000 in
theorem shift_right (w0 : World) (q nd k : Nat) (g : Nat → Nat) (dp : Int) (neg tr : Bool) (k1 : 1 ≤ k) (k2 : k ≤ 60) (hd1 : -1000000 ≤ dp) (hd2 : dp ≤ 1000000) (w : World) (D : Dc w0 q w g nd dp neg tr) :
  Calls Tryz.prog 148 #[.pointer (some ⟨q,0,none⟩),.int .i64 (-(k : Int))] w fun e w' => e = .returned (.tuple #[]) ∧ ∃ (g' : Nat → Nat) (nd' r : Nat) (tr' : Bool),1 ≤ r ∧ r ≤ 20 ∧ (r = 1 → 2 ^ k ≤ g 0 - 48 ∧ g' 0 = 48 + (g 0 - 48) / 2 ^ k) ∧ Dc w0 q w' g' nd' (dp - ((r : Int) - 1)) neg tr' := by
 have hL := right_any w0.heap.size q nd k g dp neg tr D.one D.le D.digs D.first k1 k2 hd1 hd2 w D.at_
 have c1 := D.at_.ndc
 have n1 := D.one
 have HD := Lib.hid D
 have d1 : ((nd : Int) == 0) = false := by rw [beq_eq_false_iff_ne]; omega
 obtain ⟨x,hx⟩ : ∃ x,Hid (-(k : Int) = x) := ⟨_,Lib.hid rfl⟩
 rw [hx.out]
 have ex : -x = (k : Int) := by have := hx.out; omega
 have d2 : decide ((0 : Int) < x) = false := by have := hx.out; simp; omega
 have d2' : x ≤ 0 := by have := hx.out; omega
 have d4 : x < 0 := by have := hx.out; omega
 have d3 : decide (x < (-60 : Int)) = false := by have := hx.out; simp; omega
 have d3' : -60 ≤ x := by have := hx.out; omega
 clear D
 go_enter Tryz.func148,Tryz.ntmps148
 go_wp2_with fail
 go_loopw [1] (fun s1 wr => s1 = .int .i64 x ∧ wr = w) (fun _ _ => 0)
 case atStart => exact ⟨rfl,rfl⟩
 case round =>
  obtain ⟨rfl,rfl⟩ := hrel
  go_wp2_with fail
  refine hL.mono ?_
  rintro e w2 ⟨rfl,g',nd',r,tr',a1,a2,b1,a3,a4,a5,a6,a7,a8⟩
  go_wp2_with fail
  refine bodyPost_end (results_none rfl _ _ _) rfl ?_
  exact ⟨rfl,g',nd',r,tr',a1,a2,b1,a7,a3,a4,a5,a6,HD.out.low.trans a8⟩
set_option maxRecDepth 100000 in
set_option maxHeartbeats 1000000 in
theorem shift_far (w0 : World) (q nd N : Nat) (g : Nat → Nat) (dp : Int) (neg tr : Bool) (k1 : 1 ≤ N) (k2 : N ≤ 200000) (hd1 : -100000 ≤ dp) (hd2 : dp ≤ 100000) (w : World) (D : Dc w0 q w g nd dp neg tr) :
  Calls Tryz.prog 148 #[.pointer (some ⟨q,0,none⟩),.int .i64 (-(N : Int))] w fun e w' => e = .returned (.tuple #[]) ∧ ∃ (g' : Nat → Nat) (nd' : Nat) (dp' : Int) (tr' : Bool),dp' ≤ dp ∧ -310000 ≤ dp' ∧ Dc w0 q w' g' nd' dp' neg tr' := by
 have hR := right_any
 have c1 := D.at_.ndc
 have n1 := D.one
 have HD := Lib.hid D
 have d1 : ((nd : Int) == 0) = false := by rw [beq_eq_false_iff_ne]; omega
 obtain ⟨x,hx⟩ : ∃ x,Hid (-(N : Int) = x) := ⟨_,Lib.hid rfl⟩
 rw [hx.out]
 have d2 : decide ((0 : Int) < x) = false := by have := hx.out; simp; omega
 have d2' : x ≤ 0 := by have := hx.out; omega
 have d4 : x < 0 := by have := hx.out; omega
 have d5 : -200000 ≤ x := by have := hx.out; omega
 clear D
 go_enter Tryz.func148,Tryz.ntmps148
 go_wp2_with fail
 go_loopw [1] (fun s1 wr => ∃ (y : Int) (g' : Nat → Nat) (nd' : Nat) (dp' : Int) (tr' : Bool),s1 = .int .i64 y ∧ x ≤ y ∧ y < 0 ∧ dp' ≤ dp ∧ dp + (x - y) ≤ dp' ∧ Hid (Dc w0 q wr g' nd' dp' neg tr')) (fun s1 _ => (-(intOf s1)).toNat)
 case atStart => exact ⟨x,g,nd,dp,tr,rfl,Int.le_refl _,d4,Int.le_refl _,by omega,HD⟩
 case round =>
  clear HD c1 d1 n1
  obtain ⟨y,g',nd',dp',tr',rfl,y1,y2,y3,y4,HX⟩ := hrel
  by_cases hy : y < -60
  ·have hL := hR w0.heap.size q nd' 60 g' dp' neg tr' HX.out.one HX.out.le HX.out.digs HX.out.first (by omega) (by omega) (by omega) (by omega) wr HX.out.at_
   go_wp2_with fail
   refine hL.mono ?_
   rintro e w2 ⟨rfl,g2,nd2,r,tr2,a1,a2,b1,a3,a4,a5,a6,a7,a8⟩
   have HX2 : Hid (Dc w0 q w2 g2 nd2 (dp' - ((r : Int) - 1)) neg tr2) := Lib.hid ⟨a7,a3,a4,a5,a6,HX.out.low.trans a8⟩
   clear b1 a7 a8 HX
   go_wp2_with fail
   exact ⟨⟨_,g2,nd2,_,tr2,rfl,by omega,by omega,by omega,by omega,HX2⟩,by simp [intOf] <;> omega⟩
  ·have d6 : decide (y < (-60 : Int)) = false := by simp; omega
   have d6' : -60 ≤ y := by omega
   obtain ⟨k,hk⟩ : ∃ k : Nat,Hid ((k : Int) = -y) := ⟨(-y).toNat,Lib.hid (by omega)⟩
   have ek : -y = (k : Int) := hk.out.symm
   have hL := hR w0.heap.size q nd' k g' dp' neg tr' HX.out.one HX.out.le HX.out.digs HX.out.first (by omega) (by omega) (by omega) (by omega) wr HX.out.at_
   go_wp2_with fail
   refine hL.mono ?_
   rintro e w2 ⟨rfl,g2,nd2,r,tr2,a1,a2,b1,a3,a4,a5,a6,a7,a8⟩
   go_wp2_with fail
   refine bodyPost_end (results_none rfl _ _ _) rfl ?_
   exact ⟨rfl,g2,nd2,_,tr2,by omega,by omega,a7,a3,a4,a5,a6,HX.out.low.trans a8⟩
def IsB (v : Value) : Prop := ∃ r,v = .bool r
set_option maxRecDepth 100000 in
set_option maxHeartbeats 1000000 in
theorem roundUp_any (w0 : World) (q nd : Nat) (g : Nat → Nat) (dp : Int) (neg tr : Bool) (x : Int) (w : World) (D : Dc w0 q w g nd dp neg tr) :
  Calls Tryz.prog 167 #[.pointer (some ⟨q,0,none⟩),.int .i64 x] w fun e w' => ∃ v,e = .returned v ∧ IsB v ∧ w' = w := by
 have c1 := D.at_.ndc
 have n1 := D.one
 have n2 := D.le
 have HD := Lib.hid D
 clear D
 by_cases hx0 : x < 0
 ·go_enter Tryz.func167,Tryz.ntmps167
  go_wp2_with fail
  go_ret
  exact ⟨_,rfl,⟨_,rfl⟩,rfl⟩
 ·have d1 : decide (x < (0 : Int)) = false := by simp; omega
  have d1' : 0 ≤ x := by omega
  by_cases hxn : (nd : Int) ≤ x
  ·go_enter Tryz.func167,Tryz.ntmps167
   go_wp2_with fail
   go_ret
   exact ⟨_,rfl,⟨_,rfl⟩,rfl⟩
  ·have d2 : decide ((nd : Int) ≤ x) = false := by simp; omega
   obtain ⟨i,hi⟩ : ∃ i : Nat,x = (i : Int) := ⟨x.toNat,by omega⟩
   subst hi
   have hin : i < nd := by omega
   have c2 := HD.out.at_.dig i (by omega)
   have c3 := HD.out.at_.trc
   have gd := HD.out.digs i hin
   obtain ⟨y,hy⟩ : ∃ y,Hid (g i = y) := ⟨_,Lib.hid rfl⟩
   rw [hy.out] at c2 gd
   have small : ∀ j : Nat,j < nd → w.cell? ⟨q,j,none⟩ = some (.int .u8 (g j : Int)) ∧ 48 ≤ g j ∧ g j ≤ 57 := fun j hj => ⟨HD.out.at_.dig j (by omega),HD.out.digs j hj⟩
   by_cases h5 : y = 53
   ·have d5 : ((y : Int) == 53) = true := by rw [beq_iff_eq]; omega
    by_cases hl : i + 1 = nd
    ·have d6 : ((i : Int) + 1 == (nd : Int)) = true := by rw [beq_iff_eq]; omega
     have hl' := Lib.hid hl
     have h5' := Lib.hid h5
     clear hl h5
     cases tr with
     | true =>
      go_enter Tryz.func167,Tryz.ntmps167
      go_wp2_with fail
      go_ret
      exact ⟨_,rfl,⟨_,rfl⟩,rfl⟩
     | false =>
      by_cases i0 : i = 0
      ·have d7 : decide ((0 : Int) < (i : Int)) = false := by simp; omega
       have d7' : decide (0 < i) = false := by simp; omega
       have i0' := Lib.hid i0
       clear i0 small
       go_enter Tryz.func167,Tryz.ntmps167
       go_wp2_with fail
       go_ret
       exact ⟨_,rfl,⟨_,rfl⟩,rfl⟩
      ·have d7 : (0 : Int) < (i : Int) := by omega
       obtain ⟨j,hj⟩ : ∃ j,Hid (i = j + 1) := ⟨i - 1,Lib.hid (by omega)⟩
       have ej : (i : Int) - 1 = (j : Int) := by have := hj.out; omega
       have jn : j < nd := by have := hj.out; omega
       obtain ⟨c4,g4,g5⟩ := small j jn
       obtain ⟨z,hz⟩ : ∃ y,Hid (g j = y) := ⟨_,Lib.hid rfl⟩
       rw [hz.out] at c4 g4 g5
       clear small
       go_enter Tryz.func167,Tryz.ntmps167
       go_wp2_with fail
       go_ret
       exact ⟨_,rfl,⟨_,rfl⟩,rfl⟩
    ·have d6 : ((i : Int) + 1 == (nd : Int)) = false := by rw [beq_eq_false_iff_ne]; omega
     have h5' := Lib.hid h5
     clear h5 small
     go_enter Tryz.func167,Tryz.ntmps167
     go_wp2_with fail
     go_ret
     exact ⟨_,rfl,⟨_,rfl⟩,rfl⟩
   ·have d5 : ((y : Int) == 53) = false := by rw [beq_eq_false_iff_ne]; omega
    clear small
    go_enter Tryz.func167,Tryz.ntmps167
    go_wp2_with fail
    go_ret
    exact ⟨_,rfl,⟨_,rfl⟩,rfl⟩
theorem u64_bd (z : Int) : 0 ≤ IntKind.u64.wrap z ∧ IntKind.u64.wrap z < 18446744073709551616 := by
 rw [wrap_u64]; omega
set_option maxRecDepth 100000 in
set_option maxHeartbeats 1000000 in
theorem drounded_any (w0 : World) (q nd : Nat) (g : Nat → Nat) (dp : Int) (neg tr : Bool) (w : World) (D : Dc w0 q w g nd dp neg tr) :
  Calls Tryz.prog 192 #[.pointer (some ⟨q,0,none⟩)] w fun e w' => ∃ a : Int,0 ≤ a ∧ a < 18446744073709551616 ∧ e = .returned (.int .u64 a) ∧ w' = w := by
 have hR := roundUp_any w0 q nd g dp neg tr dp w D
 have c1 := D.at_.ndc
 have c0 := D.at_.dpc
 have n1 := D.one
 have n2 := D.le
 have HD := Lib.hid D
 clear D
 by_cases h20 : 20 < dp
 ·go_enter Tryz.func192,Tryz.ntmps192
  go_wp2_with fail
  go_ret
  exact ⟨_,by omega,by omega,rfl,rfl⟩
 ·have d0 : decide ((20 : Int) < dp) = false := by simp; omega
  have d0' : dp ≤ 20 := by omega
  go_enter Tryz.func192,Tryz.ntmps192
  go_upto_block 0 with fail
  go_cut [3,4] from 10 to 36 (fun s3 s4 wy => ∃ (i : Nat) (a : Int),s3 = .int .i64 i ∧ s4 = .int .u64 a ∧ i ≤ 20 ∧ 0 ≤ a ∧ a < 18446744073709551616 ∧ wy = w)
  case first =>
   go_wp2_with fail
   go_loopw [3,4] (fun s3 s4 wr => ∃ (i : Nat) (a : Int),s3 = .int .i64 i ∧ s4 = .int .u64 a ∧ i ≤ 20 ∧ 0 ≤ a ∧ a < 18446744073709551616 ∧ wr = w) (fun s3 _ _ => 20 - (intOf s3).toNat)
   case atStart => exact ⟨0,0,rfl,rfl,by omega,by omega,by omega,rfl⟩
   case round =>
    obtain ⟨i,a,rfl,rfl,hi,a1,a2,rfl⟩ := hrel
    by_cases h1 : (i : Int) < dp
    ·by_cases h2 : i < nd
     ·have h2' : (i : Int) < (nd : Int) := by omega
      have c2 := HD.out.at_.dig i (by omega)
      have gd := HD.out.digs i h2
      obtain ⟨y,hy⟩ : ∃ y,Hid (g i = y) := ⟨_,Lib.hid rfl⟩
      rw [hy.out] at c2 gd
      go_wp2_with fail
      refine ⟨⟨i + 1,_,rfl,rfl,by omega,(u64_bd _).1,(u64_bd _).2,?_⟩,by simp [intOf] <;> omega⟩
      trivial
     ·have h2' : decide ((i : Int) < (nd : Int)) = false := by simp; omega
      have h2'' : nd ≤ i := by omega
      go_wp2_with fail
      go_meet
      exact ⟨i,a,rfl,rfl,hi,a1,a2,rfl⟩
    ·have h1' : decide ((i : Int) < dp) = false := by simp; omega
     have h1'' : dp ≤ (i : Int) := by omega
     go_wp2_with fail
     go_meet
     exact ⟨i,a,rfl,rfl,hi,a1,a2,rfl⟩
  case rest =>
   obtain ⟨i0,a0,rfl,rfl,hi0,a01,a02,rfl⟩ := hcut
   go_upto_block 2 with fail
   go_cut [3,4] from 37 to 46 (fun s3 s4 wy => ∃ (a : Int),s4 = .int .u64 a ∧ 0 ≤ a ∧ a < 18446744073709551616 ∧ wy = wc)
   case first =>
    go_wp2_with fail
    go_loopw [3,4] (fun s3 s4 wr => ∃ (i : Nat) (a : Int),s3 = .int .i64 i ∧ s4 = .int .u64 a ∧ i ≤ 20 ∧ 0 ≤ a ∧ a < 18446744073709551616 ∧ wr = wc) (fun s3 _ _ => 20 - (intOf s3).toNat)
    case atStart => exact ⟨i0,a0,rfl,rfl,hi0,a01,a02,rfl⟩
    case round =>
     clear a01 a02 hi0
     obtain ⟨i,a,rfl,rfl,hi,a1,a2,rfl⟩ := hrel
     by_cases h1 : (i : Int) < dp
     ·go_wp2_with fail
      refine ⟨⟨i + 1,_,rfl,rfl,by omega,(u64_bd _).1,(u64_bd _).2,?_⟩,by simp [intOf] <;> omega⟩
      trivial
     ·have h1' : decide ((i : Int) < dp) = false := by simp; omega
      have h1'' : dp ≤ (i : Int) := by omega
      go_wp2_with fail
      go_meet
      exact ⟨a,rfl,a1,a2,rfl⟩
   case rest =>
    obtain ⟨a,rfl,a1,a2,rfl⟩ := hcut
    go_wp2_with fail
    refine hR.mono ?_
    rintro e w2 ⟨_,rfl,⟨r,rfl⟩,rfl⟩
    cases r with
    | true =>
     go_wp2_with fail
     go_ret
     exact ⟨_,(u64_bd _).1,(u64_bd _).2,rfl,rfl⟩
    | false =>
     go_wp2_with fail
     go_ret
     exact ⟨a,a1,a2,rfl,rfl⟩
end Go.Proofs.YtalaajniammggaaGreatDoor

/- floatBits: jumps ahead; the roads without a shift. -/
namespace Go.Proofs.YtalaajniammggaaGreatDoor
open Go.RowKit
def Exit.fwd (P : Program) (c : Code) (Q : Exit → Act → World → Prop) : Exit → Act → World → Prop
 | .goto l,a,w => ∃ rest,findLabel c l = some rest ∧ rest.wp P (Go.Exit.noGoto Q) a w
 | e,a,w => Q e a w
theorem wp_scope_ahead {P : Program} {a : Act} {w : World} {Q : Exit → Act → World → Prop} {c : Code} (first : c.wp P (Exit.fwd P c Q) a w) : (Code.scope c).wp P Q a w := by
 intro b k cs
 obtain ⟨e,a₁,w₁,hq,harr⟩ := first b (.inScope c :: k) cs
 cases e with
 | normal => exact ⟨.normal,a₁,w₁,hq,.head step_scope (Steps.trans harr (.one step_inScope))⟩
 | exit id => exact ⟨.exit id,a₁,w₁,hq,fun k' hk => .head step_scope (harr k' (by simp [exitTo,hk]))⟩
 | goto l' =>
  obtain ⟨rest,hf,hr⟩ := hq
  have hg : gotoIn l' (.inScope c :: k) = some (.code rest :: .inScope c :: k) := by simp [gotoIn,hf]
  obtain ⟨e₂,a₂,w₂,hq₂,harr₂⟩ := hr b (.inScope c :: k) cs
  cases e₂ with
  | normal => exact ⟨.normal,a₂,w₂,hq₂,Steps.trans (.head step_scope (harr _ hg)) (Steps.trans harr₂ (.one step_inScope))⟩
  | exit id => exact ⟨.exit id,a₂,w₂,hq₂,.of_steps (.head step_scope (harr _ hg)) fun k' hk => harr₂ k' (by simp [exitTo,hk])⟩
  | goto l => exact hq₂.elim
  | ret => exact ⟨_,a₂,w₂,hq₂,.of_steps (.head step_scope (harr _ hg)) harr₂⟩
  | panic ch => exact ⟨_,a₂,w₂,hq₂,.of_steps (.head step_scope (harr _ hg)) harr₂⟩
  | outgrown => exact ⟨_,a₂,w₂,hq₂,.of_steps (.head step_scope (harr _ hg)) harr₂⟩
 | ret => exact ⟨_,a₁,w₁,hq,.of_steps (.one step_scope) harr⟩
 | panic ch => exact ⟨_,a₁,w₁,hq,.of_steps (.one step_scope) harr⟩
 | outgrown => exact ⟨_,a₁,w₁,hq,.of_steps (.one step_scope) harr⟩
theorem wp_scope_named {P : Program} {a : Act} {w : World} {Q : Exit → Act → World → Prop} {c : Code}
  (first : ∀ Qf : Exit → Act → World → Prop,(∀ l rest a w,findLabel c l = some rest → rest.wp P (Go.Exit.noGoto Q) a w → Qf (.goto l) a w) → c.wp P Qf a w) : (Code.scope c).wp P Q a w :=
 wp_scope_ahead (first _ fun _ rest _ _ h1 h2 => ⟨rest,h1,h2⟩)
def powL : List Nat := [1,3,6,9,13,16,19,23,26]
structure Slow (w : World) : Prop where
 chz : Chz w
 pw : ∃ b o,w.cell? ⟨15,0,none⟩ = some (.slice (some ⟨b,o,none⟩) 9 9) ∧ ∀ j,j < 9 → w.cell? ⟨b,o + j,none⟩ = some (.int .i64 ((powL.getD j 0 : Nat) : Int))
 i0 : w.cell? ⟨13,0,none⟩ = some (.int .u64 52)
 i1 : w.cell? ⟨13,1,none⟩ = some (.int .u64 11)
 i2 : w.cell? ⟨13,2,none⟩ = some (.int .i64 (-1023))
theorem Slow.kept {w w' : World} (h : Slow w) (hb : Below w.heap.size w w') : Slow w' := by
 have hB : ∀ (a : Addr) v,w.cell? a = some v → w'.cell? a = some v := fun a v hv => (hb.cell (World.block_lt_of_cell? w _ hv)).trans hv
 obtain ⟨b,o,h1,h2⟩ := h.pw
 exact ⟨h.chz.keptB hb,⟨b,o,hB _ _ h1,fun j hj => hB _ _ (h2 j hj)⟩,hB _ _ h.i0,hB _ _ h.i1,hB _ _ h.i2⟩
theorem Dc.drewN {w0 : World} {q nd : Nat} {w : World} {g : Nat → Nat} {dp : Int} {neg tr : Bool} (h : Dc w0 q w g nd dp neg tr) (n : Nat) : Dc w0 q (w.drewN n) g nd dp neg tr :=
 ⟨h.at_.drewN n,h.one,h.le,h.digs,h.first,below_drewN h.low n⟩
set_option maxRecDepth 100000 in
set_option maxHeartbeats 2000000 in
theorem fb_over (w0 : World) (q nd : Nat) (g : Nat → Nat) (dp : Int) (neg tr : Bool) (hdp : 310 < dp) (w : World) (S : Slow w0) (D : Dc w0 q w g nd dp neg tr) :
  Calls Tryz.prog 184 #[.pointer (some ⟨q,0,none⟩),.pointer (some ⟨13,0,none⟩)] w fun e w' => ∃ (v : Int) (o : Value),e = .returned (.tuple #[.int .u64 v,o]) ∧ IsB o ∧ Below w0.heap.size w0 w' := by
 have HX := Lib.hid D
 have SS := Lib.hid S
 have c1 := HX.out.at_.ndc
 have c2 := HX.out.at_.dpc
 have c3 := HX.out.at_.negc
 have S1 := SS.out.kept HX.out.low
 have i0 := S1.i0
 have i1 := S1.i1
 have i2 := S1.i2
 clear S1
 have n1 := D.one
 have d1 : ((nd : Int) == 0) = false := by rw [beq_eq_false_iff_ne]; omega
 clear S D SS
 go_enter Tryz.func184,Tryz.ntmps184
 go_wp2_with fail
 refine wp_scope_named ?_
 intro Qf hgo
 go_wp2_with fail
 go_step3
 refine hgo 1 _ _ _ rfl ?_
 clear hgo
 go_wp2_with fail
 go_quiet (fail)
 go_wp2_with fail
 go_step3
 go_wp2_with fail
 go_quiet (fail)
 cases neg with
 | true =>
  go_wp2_with fail
  go_quiet (fail)
  go_wp2_with fail
  rw [Go.Exit.noGoto_ret]
  go_ret2
  exact ⟨_,_,rfl,⟨_,rfl⟩,by repeat (first | exact HX.out.low | refine below_drewN ?_ _)⟩
 | false =>
  go_wp2_with fail
  rw [Go.Exit.noGoto_ret]
  go_ret2
  exact ⟨_,_,rfl,⟨_,rfl⟩,by repeat (first | exact HX.out.low | refine below_drewN ?_ _)⟩
set_option maxRecDepth 100000 in
set_option maxHeartbeats 2000000 in
theorem fb_under (w0 : World) (q nd : Nat) (g : Nat → Nat) (dp : Int) (neg tr : Bool) (hdp : dp < -330) (w : World) (S : Slow w0) (D : Dc w0 q w g nd dp neg tr) :
  Calls Tryz.prog 184 #[.pointer (some ⟨q,0,none⟩),.pointer (some ⟨13,0,none⟩)] w fun e w' => ∃ (v : Int) (o : Value),e = .returned (.tuple #[.int .u64 v,o]) ∧ IsB o ∧ Below w0.heap.size w0 w' := by
 have HX := Lib.hid D
 have SS := Lib.hid S
 have c1 := HX.out.at_.ndc
 have c2 := HX.out.at_.dpc
 have c3 := HX.out.at_.negc
 have S1 := SS.out.kept HX.out.low
 have i0 := S1.i0
 have i1 := S1.i1
 have i2 := S1.i2
 clear S1
 have n1 := D.one
 have d1 : ((nd : Int) == 0) = false := by rw [beq_eq_false_iff_ne]; omega
 have d2 : decide ((310 : Int) < dp) = false := by simp; omega
 have d2' : dp ≤ 310 := by omega
 clear S D SS
 go_enter Tryz.func184,Tryz.ntmps184
 go_wp2_with fail
 refine wp_scope_named ?_
 intro Qf hgo
 go_wp2_with fail
 go_step3
 refine hgo 0 _ _ _ rfl ?_
 clear hgo
 go_wp2_with fail
 go_quiet (fail)
 cases neg with
 | true =>
  go_wp2_with fail
  go_quiet (fail)
  go_wp2_with fail
  rw [Go.Exit.noGoto_ret]
  go_ret2
  exact ⟨_,_,rfl,⟨_,rfl⟩,by repeat (first | exact HX.out.low | refine below_drewN ?_ _)⟩
 | false =>
  go_wp2_with fail
  rw [Go.Exit.noGoto_ret]
  go_ret2
  exact ⟨_,_,rfl,⟨_,rfl⟩,by repeat (first | exact HX.out.low | refine below_drewN ?_ _)⟩
set_option maxRecDepth 100000 in
set_option maxHeartbeats 2000000 in
theorem fb_none (w0 : World) (q : Nat) (g : Nat → Nat) (dp : Int) (neg tr : Bool) (w : World) (S : Slow w0) (low : Below w0.heap.size w0 w) (D : Dr w0.heap.size q w g 0 dp neg tr) :
  Calls Tryz.prog 184 #[.pointer (some ⟨q,0,none⟩),.pointer (some ⟨13,0,none⟩)] w fun e w' => ∃ (v : Int) (o : Value),e = .returned (.tuple #[.int .u64 v,o]) ∧ IsB o ∧ Below w0.heap.size w0 w' := by
 have c1 := D.ndc
 have c3 := D.negc
 have S1 := S.kept low
 have i0 := S1.i0
 have i1 := S1.i1
 have i2 := S1.i2
 clear S D S1
 go_enter Tryz.func184,Tryz.ntmps184
 go_wp2_with fail
 refine wp_scope_named ?_
 intro Qf hgo
 go_wp2_with fail
 go_step3
 refine hgo 0 _ _ _ rfl ?_
 clear hgo
 go_wp2_with fail
 go_quiet (fail)
 cases neg with
 | true =>
  go_wp2_with fail
  go_quiet (fail)
  go_wp2_with fail
  rw [Go.Exit.noGoto_ret]
  go_ret2
  exact ⟨_,_,rfl,⟨_,rfl⟩,by repeat (first | exact low | refine below_drewN ?_ _)⟩
 | false =>
  go_wp2_with fail
  rw [Go.Exit.noGoto_ret]
  go_ret2
  exact ⟨_,_,rfl,⟨_,rfl⟩,by repeat (first | exact low | refine below_drewN ?_ _)⟩
end Go.Proofs.YtalaajniammggaaGreatDoor
