/- rightShift. -/
import Derived.Test.YtalaajniammggaaGreatDoorXDa
import Derived.Deep.CutBlock
namespace Go.Proofs.YtalaajniammggaaGreatDoor
open Go.RowKit
def need (n : Nat) : Nat → Nat
 | 0 => 0
 | j + 1 => need n j + (if n % 2 ^ (j + 1) = 0 then 0 else 1)
theorem need_zero : ∀ k,need 0 k = 0
 | 0 => rfl
 | k + 1 => by unfold need; rw [need_zero k]; simp
theorem twice_dvd (n k v : Nat) (hv : v ≤ k) (h : n % 2 ^ v = 0) : (n % 2 ^ k * 10) % 2 ^ (v + 1) = 0 := by
 have e : n % 2 ^ k % 2 ^ v = 0 := by rw [Nat.mod_mod_of_dvd n (Nat.pow_dvd_pow 2 hv),h]
 obtain ⟨c,hc⟩ := Nat.dvd_of_mod_eq_zero e
 rw [hc,Nat.pow_succ,show 2 ^ v * c * 10 = 2 ^ v * 2 * (c * 5) by grind]
 exact Nat.mul_mod_right _ _
theorem need_le (n k : Nat) : ∀ j,j ≤ k → need (n % 2 ^ k * 10) (j + 1) ≤ need n j
 | 0,_ => by
  have := twice_dvd n k 0 (Nat.zero_le _) (by simp [Nat.mod_one])
  unfold need need
  rw [if_pos this]
  exact Nat.le_refl _
 | j + 1,h => by
  have ih := need_le n k j (by omega)
  have e1 : need (n % 2 ^ k * 10) (j + 1 + 1) = need (n % 2 ^ k * 10) (j + 1) + (if (n % 2 ^ k * 10) % 2 ^ (j + 1 + 1) = 0 then 0 else 1) := rfl
  have e2 : need n (j + 1) = need n j + (if n % 2 ^ (j + 1) = 0 then 0 else 1) := rfl
  rw [e1,e2]
  by_cases hd : n % 2 ^ (j + 1) = 0
  ·rw [if_pos hd,if_pos (twice_dvd n k (j + 1) h hd)]; omega
  ·rw [if_neg hd]; split <;> omega
def left (k n : Nat) : Nat := need n k + (if n = 0 then 0 else 1)
theorem left_less {n k : Nat} (hk : 1 ≤ k) (hn : n ≠ 0) : left k (n % 2 ^ k * 10) < left k n := by
 unfold left
 rw [if_neg hn]
 by_cases h : n % 2 ^ k = 0
 ·rw [h,Nat.zero_mul,need_zero,if_pos rfl]; omega
 ·have := need_le n k (k - 1) (by omega)
  rw [show k - 1 + 1 = k by omega] at this
  obtain ⟨j,rfl⟩ : ∃ j,k = j + 1 := ⟨k - 1,by omega⟩
  rw [show j + 1 - 1 = j by omega] at this
  have e2 : need n (j + 1) = need n j + (if n % 2 ^ (j + 1) = 0 then 0 else 1) := rfl
  rw [if_neg h] at e2
  rw [if_neg (by omega)]
  omega
theorem digs_put {g : Nat → Nat} {n v : Nat} (h : Digs g n) (h1 : 48 ≤ v) (h2 : v ≤ 57) : Digs (put g n v) (n + 1) := fun i hi => by
 by_cases e : i = n
 ·subst e; rw [put_same]; exact ⟨h1,h2⟩
 ·rw [put_ne g v e]; exact h i (by omega)
theorem div_P (k P : Nat) (hP : 2 ^ k = P) (n : Nat) : (n : Int) / 2 ^ k = ((n / P : Nat) : Int) := by rw [← hP]; push_cast; rfl
theorem and_P (k P : Nat) (hP : 2 ^ k = P) (hk : k ≤ 60) (n : Nat) (hn : n < 18446744073709551616) : bits .and .u64 (n : Int) ((P : Int) - 1) = ((n % P : Nat) : Int) := by
 have p1 : 1 ≤ P := by rw [← hP]; exact Nat.pow_pos (by decide)
 have p2 : P ≤ 1152921504606846976 := by rw [← hP]; exact Nat.pow_le_pow_right (n := 2) (by decide) hk
 have := u64_and_nat n (P - 1) hn (by omega)
 rw [← hP,Nat.and_two_pow_sub_one_eq_mod,hP] at this
 rw [← this]
 congr 1
 omega
structure Halved (g : Nat → Nat) (n0 P : Nat) (wd n : Nat) (g' : Nat → Nat) : Prop where
 lt : n < 10 * P
 digs : Digs g' wd
 none_ : wd = 0 → n = n0
 first : 1 ≤ wd → g' 0 = 48 + n0 / P
set_option maxRecDepth 100000 in
set_option maxHeartbeats 2000000 in
theorem right_any (B q nd k : Nat) (g : Nat → Nat) (dp : Int) (neg tr : Bool) (h1 : 1 ≤ nd) (h2 : nd ≤ 800) (hg : Digs g nd) (h0 : 49 ≤ g 0) (k1 : 1 ≤ k) (k2 : k ≤ 60) (hd1 : -1000000 ≤ dp) (hd2 : dp ≤ 1000000) (w : World) (D : Dr B q w g nd dp neg tr) :
  Calls Tryz.prog 166 #[.pointer (some ⟨q,0,none⟩),.int .u64 k] w fun e w' => e = .returned (.tuple #[]) ∧ ∃ (g' : Nat → Nat) (nd' r : Nat) (tr' : Bool),1 ≤ r ∧ r ≤ 20 ∧ (r = 1 → 2 ^ k ≤ g 0 - 48 ∧ g' 0 = 48 + (g 0 - 48) / 2 ^ k) ∧ 1 ≤ nd' ∧ nd' ≤ 800 ∧ Digs g' nd' ∧ 49 ≤ g' 0 ∧ Dr B q w' g' nd' (dp - ((r : Int) - 1)) neg tr' ∧ Below B w w' := by
 obtain ⟨P,hP⟩ : ∃ P,Hid (2 ^ k = P) := ⟨_,Lib.hid rfl⟩
 rw [hP.out]
 have p1 : 2 ≤ P := by rw [← hP.out]; exact Nat.pow_le_pow_right (n := 2) (by decide) k1
 have p2 : P ≤ 1152921504606846976 := by rw [← hP.out]; exact Nat.pow_le_pow_right (n := 2) (by decide) k2
 have m1 : IntKind.u64.wrap (1 * 2 ^ k) = (P : Int) := by
  rw [Int.one_mul,show (2 : Int) ^ k = (P : Int) by rw [← hP.out]; push_cast; rfl,wrap_u64]; omega
 have m2 : IntKind.u64.wrap (2 ^ k) = (P : Int) := by
  rw [show (2 : Int) ^ k = (P : Int) by rw [← hP.out]; push_cast; rfl,wrap_u64]; omega
 have HD := Lib.hid D
 have HG := Lib.hid hg
 clear D hg
 go_enter Tryz.func166,Tryz.ntmps166
 go_upto_block 0 with fail
 go_cut [4,6,7] from 12 to 48 (fun s4 s6 _ wy => ∃ r n : Nat,s4 = .int .i64 r ∧ s6 = .int .u64 n ∧ 1 ≤ r ∧ r ≤ 20 ∧ P ≤ n ∧ n < 10 * P ∧ Hid (r = 1 → n = g 0 - 48) ∧ wy = w)
 case first =>
  go_wp2_with fail
  go_loopw [4,6,7] (fun s4 s6 _ wr => ∃ r n : Nat,s4 = .int .i64 r ∧ s6 = .int .u64 n ∧ r ≤ nd ∧ Hid (n = dval g r) ∧ n < 10 * P ∧ Hid (r ≤ 20) ∧ wr = w) (fun s4 _ _ _ => nd - (intOf s4).toNat)
  case atStart => exact ⟨0,0,rfl,rfl,Nat.zero_le _,Lib.hid rfl,by omega,Lib.hid (by omega),rfl⟩
  case round =>
   obtain ⟨r,n,rfl,rfl,hr,HN,hn,HR,rfl⟩ := hrel
   have c1 := HD.out.ndc
   obtain ⟨z,hz⟩ : ∃ z,Hid (n / P = z) := ⟨_,rfl⟩
   have ez : (n : Int) / 2 ^ k = (z : Int) := by rw [div_P k P hP.out,hz.out]
   by_cases hz0 : z = 0
   ·have dz : ((z : Int) == 0) = true := by rw [beq_iff_eq]; omega
    have nP : n < P := by
     rcases Nat.lt_or_ge n P with h | h
     ·exact h
     ·have := Nat.div_pos h (by omega : 0 < P)
      rw [hz.out] at this; omega
    have r19 : r ≤ 19 := by
     rcases Nat.lt_or_ge 19 r with h | h
     ·have e1 := dval_ge h0 r (by omega)
      have e2 : 10 ^ 19 ≤ 10 ^ (r - 1) := Nat.pow_le_pow_right (by decide) (by omega)
      rw [← HN.out] at e1
      omega
     ·exact h
    have hz0' := Lib.hid hz0
    clear hz0
    by_cases hrn : r < nd
    ·have d1 : decide ((nd : Int) ≤ (r : Int)) = false := by simp; omega
     have c2 := HD.out.dig r (by omega)
     have gd := HG.out r hrn
     obtain ⟨x,hx⟩ : ∃ x,Hid (g r = x) := ⟨_,rfl⟩
     rw [hx.out] at c2 gd
     obtain ⟨n2,hn2⟩ : ∃ n2,Hid (n * 10 + (x - 48) = n2) := ⟨_,rfl⟩
     have en2 : (n : Int) * 10 + (x : Int) - 48 = (n2 : Int) := by have := hn2.out; omega
     have HN2 : Hid (n2 = dval g (r + 1)) := Lib.hid (by
      show n2 = dval g r * 10 + (g r - 48)
      rw [← HN.out,hx.out,hn2.out])
     have hn3 : n2 < 10 * P := by have := hn2.out; omega
     go_wp2_with fail
     exact ⟨⟨r + 1,n2,rfl,rfl,hrn,HN2,hn3,Lib.hid (by omega),trivial⟩,by simp [intOf]; omega⟩
    ·have d1 : (nd : Int) ≤ (r : Int) := by omega
     have n1 : Hid (10 ^ (r - 1) ≤ n) := Lib.hid (by rw [HN.out]; exact dval_ge h0 r (by omega))
     have n0 : 1 ≤ n := by have := n1.out; have := Nat.pow_pos (n := r - 1) (show 0 < 10 by decide); omega
     have d2 : ((n : Int) == 0) = false := by rw [beq_eq_false_iff_ne]; omega
     have hr1 : 1 ≤ r := by omega
     have HR1 : Hid (r = 1 → n = g 0 - 48) := Lib.hid (fun e => by rw [HN.out,e]; simp [dval])
     have ern := Lib.hid (show r = nd by omega)
     clear HN HR hz0'
     go_wp2_with fail
     go_loopw [4,6] (fun s4 s6 wx => ∃ r n : Nat,s4 = .int .i64 r ∧ s6 = .int .u64 n ∧ 1 ≤ r ∧ 1 ≤ n ∧ n < 10 * P ∧ Hid (10 ^ (r - 1) ≤ n) ∧ Hid (r ≤ 20) ∧ Hid (r = 1 → n = g 0 - 48) ∧ wx = wr) (fun _ s6 _ => 10 * P - (intOf s6).toNat)
     case atStart => exact ⟨r,n,rfl,rfl,hr1,n0,hn,n1,Lib.hid (by omega),HR1,rfl⟩
     case round =>
      clear n1 n0 d2 hr1 HR1 ern d1 r19 nP dz ez hz hn hr hrn
      obtain ⟨r,n,rfl,rfl,hr1,n0,hn,n1,HR,HR1,rfl⟩ := hrel
      obtain ⟨z,hz⟩ : ∃ z,Hid (n / P = z) := ⟨_,Lib.hid rfl⟩
      have ez : (n : Int) / 2 ^ k = (z : Int) := by rw [div_P k P hP.out,hz.out]
      by_cases hz0 : z = 0
      ·have dz : ((z : Int) == 0) = true := by rw [beq_iff_eq]; omega
       have nP : n < P := by
        rcases Nat.lt_or_ge n P with h | h
        ·exact h
        ·have := Nat.div_pos h (by omega : 0 < P)
         rw [hz.out] at this; omega
       have r19 : r ≤ 19 := by
        rcases Nat.lt_or_ge 19 r with h | h
        ·have e1 := n1.out
         have e2 : 10 ^ 19 ≤ 10 ^ (r - 1) := Nat.pow_le_pow_right (by decide) (by omega)
         omega
        ·exact h
       have n1' : Hid (10 ^ (r + 1 - 1) ≤ n * 10) := Lib.hid (by
        have := n1.out
        obtain ⟨j,rfl⟩ : ∃ j,r = j + 1 := ⟨r - 1,by omega⟩
        rw [show j + 1 + 1 - 1 = j + 1 by omega,Nat.pow_succ]
        rw [show j + 1 - 1 = j by omega] at this
        omega)
       obtain ⟨n2,hn2⟩ : ∃ n2,Hid (n * 10 = n2) := ⟨_,Lib.hid rfl⟩
       have en2 : (n : Int) * 10 = (n2 : Int) := by have := hn2.out; omega
       rw [hn2.out] at n1'
       have b2 : n2 < 10 * P := by have := hn2.out; omega
       have b3 : n < n2 := by have := hn2.out; omega
       have hz0' := Lib.hid hz0
       clear hz0
       go_wp2_with fail
       exact ⟨⟨r + 1,n2,rfl,rfl,by omega,by omega,b2,n1',Lib.hid (by omega),Lib.hid (fun e => by omega),trivial⟩,by simp [intOf]; omega⟩
      ·have dz : ((z : Int) == 0) = false := by rw [beq_eq_false_iff_ne]; omega
       have nP : P ≤ n := by
        rcases Nat.lt_or_ge n P with h | h
        ·have := Nat.div_eq_of_lt h; rw [hz.out] at this; omega
        ·exact h
       go_wp2_with fail
       go_meet
       exact ⟨r,n,rfl,rfl,hr1,HR.out,nP,hn,HR1,rfl⟩
   ·have dz : ((z : Int) == 0) = false := by rw [beq_eq_false_iff_ne]; omega
    have nP : P ≤ n := by
     rcases Nat.lt_or_ge n P with h | h
     ·have := Nat.div_eq_of_lt h; rw [hz.out] at this; omega
     ·exact h
    have hr1 : 1 ≤ r := by
     rcases Nat.eq_zero_or_pos r with h | h
     ·have := HN.out; rw [h] at this; simp only [dval] at this; omega
     ·exact h
    have HR1 : Hid (r = 1 → n = g 0 - 48) := Lib.hid (fun e => by rw [HN.out,e]; simp [dval])
    go_wp2_with fail
    go_meet
    exact ⟨r,n,rfl,rfl,hr1,HR.out,nP,hn,HR1,rfl⟩
 case rest =>
  obtain ⟨r0,n0,rfl,rfl,hr1,hr20,nP,hn,HR1,hwc⟩ := hcut
  obtain rfl : w = wc := hwc.symm
  obtain ⟨f0,hf0⟩ : ∃ f,Hid (n0 / P = f) := ⟨_,Lib.hid rfl⟩
  have f1 : 1 ≤ f0 := by rw [← hf0.out]; exact Nat.div_pos nP (by omega)
  have f9 : f0 ≤ 9 := by
   have := Nat.div_lt_of_lt_mul (show n0 < P * 10 by omega)
   rw [hf0.out] at this; omega
  have c0 := HD.out.dpc
  have z1 := HD.out.frz 801
  obtain ⟨d1,hd⟩ : ∃ d,Hid (dp - ((r0 : Int) - 1) = d) := ⟨_,Lib.hid rfl⟩
  have ed := hd.out
  have D1 := Lib.hid (HD.out.putDp d1)
  have B1 : Below B w (w.setCell ⟨q,801,none⟩ (.int .i64 d1)) := (Below.refl B w).setCell HD.out.le _
  obtain ⟨W1,hW1⟩ : ∃ W,Hid (w.setCell ⟨q,801,none⟩ (.int .i64 d1) = W) := ⟨_,Lib.hid rfl⟩
  go_upto_block 4 with fail
  rw [hW1.out] at D1 B1 ⊢
  go_cut [4,5,6,9,10] from 61 to 96 (fun s4 s5 s6 _ _ wy => ∃ (wd n : Nat) (g' : Nat → Nat),s5 = .int .i64 wd ∧ s6 = .int .u64 n ∧ wd ≤ 800 ∧ n < 10 * P ∧ Hid (Halved g n0 P wd n g') ∧ Hid (Dr B q wy g' nd d1 neg tr) ∧ Below B w wy)
  case first =>
   go_wp2_with fail
   go_loopw [4,5,6,9,10] (fun s4 s5 s6 _ _ wr => ∃ (r wd n : Nat) (g' : Nat → Nat),s4 = .int .i64 r ∧ s5 = .int .i64 wd ∧ s6 = .int .u64 n ∧ wd + r0 = r ∧ (wd = 0 ∨ r ≤ nd) ∧ n < 10 * P ∧ Hid (Halved g n0 P wd n g') ∧ Hid (∀ i,wd ≤ i → g' i = g i) ∧ Hid (Dr B q wr g' nd d1 neg tr) ∧ Below B w wr) (fun s4 _ _ _ _ _ => nd - (intOf s4).toNat)
   case atStart => exact ⟨r0,0,n0,g,rfl,rfl,rfl,by omega,.inl rfl,hn,Lib.hid ⟨hn,fun i hi => absurd hi (Nat.not_lt_zero i),fun _ => rfl,fun h => absurd h (by decide)⟩,Lib.hid fun _ _ => rfl,D1,B1⟩
   case round =>
    clear D1 B1 c0 z1
    obtain ⟨r,wd,n,g',rfl,rfl,rfl,er,hw,hn2,HH,HS,HX,hb⟩ := hrel
    have c1 := HX.out.ndc
    by_cases hrn : r < nd
    ·have d3 : (r : Int) < (nd : Int) := by omega
     have c2 := HX.out.dig r (by omega)
     have gd := HG.out r hrn
     have es := HS.out r (by omega)
     rw [es] at c2
     obtain ⟨x,hx⟩ : ∃ x,Hid (g r = x) := ⟨_,Lib.hid rfl⟩
     rw [hx.out] at c2 gd
     obtain ⟨z,hz⟩ : ∃ z,Hid (n / P = z) := ⟨_,Lib.hid rfl⟩
     have ez : (n : Int) / 2 ^ k = (z : Int) := by rw [div_P k P hP.out,hz.out]
     have z9 : z ≤ 9 := by
      have := Nat.div_lt_of_lt_mul (show n < P * 10 by omega)
      rw [hz.out] at this; omega
     obtain ⟨m,hm⟩ : ∃ m,Hid (n % P = m) := ⟨_,Lib.hid rfl⟩
     have em : bits .and .u64 (n : Int) ((P : Int) - 1) = (m : Int) := by rw [and_P k P hP.out k2 n (by omega),hm.out]
     have mP : m < P := by rw [← hm.out]; exact Nat.mod_lt _ (by omega)
     obtain ⟨v,hv⟩ : ∃ v,Hid (48 + z = v) := ⟨_,Lib.hid rfl⟩
     have ev : (z : Int) + 48 = (v : Int) := by have := hv.out; omega
     have v1 : 48 ≤ v := by have := hv.out; omega
     have v2 : v ≤ 57 := by have := hv.out; omega
     obtain ⟨n2,hn2'⟩ : ∃ n2,Hid (m * 10 + (x - 48) = n2) := ⟨_,Lib.hid rfl⟩
     have en2 : (m : Int) * 10 + (x : Int) - 48 = (n2 : Int) := by have := hn2'.out; omega
     have hn3 : n2 < 10 * P := by have := hn2'.out; omega
     have w800 : wd < 800 := by omega
     have zf := HX.out.frz wd
     obtain ⟨y,cy⟩ : ∃ y,wr.cell? ⟨q,wd,none⟩ = some y := ⟨_,HX.out.dig wd w800⟩
     have HX' := Lib.hid (HX.out.putD w800 v)
     have HS' : Hid (∀ i,wd + 1 ≤ i → put g' wd v i = g i) := Lib.hid (fun i hi => by rw [put_ne g' v (by omega)]; exact HS.out i (by omega))
     have HH' : Hid (Halved g n0 P (wd + 1) n2 (put g' wd v)) := Lib.hid ⟨hn3,digs_put HH.out.digs v1 v2,fun h => absurd h (by omega),fun _ => by
      by_cases e : wd = 0
      ·subst e
       rw [put_same,← hv.out,← hz.out,HH.out.none_ rfl]
      ·rw [put_ne g' v (by omega)]; exact HH.out.first (by omega)⟩
     have hb' : Below B w (wr.setCell ⟨q,wd,none⟩ (.int .u8 (v : Int))) := hb.setCell HX.out.le _
     clear hw HH HS HX es
     go_wp2_with fail
     exact ⟨⟨r + 1,wd + 1,n2,_,rfl,rfl,rfl,by omega,.inr (by omega),hn3,HH',HS',HX',hb'⟩,by simp [intOf]; omega⟩
    ·have d3 : decide ((r : Int) < (nd : Int)) = false := by simp; omega
     have w8 : wd ≤ 800 := by omega
     clear hw
     go_wp2_with fail
     go_meet
     exact ⟨wd,n,g',rfl,rfl,w8,hn2,HH,HX,hb⟩
  case rest =>
   clear D1 B1 c0 z1
   obtain ⟨wd0,n1,g1,rfl,rfl,w8,hn1,HH1,HX1,hb1⟩ := hcut
   go_upto_block 6 with fail
   go_cut [5,6,11] from 97 to 123 (fun s5 s6 _ wy => ∃ (wd : Nat) (g' : Nat → Nat) (tr' : Bool),s5 = .int .i64 wd ∧ 1 ≤ wd ∧ wd ≤ 800 ∧ Hid (Digs g' wd ∧ g' 0 = 48 + f0) ∧ Hid (Dr B q wy g' nd d1 neg tr') ∧ Below B w wy)
   case first =>
    go_wp2_with fail
    go_loopw [5,6,11] (fun s5 s6 _ wr => ∃ (wd n : Nat) (g' : Nat → Nat) (tr' : Bool),s5 = .int .i64 wd ∧ s6 = .int .u64 n ∧ wd ≤ 800 ∧ n < 10 * P ∧ Hid (Halved g n0 P wd n g') ∧ Hid (Dr B q wr g' nd d1 neg tr') ∧ Below B w wr) (fun _ s6 _ _ => left k (intOf s6).toNat)
    case atStart => exact ⟨wd0,n1,g1,tr,rfl,rfl,w8,hn1,HH1,HX1,hb1⟩
    case round =>
     clear HH1 HX1 hb1 hn1 w8
     obtain ⟨wd,n,g',tr',rfl,rfl,w8,hn2,HH,HX,hb⟩ := hrel
     by_cases hn0 : 0 < n
     ·have d3 : (0 : Int) < (n : Int) := by omega
      obtain ⟨z,hz⟩ : ∃ z,Hid (n / P = z) := ⟨_,Lib.hid rfl⟩
      have ez : (n : Int) / 2 ^ k = (z : Int) := by rw [div_P k P hP.out,hz.out]
      have z9 : z ≤ 9 := by
       have := Nat.div_lt_of_lt_mul (show n < P * 10 by omega)
       rw [hz.out] at this; omega
      obtain ⟨m,hm⟩ : ∃ m,Hid (n % P = m) := ⟨_,Lib.hid rfl⟩
      have em : bits .and .u64 (n : Int) ((P : Int) - 1) = (m : Int) := by rw [and_P k P hP.out k2 n (by omega),hm.out]
      have mP : m < P := by rw [← hm.out]; exact Nat.mod_lt _ (by omega)
      obtain ⟨v,hv⟩ : ∃ v,Hid (48 + z = v) := ⟨_,Lib.hid rfl⟩
      have ev : (z : Int) + 48 = (v : Int) := by have := hv.out; omega
      have v1 : 48 ≤ v := by have := hv.out; omega
      have v2 : v ≤ 57 := by have := hv.out; omega
      obtain ⟨n2,hn2'⟩ : ∃ n2,Hid (m * 10 = n2) := ⟨_,Lib.hid rfl⟩
      have en2 : (m : Int) * 10 = (n2 : Int) := by have := hn2'.out; omega
      have hn3 : n2 < 10 * P := by have := hn2'.out; omega
      have LL : Hid (left k n2 < left k n) := Lib.hid (by
       have := left_less (n := n) k1 (by omega)
       rw [hP.out,hm.out,hn2'.out] at this
       exact this)
      by_cases w800 : wd < 800
      ·have d4 : (wd : Int) < 800 := by omega
       have zf := HX.out.frz wd
       obtain ⟨y,cy⟩ : ∃ y,wr.cell? ⟨q,wd,none⟩ = some y := ⟨_,HX.out.dig wd w800⟩
       have HX' := Lib.hid (HX.out.putD w800 v)
       have HH' : Hid (Halved g n0 P (wd + 1) n2 (put g' wd v)) := Lib.hid ⟨hn3,digs_put HH.out.digs v1 v2,fun h => absurd h (by omega),fun _ => by
        by_cases e : wd = 0
        ·subst e
         rw [put_same,← hv.out,← hz.out,HH.out.none_ rfl]
        ·rw [put_ne g' v (by omega)]; exact HH.out.first (by omega)⟩
       have hb' : Below B w (wr.setCell ⟨q,wd,none⟩ (.int .u8 (v : Int))) := hb.setCell HX.out.le _
       clear HH HX
       go_wp2_with fail
       exact ⟨⟨wd + 1,n2,_,tr',rfl,rfl,w800,hn3,HH',HX',hb'⟩,LL.out⟩
      ·have d4 : decide ((wd : Int) < 800) = false := by simp; omega
       have d4' : (800 : Int) ≤ (wd : Int) := by omega
       have HH' : Hid (Halved g n0 P wd n2 g') := Lib.hid ⟨hn3,HH.out.digs,fun h => absurd h (by omega),HH.out.first⟩
       have zf := HX.out.frz 803
       have cy := HX.out.trc
       by_cases hz0 : 0 < z
       ·have d5 : (0 : Int) < (z : Int) := by omega
        have HX' := Lib.hid (HX.out.putTr true)
        have hb' : Below B w (wr.setCell ⟨q,803,none⟩ (.bool true)) := hb.setCell HX.out.le _
        clear HH HX
        go_wp2_with fail
        exact ⟨⟨wd,n2,g',true,rfl,rfl,w8,hn3,HH',HX',hb'⟩,LL.out⟩
       ·have d5 : decide ((0 : Int) < (z : Int)) = false := by simp; omega
        have d5' : decide (0 < z) = false := by simp; omega
        clear HH
        go_wp2_with fail
        exact ⟨⟨wd,n2,g',tr',rfl,rfl,w8,hn3,HH',HX,hb⟩,LL.out⟩
     ·have d3 : decide ((0 : Int) < (n : Int)) = false := by simp; omega
      have d3' : decide (0 < n) = false := by simp; omega
      have w1 : 1 ≤ wd := by
       rcases Nat.eq_zero_or_pos wd with h | h
       ·have := HH.out.none_ h; omega
       ·exact h
      have HQ : Hid (Digs g' wd ∧ g' 0 = 48 + f0) := Lib.hid ⟨HH.out.digs,by rw [← hf0.out]; exact HH.out.first w1⟩
      go_wp2_with fail
      go_meet
      exact ⟨wd,g',tr',rfl,w1,w8,HQ,HX,hb⟩
   case rest =>
    clear HH1 HX1 hb1 hn1 w8
    obtain ⟨wd,g',tr',rfl,w1,w8,HQ,HX,hb⟩ := hcut
    have z1 := HX.out.frz 800
    have c1 := HX.out.ndc
    have HX' := HX.out.putNd wd
    have hT := dtrim_any B q wd g' d1 neg tr' w1 w8 (by have := HQ.out.2; omega) _ HX'
    have hb' : Below B w (wc.setCell ⟨q,800,none⟩ (.int .i64 (wd : Int))) := hb.setCell HX.out.le _
    obtain ⟨W2,hW2⟩ : ∃ W,Hid (wc.setCell ⟨q,800,none⟩ (.int .i64 (wd : Int)) = W) := ⟨_,Lib.hid rfl⟩
    rw [hW2.out] at hT hb'
    go_upto_region 33 with fail
    rw [hW2.out]
    go_wp2_with fail
    refine hT.mono ?_
    rintro e w3 ⟨rfl,nd',a1,a2,DX,b3⟩
    go_wp2_with fail
    refine bodyPost_end (results_none rfl _ _ _) rfl ?_
    refine ⟨rfl,g',nd',r0,tr',hr1,hr20,?_,a1,by omega,HQ.out.1.le a2,by have := HQ.out.2; omega,by rw [hd.out]; exact DX,hb'.trans b3⟩
    intro e
    have e2 := HR1.out e
    refine ⟨by omega,?_⟩
    rw [HQ.out.2,← hf0.out,e2]
end Go.Proofs.YtalaajniammggaaGreatDoor

/- leftShift. -/
namespace Go.Proofs.YtalaajniammggaaGreatDoor
open Go.RowKit
structure LS (D P nd dl wd n : Nat) (g' : Nat → Nat) : Prop where
 car : n = (D % 10 ^ (nd + dl - wd)) * P / 10 ^ (nd + dl - wd)
 digs : ∀ i,wd ≤ i → i < nd + dl → i < 800 → 48 ≤ g' i ∧ g' i ≤ 57
 first : wd = 0 → g' 0 = 48 + D * P / 10 ^ (nd + dl - 1)
theorem LS.total {D P nd dl v n : Nat} {g' : Nat → Nat} (h : LS D P nd dl (v + 1) n g') (dg : Nat) (hd : D / 10 ^ (nd + dl - (v + 1)) % 10 = dg) (hv : v < nd + dl) :
  (n + dg * P) / 10 = (D % 10 ^ (nd + dl - v)) * P / 10 ^ (nd + dl - v) ∧ n + dg * P = (D % 10 ^ (nd + dl - v)) * P / 10 ^ (nd + dl - (v + 1)) := by
 have := carry_step (P := P) dg hd
 rw [← h.car,show nd + dl - (v + 1) + 1 = nd + dl - v by omega] at this
 exact this
theorem LS.step {D P nd dl v n : Nat} {g' : Nat → Nat} (h : LS D P nd dl (v + 1) n g') (hD : D < 10 ^ nd) (hDP : D * P < 10 ^ (nd + dl)) (dg : Nat) (hd : D / 10 ^ (nd + dl - (v + 1)) % 10 = dg) (hv : v < nd + dl) (hv8 : v < 800) :
  LS D P nd dl v ((n + dg * P) / 10) (put g' v (48 + (n + dg * P) % 10)) := by
 obtain ⟨t1,t2⟩ := h.total dg hd hv
 refine ⟨t1,?_,?_⟩
 ·intro i h1 h2 h3
  by_cases e : i = v
  ·subst e; rw [put_same]; omega
  ·rw [put_ne g' _ e]; exact h.digs i (by omega) h2 h3
 ·intro e
  subst e
  rw [put_same]
  have hD2 : D % 10 ^ (nd + dl - 0) = D := Nat.mod_eq_of_lt (Nat.lt_of_lt_of_le hD (Nat.pow_le_pow_right (by decide) (by omega)))
  rw [hD2,Nat.zero_add] at t2
  have : D * P / 10 ^ (nd + dl - 1) < 10 := by
   rw [Nat.div_lt_iff_lt_mul (Nat.pow_pos (by decide))]
   have e : 10 ^ (nd + dl) = 10 * 10 ^ (nd + dl - 1) := by
    rw [show nd + dl = nd + dl - 1 + 1 by omega,Nat.pow_succ,Nat.mul_comm]; congr 2
   omega
  rw [t2,Nat.mod_eq_of_lt this]
theorem LS.stepNo {D P nd dl v n : Nat} {g' : Nat → Nat} (h : LS D P nd dl (v + 1) n g') (dg : Nat) (hd : D / 10 ^ (nd + dl - (v + 1)) % 10 = dg) (hv : v < nd + dl) (hv8 : 800 ≤ v) :
  LS D P nd dl v ((n + dg * P) / 10) g' := by
 obtain ⟨t1,t2⟩ := h.total dg hd hv
 exact ⟨t1,fun i h1 h2 h3 => by omega,fun e => by omega⟩
theorem LS.beyond {D P nd dl wd n : Nat} {g' : Nat → Nat} (h : LS D P nd dl wd n g') (hD : D < 10 ^ nd) (hw : wd ≤ dl) : n = D * P / 10 ^ (nd + dl - wd) ∧ D / 10 ^ (nd + dl - wd) % 10 = 0 := by
 have hlt : D < 10 ^ (nd + dl - wd) := Nat.lt_of_lt_of_le hD (Nat.pow_le_pow_right (by decide) (by omega))
 refine ⟨?_,?_⟩
 ·have := h.car
  rw [Nat.mod_eq_of_lt hlt] at this
  exact this
 ·rw [Nat.div_eq_of_lt hlt]
theorem LS.more {D P nd dl n : Nat} {g' : Nat → Nat} (h : LS D P nd dl 0 n g') (hD : D < 10 ^ nd) (hDP : D * P < 10 ^ (nd + dl)) : n = 0 := by
 rw [(h.beyond hD (Nat.zero_le _)).1,Nat.sub_zero]
 exact Nat.div_eq_of_lt hDP
theorem LS.done {D P nd dl wd : Nat} {g' : Nat → Nat} (h : LS D P nd dl wd 0 g') (hD : D < 10 ^ nd) (hw : wd ≤ dl) (hge : 10 ^ (nd + dl - 1) ≤ D * P) : wd = 0 := by
 rcases Nat.eq_zero_or_pos wd with e | e
 ·exact e
 ·have := (h.beyond hD hw).1
  have h2 : 10 ^ (nd + dl - wd) ≤ 10 ^ (nd + dl - 1) := Nat.pow_le_pow_right (by decide) (by omega)
  have h3 := Nat.div_pos (Nat.le_trans h2 hge) (Nat.pow_pos (by decide))
  omega
def Chz (w : World) : Prop := ∃ b o,w.cell? ⟨11,0,none⟩ = some (.slice (some ⟨b,o,none⟩) 61 61) ∧ ∀ k x,Pinned.cheatRows[k]? = some x → w.cell? ⟨b,o + k * 2,none⟩ = some (.int .i64 (x.1 : Int)) ∧ w.cell? ⟨b,o + k * 2 + 1,none⟩ = some (.string ⟨x.2.toArray⟩)
theorem Chz.kept {w w' : World} (h : Chz w) (hB : ∀ a : Addr,(∃ v,w.cell? a = some v) → w'.cell? a = w.cell? a) : Chz w' := by
 obtain ⟨b,o,h1,h2⟩ := h
 exact ⟨b,o,(hB _ ⟨_,h1⟩).trans h1,fun k x hx => ⟨(hB _ ⟨_,(h2 k x hx).1⟩).trans (h2 k x hx).1,(hB _ ⟨_,(h2 k x hx).2⟩).trans (h2 k x hx).2⟩⟩
set_option maxRecDepth 100000 in
set_option maxHeartbeats 2000000 in
theorem left_any (B q nd k : Nat) (g : Nat → Nat) (dp : Int) (neg tr : Bool) (h1 : 1 ≤ nd) (h2 : nd ≤ 800) (hg : Digs g nd) (h0 : 49 ≤ g 0) (k1 : 1 ≤ k) (k2 : k ≤ 60) (hd1 : -1000000 ≤ dp) (hd2 : dp ≤ 1000000) (w : World) (C : Chz w) (D : Dr B q w g nd dp neg tr) :
  Calls Tryz.prog 165 #[.pointer (some ⟨q,0,none⟩),.int .u64 k] w fun e w' => e = .returned (.tuple #[]) ∧ ∃ (g' : Nat → Nat) (nd' dl : Nat) (tr' : Bool),dl ≤ 61 ∧ (dl = 0 → g 0 < g' 0) ∧ 1 ≤ nd' ∧ nd' ≤ 800 ∧ Digs g' nd' ∧ 49 ≤ g' 0 ∧ Dr B q w' g' nd' (dp + dl) neg tr' ∧ Below B w w' := by
 obtain ⟨P,hP⟩ : ∃ P,Hid (2 ^ k = P) := ⟨_,Lib.hid rfl⟩
 have p1 : 2 ≤ P := by rw [← hP.out]; exact Nat.pow_le_pow_right (n := 2) (by decide) k1
 have p2 : P ≤ 1152921504606846976 := by rw [← hP.out]; exact Nat.pow_le_pow_right (n := 2) (by decide) k2
 obtain ⟨d,l,hrow,CH⟩ := cheat_at k1 k2
 obtain ⟨b,o,t1,t2⟩ := C
 obtain ⟨t3,t4⟩ := t2 k _ hrow
 clear t2 hrow
 simp only at t3 t4
 obtain ⟨s,hs⟩ : ∃ s : ByteArray,Hid (s = ⟨l.toArray⟩) := ⟨_,Lib.hid rfl⟩
 have sl : s.data.toList = l := by rw [hs.out]
 have ss : s.size = l.length := by rw [← size_list,sl]
 rw [← hs.out] at t4
 have hL := fun W (DW : Dr B q W g nd dp neg tr) => less_ans B q nd g dp neg tr h2 hg s (by rw [sl,ss]; exact CH.digs) (fun _ => by rw [sl,ss]; exact CH.last) W DW
 obtain ⟨dl,hdl⟩ : ∃ dl,Hid (dl = if lessD g nd s then d - 1 else d) := ⟨_,Lib.hid rfl⟩
 obtain ⟨D0,hD0⟩ : ∃ x,Hid (dval g nd = x) := ⟨_,Lib.hid rfl⟩
 have HB : Hid (D0 * P < 10 ^ (nd + dl) ∧ 10 ^ (nd + dl - 1) ≤ D0 * P) := Lib.hid (by
  have e : lessD g nd s = decide (dval g nd * 10 ^ l.length < 5 ^ k * 10 ^ nd) := by
   unfold lessD; rw [sl,ss,CH.val]
  rw [hdl.out,← hD0.out,← hP.out,e]
  by_cases hh : dval g nd * 10 ^ l.length < 5 ^ k * 10 ^ nd
  ·rw [decide_eq_true hh,if_pos rfl]; exact cheat_less CH h1 h0 hh
  ·rw [decide_eq_false hh]; simp only [Bool.false_eq_true,if_false]; exact cheat_more CH hg h1 (by omega))
 have HDL : Hid (D0 < 10 ^ nd) := Lib.hid (by rw [← hD0.out]; exact dval_lt nd hg)
 have dl61 : dl ≤ 61 := by
  have := CH.sum; have := hdl.out; split at this <;> omega
 have d61 : d ≤ 61 := by have := CH.sum; omega
 have d1 : 1 ≤ d := CH.one
 have hsl : ∀ W,(Instr.sliceAt 176 (.pointer (some ⟨q,0,none⟩)) (some (.int .i64 0)) (some (.int .i64 (nd : Int))) none).run Tryz.prog W = .ok (.slice (some ⟨q,0,none⟩) nd 800) W := fun W => by
  have hal : Tryz.prog.arrayLen 176 = 800 := by kernel_rfl
  have hel : Tryz.prog.elem 176 = 5 := by kernel_rfl
  rw [run_sliceAt_array_lh W 176 ⟨q,0,none⟩ (by rw [hal,hel]; exact Tryz.underlying176) .i64 .i64 0 (nd : Int) (by omega) (by omega) (by rw [hal]; omega),hal,hel,Tryz.sizeOf5]
  show Result.ok (slicedAt ⟨q,0,none⟩ 0 (nd : Int).toNat 800 1) W = _
  unfold slicedAt
  rw [Int.toNat_natCast,if_neg (by omega)]
  rfl
 have HG := Lib.hid hg
 have HD := Lib.hid D
 have hLq : ∀ n,Calls Tryz.prog 175 #[.slice (some ⟨q,0,none⟩) nd 800,.string s] (w.drewN n) fun e w' => e = .returned (.bool (lessD g nd s)) ∧ ∃ m,w' = (w.drewN n).drewN m := fun n => hL _ (D.drewN n)
 obtain ⟨ls,hls⟩ : ∃ x,Hid (lessD g nd s = x) := ⟨_,Lib.hid rfl⟩
 rw [hls.out] at hdl hLq
 have c1 := D.ndc
 clear hL D hg CH sl ss hs
 go_enter Tryz.func165,Tryz.ntmps165
 go_upto_region 1 with fail
 go_cut [30] from 17 to 29 (fun s30 wy => s30 = .bool ls ∧ Hid (Dr B q wy g nd dp neg tr) ∧ Hid (Below B w wy))
 case first =>
  go_quiet (with_reducible exact Calls.quiet_of (hLq _))
  have HY := Lib.hid (HD.out.drewN nq)
  have HV : Hid (Below B w (w.drewN nq)) := Lib.hid (below_drewN (Below.refl _ _) _)
  go_wp2_with fail
  go_meet
  exact ⟨rfl,HY,HV⟩
 case rest =>
  obtain ⟨rfl,HX0,HV0⟩ := hcut
  clear c1 t1 t3 t4 hsl hLq HD
  go_upto_if 30 with fail
  go_cut [4,30] from 30 to 32 (fun s4 _ wy => s4 = .int .i64 dl ∧ wy = wc)
  case first =>
   cases ls with
   | true =>
    have e1 : (d : Int) - 1 = (dl : Int) := by have := hdl.out; simp at this; omega
    go_wp2_with fail
    go_meet
    exact ⟨rfl,rfl⟩
   | false =>
    go_wp2_with fail
    go_meet
    exact ⟨by have := hdl.out; simp at this; rw [this],rfl⟩
  case rest =>
  obtain ⟨rfl,rfl⟩ := hcut
  have hb0 := HV0.out
  have c1 := HX0.out.ndc
  have hD := HDL.out
  go_upto_block 0 with fail
  go_cut [5,6,7,8,9] from 45 to 84 (fun s5 s6 s7 _ _ wy => ∃ (n : Nat) (g' : Nat → Nat) (tr' : Bool),s6 = .int .i64 dl ∧ s7 = .int .u64 n ∧ n < P ∧ Hid (LS D0 P nd dl dl n g') ∧ Hid (Dr B q wy g' nd dp neg tr') ∧ Hid (Below B w wy))
  case first =>
   go_wp2_with fail
   go_loopw [5,6,7,8,9] (fun s5 s6 s7 _ _ wr => ∃ (x : Int) (rr n : Nat) (g' : Nat → Nat) (tr' : Bool),s5 = .int .i64 x ∧ x = (rr : Int) - 1 ∧ rr ≤ nd ∧ s6 = .int .i64 ((rr : Int) + (dl : Int)) ∧ s7 = .int .u64 n ∧ n < P ∧ Hid (LS D0 P nd dl (rr + dl) n g') ∧ Hid (∀ i,i < rr → g' i = g i) ∧ Hid (Dr B q wr g' nd dp neg tr') ∧ Hid (Below B w wr)) (fun s5 _ _ _ _ _ => (intOf s5 + 1).toNat)
   case atStart => exact ⟨(nd : Int) - 1,nd,0,g,tr,rfl,rfl,Nat.le_refl _,rfl,rfl,by omega,Lib.hid ⟨by rw [Nat.sub_self,Nat.pow_zero,Nat.mod_one]; simp,fun i a1 a2 => by omega,fun e => by omega⟩,Lib.hid fun _ _ => rfl,HX0,HV0⟩
   case round =>
    clear hb0 c1 HX0 HV0
    obtain ⟨x,rr,n,g',tr',rfl,ex,hrr,rfl,rfl,hn,HL,HS,HX,HV⟩ := hrel
    by_cases hr0 : rr = 0
    ·subst hr0
     have d3 : decide ((0 : Int) ≤ x) = false := by simp; omega
     have d3' : x < 0 := by omega
     clear ex
     have HL' : Hid (LS D0 P nd dl dl n g') := Lib.hid (by have := HL.out; rw [Nat.zero_add] at this; exact this)
     clear HL
     have e0 : ((0 : Nat) : Int) + (dl : Int) = (dl : Int) := by omega
     rw [e0]
     go_wp2_with fail
     go_meet
     exact ⟨n,g',tr',rfl,rfl,hn,HL',HX,HV⟩
    ·obtain ⟨r,rfl⟩ : ∃ r,rr = r + 1 := ⟨rr - 1,by omega⟩
     have ex' : x = (r : Int) := by omega
     subst ex'
     clear ex hr0
     have d3 : (0 : Int) ≤ (r : Int) := by omega
     have c2 := HX.out.dig r (by omega)
     rw [HS.out r (by omega)] at c2
     have gd := HG.out r (by omega)
     obtain ⟨c,hc⟩ : ∃ c,Hid (g r - 48 = c) := ⟨_,Lib.hid rfl⟩
     have c9 : c ≤ 9 := by have := hc.out; omega
     have egc : g r = c + 48 := by have := hc.out; omega
     rw [egc] at c2
     have hdg : Hid (D0 / 10 ^ (nd + dl - (r + dl + 1)) % 10 = c) := Lib.hid (by
      rw [show nd + dl - (r + dl + 1) = nd - (r + 1) by omega,← hD0.out,dval_cut HG.out _ (by omega),show nd - (nd - (r + 1)) = r + 1 by omega,(dval_div (HG.out.le (by omega))).2]
      exact hc.out)
     clear gd egc
     obtain ⟨cp,hcp⟩ : ∃ y,Hid (c * P = y) := ⟨_,Lib.hid rfl⟩
     have cp1 : cp ≤ 9 * P := by rw [← hcp.out]; exact Nat.mul_le_mul_right _ c9
     have esh : (c : Int) * 2 ^ k = (cp : Int) := by
      rw [← hcp.out,show (2 : Int) ^ k = (P : Int) by rw [← hP.out]; push_cast; rfl]; push_cast; rfl
     have esh2 : IntKind.u64.wrap ((c : Int) * 2 ^ k) = (cp : Int) := by rw [esh,wrap_u64]; omega
     obtain ⟨T,hT⟩ : ∃ y,Hid (n + cp = y) := ⟨_,Lib.hid rfl⟩
     have eT : (n : Int) + (cp : Int) = (T : Int) := by have := hT.out; omega
     have T1 : T < 10 * P := by have := hT.out; omega
     obtain ⟨u,hu⟩ : ∃ y,Hid (T / 10 = y) := ⟨_,Lib.hid rfl⟩
     have eu : (T : Int) / 10 = (u : Int) := by have := hu.out; omega
     obtain ⟨m,hm⟩ : ∃ y,Hid (T % 10 = y) := ⟨_,Lib.hid rfl⟩
     have em : (T : Int) - 10 * (u : Int) = (m : Int) := by have := hm.out; have := hu.out; omega
     have m9 : m ≤ 9 := by have := hm.out; omega
     have u1 : u < P := by have := hu.out; omega
     obtain ⟨v,hv⟩ : ∃ v,Hid (48 + m = v) := ⟨_,Lib.hid rfl⟩
     have ev : (m : Int) + 48 = (v : Int) := by have := hv.out; omega
     have v1 : 48 ≤ v := by have := hv.out; omega
     have v2 : v ≤ 57 := by have := hv.out; omega
     obtain ⟨p,hp⟩ : ∃ p,Hid (r + dl = p) := ⟨_,Lib.hid rfl⟩
     have epp : ((r : Int) + 1) + (dl : Int) - 1 = (p : Int) := by have := hp.out; omega
     have epq : (r : Int) + 1 + (dl : Int) - 1 = (p : Int) := epp
     have pb : p ≤ 900 := by have := hp.out; omega
     have HL1 : Hid (LS D0 P nd dl (p + 1) n g') := Lib.hid (by have := HL.out; rw [← hp.out,show r + dl + 1 = r + 1 + dl by omega]; exact this)
     rw [hp.out] at hdg
     by_cases p8 : p < 800
     ·have d4 : (p : Int) < 800 := by omega
      have HL2 : Hid (LS D0 P nd dl p u (put g' p v)) := Lib.hid (by
       have := HL1.out.step hD HB.out.1 c hdg.out (by have := hp.out; omega) p8
       rw [hcp.out,hT.out,hu.out,hm.out,hv.out] at this
       exact this)
      have HS2 : Hid (∀ i,i < r → put g' p v i = g i) := Lib.hid (fun i hi => by
       rw [put_ne g' v (by have := hp.out; omega)]; exact HS.out i (by omega))
      have zf := HX.out.frz p
      obtain ⟨y,cy⟩ : ∃ y,wr.cell? ⟨q,p,none⟩ = some y := ⟨_,HX.out.dig p p8⟩
      have HX' := Lib.hid (HX.out.putD p8 v)
      have HV' : Hid (Below B w (wr.setCell ⟨q,p,none⟩ (.int .u8 (v : Int)))) := Lib.hid (HV.out.setCell HX.out.le _)
      clear HL HL1 HS HX HV hdg hD
      go_wp2_with fail
      exact ⟨⟨_,r,u,_,tr',rfl,rfl,by omega,by rw [show (r : Int) + (dl : Int) = (p : Int) by omega],rfl,u1,by rw [hp.out]; exact HL2,HS2,HX',HV'⟩,by simp [intOf] <;> omega⟩
     ·have d4 : decide ((p : Int) < 800) = false := by simp; omega
      have d4' : (800 : Int) ≤ (p : Int) := by omega
      have HL2 : Hid (LS D0 P nd dl p u g') := Lib.hid (by
       have := HL1.out.stepNo c hdg.out (by have := hp.out; omega) (by omega)
       rw [hcp.out,hT.out,hu.out] at this
       exact this)
      have HS2 : Hid (∀ i,i < r → g' i = g i) := Lib.hid (fun i hi => HS.out i (by omega))
      have zf := HX.out.frz 803
      have cy := HX.out.trc
      by_cases hm0 : m = 0
      ·have d5 : ((m : Int) == 0) = true := by rw [beq_iff_eq]; omega
       have hm0' := Lib.hid hm0
       clear HL HL1 HS hdg hD hm0
       go_wp2_with fail
       exact ⟨⟨_,r,u,g',tr',rfl,rfl,by omega,by rw [show (r : Int) + (dl : Int) = (p : Int) by omega],rfl,u1,by rw [hp.out]; exact HL2,HS2,HX,HV⟩,by simp [intOf] <;> omega⟩
      ·have d5 : ((m : Int) == 0) = false := by rw [beq_eq_false_iff_ne]; omega
       have HX' := Lib.hid (HX.out.putTr true)
       have HV' : Hid (Below B w (wr.setCell ⟨q,803,none⟩ (.bool true))) := Lib.hid (HV.out.setCell HX.out.le _)
       clear HL HL1 HS HX HV hdg hD
       go_wp2_with fail
       exact ⟨⟨_,r,u,g',true,rfl,rfl,by omega,by rw [show (r : Int) + (dl : Int) = (p : Int) by omega],rfl,u1,by rw [hp.out]; exact HL2,HS2,HX',HV'⟩,by simp [intOf] <;> omega⟩
  case rest =>
   clear HX0 HV0 hb0 c1
   obtain ⟨n1,g1,tr1,rfl,rfl,hn1,HL1,HX1,HV1⟩ := hcut
   go_upto_block 2 with fail
   go_cut [6,7,10,11] from 85 to 110 (fun _ _ _ _ wy => ∃ (g' : Nat → Nat) (tr' : Bool),Hid (LS D0 P nd dl 0 0 g') ∧ Hid (Dr B q wy g' nd dp neg tr') ∧ Hid (Below B w wy))
   case first =>
    go_wp2_with fail
    go_loopw [6,7,10,11] (fun s6 s7 _ _ wr => ∃ (wd n : Nat) (g' : Nat → Nat) (tr' : Bool),s6 = .int .i64 wd ∧ s7 = .int .u64 n ∧ wd ≤ dl ∧ n < P ∧ Hid (LS D0 P nd dl wd n g') ∧ Hid (Dr B q wr g' nd dp neg tr') ∧ Hid (Below B w wr)) (fun _ s7 _ _ _ => (intOf s7).toNat)
    case atStart => exact ⟨dl,n1,g1,tr1,rfl,rfl,Nat.le_refl _,hn1,HL1,HX1,HV1⟩
    case round =>
     clear HL1 HX1 HV1 hn1
     obtain ⟨wd,n,g',tr',rfl,rfl,hwd,hn,HL,HX,HV⟩ := hrel
     by_cases hn0 : n = 0
     ·have d3 : decide ((0 : Int) < (n : Int)) = false := by simp; omega
      have d3' : decide (0 < n) = false := by simp; omega
      have HL' : Hid (LS D0 P nd dl 0 0 g') := Lib.hid (by
       have := HL.out
       rw [hn0] at this
       have e := this.done hD hwd HB.out.2
       rw [e] at this
       exact this)
      have hn0' := Lib.hid hn0
      clear hn0
      go_wp2_with fail
      go_meet
      exact ⟨g',tr',HL',HX,HV⟩
     ·have d3 : (0 : Int) < (n : Int) := by omega
      have w1 : 1 ≤ wd := by
       rcases Nat.eq_zero_or_pos wd with e | e
       ·subst e; exact absurd (HL.out.more hD HB.out.1) hn0
       ·exact e
      obtain ⟨p,hp⟩ : ∃ p,wd = p + 1 := ⟨wd - 1,by omega⟩
      have epp : (wd : Int) - 1 = (p : Int) := by omega
      have pb : p ≤ 900 := by omega
      have HL1 : Hid (LS D0 P nd dl (p + 1) n g') := Lib.hid (by rw [← hp]; exact HL.out)
      have hdg : Hid (D0 / 10 ^ (nd + dl - (p + 1)) % 10 = 0) := Lib.hid (HL1.out.beyond hD (by omega)).2
      have hp' := Lib.hid hp
      clear hp
      obtain ⟨u,hu⟩ : ∃ y,Hid (n / 10 = y) := ⟨_,Lib.hid rfl⟩
      have eu : (n : Int) / 10 = (u : Int) := by have := hu.out; omega
      obtain ⟨m,hm⟩ : ∃ y,Hid (n % 10 = y) := ⟨_,Lib.hid rfl⟩
      have em : (n : Int) - 10 * (u : Int) = (m : Int) := by have := hm.out; have := hu.out; omega
      have m9 : m ≤ 9 := by have := hm.out; omega
      have u1 : u < n := by have := hu.out; omega
      obtain ⟨v,hv⟩ : ∃ v,Hid (48 + m = v) := ⟨_,Lib.hid rfl⟩
      have ev : (m : Int) + 48 = (v : Int) := by have := hv.out; omega
      have v1 : 48 ≤ v := by have := hv.out; omega
      have v2 : v ≤ 57 := by have := hv.out; omega
      by_cases p8 : p < 800
      ·have d4 : (p : Int) < 800 := by omega
       have HL2 : Hid (LS D0 P nd dl p u (put g' p v)) := Lib.hid (by
        have := HL1.out.step hD HB.out.1 0 hdg.out (by have := hp'.out; omega) p8
        rw [Nat.zero_mul,Nat.add_zero,hu.out,hm.out,hv.out] at this
        exact this)
       have zf := HX.out.frz p
       obtain ⟨y,cy⟩ : ∃ y,wr.cell? ⟨q,p,none⟩ = some y := ⟨_,HX.out.dig p p8⟩
       have HX' := Lib.hid (HX.out.putD p8 v)
       have HV' : Hid (Below B w (wr.setCell ⟨q,p,none⟩ (.int .u8 (v : Int)))) := Lib.hid (HV.out.setCell HX.out.le _)
       clear HL HL1 HX HV hdg hD
       go_wp2_with fail
       exact ⟨⟨p,u,_,tr',rfl,rfl,by omega,by omega,HL2,HX',HV'⟩,by simp [intOf] <;> omega⟩
      ·have := hp'.out; omega
   case rest =>
    clear HL1 HX1 HV1 hn1
    obtain ⟨g',tr',HL,HX,HV⟩ := hcut
    have e0 := HL.out.first rfl
    obtain ⟨F,hF⟩ : ∃ F,Hid (D0 * P / 10 ^ (nd + dl - 1) = F) := ⟨_,Lib.hid rfl⟩
    rw [hF.out] at e0
    have F1 : 1 ≤ F := by rw [← hF.out]; exact Nat.div_pos HB.out.2 (Nat.pow_pos (by decide))
    have F0 : Hid (dl = 0 → g 0 < 48 + F) := Lib.hid (fun e => by
     have a1 := dval_first HG.out h1
     have a2 : P * (D0 / 10 ^ (nd - 1)) ≤ D0 * P / 10 ^ (nd - 1) := by
      rw [Nat.mul_comm D0]; exact Nat.mul_div_le_mul_div_assoc P D0 (10 ^ (nd - 1))
     have hF2 := hF.out
     rw [e,Nat.add_zero] at hF2
     rw [hF2,← hD0.out,a1] at a2
     have a3 : 2 * (g 0 - 48) ≤ P * (g 0 - 48) := Nat.mul_le_mul_right _ p1
     omega)
    have GD : Hid (∀ i,i < nd + dl → i < 800 → 48 ≤ g' i ∧ g' i ≤ 57) := Lib.hid (fun i a1 a2 => HL.out.digs i (Nat.zero_le _) a1 a2)
    obtain ⟨N,hN⟩ : ∃ N,Hid (N = nd + dl) := ⟨_,Lib.hid rfl⟩
    have eN : (nd : Int) + (dl : Int) = (N : Int) := by have := hN.out; omega
    have N1 : 1 ≤ N := by have := hN.out; omega
    have N2 : N ≤ 900 := by have := hN.out; omega
    have e0' := Lib.hid e0
    have hb := HV.out
    clear e0 hD HL HV
    have c1 := HX.out.ndc
    have z1 := HX.out.frz 800
    obtain ⟨d2,hd⟩ : ∃ d2,Hid (dp + (dl : Int) = d2) := ⟨_,Lib.hid rfl⟩
    have ed : dp + (dl : Int) = d2 := hd.out
    have D1 := HX.out.putNd N
    have hb1 : Below B w (wc.setCell ⟨q,800,none⟩ (.int .i64 (N : Int))) := hb.setCell HX.out.le _
    obtain ⟨W1,hW1⟩ : ∃ W,Hid (wc.setCell ⟨q,800,none⟩ (.int .i64 (N : Int)) = W) := ⟨_,Lib.hid rfl⟩
    rw [hW1.out] at D1 hb1
    go_upto_region 28 with fail
    rw [hW1.out]
    clear c1 z1 hW1
    have c1 := D1.ndc
    have c2 := D1.dpc
    have z1 := D1.frz 800
    have z2 := D1.frz 801
    by_cases N8 : N < 800
    ·have d3 : decide ((800 : Int) ≤ (N : Int)) = false := by simp; omega
     have d3' : (N : Int) < 800 := by omega
     have HQ : Hid (Digs g' N ∧ g' 0 = 48 + F) := Lib.hid ⟨fun i hi => GD.out i (by have := hN.out; omega) (by omega),e0'.out⟩
     have D2 := D1.putDp d2
     have hb2 : Below B w (W1.setCell ⟨q,801,none⟩ (.int .i64 d2)) := hb1.setCell D1.le _
     obtain ⟨W2,hW2⟩ : ∃ W,Hid (W1.setCell ⟨q,801,none⟩ (.int .i64 d2) = W) := ⟨_,Lib.hid rfl⟩
     rw [hW2.out] at D2 hb2
     have hT := dtrim_any B q N g' d2 neg tr' N1 (by omega) (by have := HQ.out.2; omega) _ D2
     clear GD
     go_upto_region 31 with fail
     rw [hW2.out]
     go_wp2_with fail
     refine hT.mono ?_
     rintro e w3 ⟨rfl,nd',a1,a2,DX,b3⟩
     go_wp2_with fail
     refine bodyPost_end (results_none rfl _ _ _) rfl ?_
     exact ⟨rfl,g',nd',dl,tr',dl61,fun e => by rw [HQ.out.2]; exact F0.out e,a1,by omega,HQ.out.1.le a2,by have := HQ.out.2; omega,by rw [hd.out]; exact DX,hb2.trans b3⟩
    ·have d3 : (800 : Int) ≤ (N : Int) := by omega
     have HQ : Hid (Digs g' 800 ∧ g' 0 = 48 + F) := Lib.hid ⟨fun i hi => GD.out i (by have := hN.out; omega) (by omega),e0'.out⟩
     have D2 := D1.putNd 800
     have hb2 : Below B w (W1.setCell ⟨q,800,none⟩ (.int .i64 ((800 : Nat) : Int))) := hb1.setCell D1.le _
     obtain ⟨W2,hW2⟩ : ∃ W,Hid (W1.setCell ⟨q,800,none⟩ (.int .i64 ((800 : Nat) : Int)) = W) := ⟨_,Lib.hid rfl⟩
     rw [hW2.out] at D2 hb2
     have hW2' : Hid (W1.setCell ⟨q,800,none⟩ (.int .i64 800) = W2) := hW2
     go_upto_region 30 with fail
     rw [hW2'.out]
     clear c1 c2 z1 z2
     have c2 := D2.dpc
     have z2 := D2.frz 801
     have D3 := D2.putDp d2
     have hb3 : Below B w (W2.setCell ⟨q,801,none⟩ (.int .i64 d2)) := hb2.setCell D2.le _
     obtain ⟨W3,hW3⟩ : ∃ W,Hid (W2.setCell ⟨q,801,none⟩ (.int .i64 d2) = W) := ⟨_,Lib.hid rfl⟩
     rw [hW3.out] at D3 hb3
     have hT := dtrim_any B q 800 g' d2 neg tr' (by omega) (by omega) (by have := HQ.out.2; omega) _ D3
     clear GD
     go_upto_region 31 with fail
     rw [hW3.out]
     go_wp2_with fail
     refine hT.mono ?_
     rintro e w3 ⟨rfl,nd',a1,a2,DX,b3⟩
     go_wp2_with fail
     refine bodyPost_end (results_none rfl _ _ _) rfl ?_
     exact ⟨rfl,g',nd',dl,tr',dl61,fun e => by rw [HQ.out.2]; exact F0.out e,a1,by omega,HQ.out.1.le a2,by have := HQ.out.2; omega,by rw [hd.out]; exact DX,hb3.trans b3⟩
end Go.Proofs.YtalaajniammggaaGreatDoor
