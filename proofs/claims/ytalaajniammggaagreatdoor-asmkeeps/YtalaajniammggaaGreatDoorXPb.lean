/- The document's side: tens, against. -/
import Derived.Test.YtalaajniammggaaGreatDoorXVc
import Derived.Deep.CutRange
import Derived.Deep.CutBlock
import Derived.Test.YtalaajniammggaaGreatDoorXPa
import Derived.Test.YtalaajniammggaaGreatDoorXXc
namespace Go.Proofs.YtalaajniammggaaGreatDoor
open Go.RowKit
theorem bb_le {a b : Nat} (h : a ≤ b) : BB ^ a ≤ BB ^ b := Nat.pow_le_pow_right (by decide) h
theorem bb_up {N : Nat} (h : N < BB ^ 300) : N < BB ^ 400 := by
 have h2 := @bb_le 300 400 (by omega)
 exact Nat.lt_of_lt_of_le h h2
def TenR (N n : Nat) (w0 w : World) (v : Value) (m : Nat) : Prop := ∃ M,Num w v M ∧ M * 10 ^ m = N * 10 ^ n ∧ Below w0.heap.size w0 w
theorem ten_lt {N n M m : Nat} (h : M * 10 ^ m = N * 10 ^ n) (hB : N * 10 ^ n < BB ^ 300) : M < BB ^ 400 := by
 refine bb_up (Nat.lt_of_le_of_lt ?_ hB)
 rw [← h]
 exact Nat.le_mul_of_pos_right _ (Nat.pow_pos (by decide))
set_option maxRecDepth 100000 in
set_option maxHeartbeats 1000000 in
theorem tens_any (v : Value) (N n : Nat) (hn : n ≤ 1100) (hB : Hid (N * 10 ^ n < BB ^ 300)) (w : World) (h : Num w v N) :
  Calls Tryz.prog 118 #[v,.int .i64 n] w fun e w' => ∃ v',e = .returned v' ∧ Num w' v' (N * 10 ^ n) ∧ Below w.heap.size w w' := by
 have H0 : Hid (TenR N n w w v n) := Lib.hid ⟨N,h,rfl,Below.refl _ _⟩
 clear h
 go_enter Tryz.func118,Tryz.ntmps118
 go_upto_block 0 with fail
 go_cut [0,1] from 5 to 10 (fun s0 s1 wy => ∃ m : Nat,s1 = .int .i64 m ∧ m ≤ 8 ∧ Hid (TenR N n w wy s0 m))
 case first =>
  go_wp2_with fail
  go_loopw [0,1] (fun s0 s1 wr => ∃ m : Nat,s1 = .int .i64 m ∧ m ≤ 1100 ∧ Hid (TenR N n w wr s0 m)) (fun _ s1 _ => (intOf s1).toNat)
  case atStart => exact ⟨n,rfl,hn,H0⟩
  case round =>
   clear H0 hn
   obtain ⟨m,rfl,hm,H0⟩ := hrel
   by_cases h9 : 9 ≤ m
   ·have h9' : (9 : Int) ≤ (m : Int) := by omega
    obtain ⟨M,hM,eM,bM⟩ := H0.out
    have hT := times_num u0 M 1000000000 (ten_lt eM hB.out) (by decide) _ hM
    have EM := Lib.hid eM
    have BM := Lib.hid bM
    clear H0 eM bM hM
    go_wp2_with fail
    refine hT.mono ?_
    rintro e w1 ⟨v1,rfl,hN1,b1⟩
    obtain ⟨k,hk⟩ : ∃ k,Hid (m - 9 = k) := ⟨_,Lib.hid rfl⟩
    have ek : (m : Int) - 9 = (k : Int) := by have := hk.out; omega
    have H1 : Hid (TenR N n w w1 v1 k) := Lib.hid ⟨_,hN1,by
     rw [← EM.out,← hk.out]
     have e9 : 10 ^ m = 1000000000 * 10 ^ (m - 9) := by
      rw [show (1000000000 : Nat) = 10 ^ 9 by decide,← Nat.pow_add]; congr 1; omega
     rw [e9,Nat.mul_comm 1000000000 M,Nat.mul_assoc],BM.out.trans (b1.mono BM.out.size)⟩
    have k1 : k ≤ 1100 ∧ k < m := by have := hk.out; omega
    obtain ⟨k1,k2⟩ := k1
    clear hk EM BM hN1 b1
    go_wp2_with fail
    exact ⟨⟨k,rfl,k1,H1⟩,by simp [intOf] <;> omega⟩
   ·have h9' : decide ((9 : Int) ≤ (m : Int)) = false := by simp; omega
    have h9'' : (m : Int) < 9 := by omega
    go_wp2_with fail
    go_meet
    exact ⟨m,rfl,by omega,H0⟩
 case rest =>
  clear H0 hn
  obtain ⟨m,rfl,hm,H0⟩ := hcut
  go_upto_block 2 with fail
  go_cut [0,1] from 11 to 16 (fun s0 s1 wy => Hid (TenR N n w wy s0 0))
  case first =>
   go_wp2_with fail
   go_loopw [0,1] (fun s0 s1 wr => ∃ m : Nat,s1 = .int .i64 m ∧ m ≤ 8 ∧ Hid (TenR N n w wr s0 m)) (fun _ s1 _ => (intOf s1).toNat)
   case atStart => exact ⟨m,rfl,hm,H0⟩
   case round =>
    clear H0 hm
    obtain ⟨m,rfl,hm,H0⟩ := hrel
    by_cases h9 : 0 < m
    ·have h9' : (0 : Int) < (m : Int) := by omega
     obtain ⟨M,hM,eM,bM⟩ := H0.out
     have hT := times_num u0 M 10 (ten_lt eM hB.out) (by decide) _ hM
     have EM := Lib.hid eM
     have BM := Lib.hid bM
     clear H0 eM bM hM
     go_wp2_with fail
     refine hT.mono ?_
     rintro e w1 ⟨v1,rfl,hN1,b1⟩
     obtain ⟨k,hk⟩ : ∃ k,Hid (m - 1 = k) := ⟨_,Lib.hid rfl⟩
     have ek : (m : Int) - 1 = (k : Int) := by have := hk.out; omega
     have H1 : Hid (TenR N n w w1 v1 k) := Lib.hid ⟨_,hN1,by
      rw [← EM.out,← hk.out]
      have e9 : 10 ^ m = 10 * 10 ^ (m - 1) := by
       rw [← Nat.pow_succ']; congr 1; omega
      rw [e9,Nat.mul_comm 10 M,Nat.mul_assoc],BM.out.trans (b1.mono BM.out.size)⟩
     have k1 : k ≤ 8 ∧ k < m := by have := hk.out; omega
     obtain ⟨k1,k2⟩ := k1
     clear hk EM BM hN1 b1
     go_wp2_with fail
     exact ⟨⟨k,rfl,k1,H1⟩,by simp [intOf] <;> omega⟩
    ·have h9' : decide (0 < m) = false := by simp; omega
     have h9'' : decide ((0 : Int) < (m : Int)) = false := by simp; omega
     have e0 : m = 0 := by omega
     have H1 : Hid (TenR N n w wr u0 0) := by rw [e0] at H0; exact H0
     clear e0 h9
     go_wp2_with fail
     go_meet
     exact H1
  case rest =>
   clear H0 hm
   obtain ⟨M,hM,eM,bM⟩ := hcut.out
   rw [Nat.pow_zero,Nat.mul_one] at eM
   rw [eM] at hM
   have HM := Lib.hid hM
   clear hcut eM hM
   go_wp2_with fail
   go_ret
   exact ⟨_,rfl,HM.out,bM⟩
end Go.Proofs.YtalaajniammggaaGreatDoor

/- The document's side: against. -/
namespace Go.Proofs.YtalaajniammggaaGreatDoor
open Go.RowKit
theorem ten_bb {n : Nat} (h : n ≤ 1100) : 10 ^ n ≤ BB ^ 115 := by
 refine Nat.le_trans (Nat.pow_le_pow_right (by decide) h) ?_
 apply Nat.le_of_ble_eq_true
 decide +kernel
theorem two_bb {n : Nat} (h : n ≤ 1100) : 2 ^ n ≤ BB ^ 35 := by
 refine Nat.le_trans (Nat.pow_le_pow_right (by decide) h) ?_
 apply Nat.le_of_ble_eq_true
 decide +kernel
theorem bb_two {c : Nat} (h : c < 18446744073709551616) : c < BB ^ 2 := by
 have : BB ^ 2 = 18446744073709551616 := by decide
 rw [this]; exact h
theorem fit_ten {c n : Nat} (hc : c < 18446744073709551616) (hn : n ≤ 1100) : c * 10 ^ n < BB ^ 300 := by
 have h1 := bb_two hc
 have h2 := ten_bb hn
 have h3 : c * 10 ^ n < BB ^ 2 * BB ^ 115 := Nat.lt_of_lt_of_le (Nat.mul_lt_mul_of_pos_right h1 (Nat.pow_pos (by decide))) (Nat.mul_le_mul_left _ h2)
 rw [← Nat.pow_add] at h3
 have h5 := @bb_le (2 + 115) 300 (by omega)
 exact Nat.lt_of_lt_of_le h3 h5
theorem fit_all {c n m : Nat} (hc : c < 18446744073709551616) (hn : n ≤ 1100) (hm : m ≤ 1100) : c * 10 ^ n * 2 ^ m < BB ^ 300 := by
 have h1 := bb_two hc
 have h2 := ten_bb hn
 have h3 : c * 10 ^ n < BB ^ 2 * BB ^ 115 := Nat.lt_of_lt_of_le (Nat.mul_lt_mul_of_pos_right h1 (Nat.pow_pos (by decide))) (Nat.mul_le_mul_left _ h2)
 have h4 : c * 10 ^ n * 2 ^ m < BB ^ 2 * BB ^ 115 * BB ^ 35 := Nat.lt_of_lt_of_le (Nat.mul_lt_mul_of_pos_right h3 (Nat.pow_pos (by decide))) (Nat.mul_le_mul_left _ (two_bb hm))
 rw [← Nat.pow_add,← Nat.pow_add] at h4
 have h5 := @bb_le (2 + 115 + 35) 300 (by omega)
 exact Nat.lt_of_lt_of_le h4 h5
def Two (w0 w : World) (va vb : Value) (A B : Nat) : Prop := Num w va A ∧ Num w vb B ∧ Below w0.heap.size w0 w
set_option maxRecDepth 100000 in
set_option maxHeartbeats 1000000 in
theorem against_any (c l : Nat) (s k : Int) (hc : c < 18446744073709551616) (hl : l < 18446744073709551616) (s1 : -1100 ≤ s) (s2 : s ≤ 1100) (k1 : -1100 ≤ k) (k2 : k ≤ 1100) (w : World) :
  Calls Tryz.prog 110 #[.int .u64 c,.int .i64 s,.int .u64 l,.int .i64 k] w fun e w' => e = .returned (.int .i64 (cmpN (c * vY k s) (vX l k s))) ∧ Below w.heap.size w w' := by
 have eA : c * vY k s = c * 10 ^ s.toNat * 2 ^ (-k).toNat := by unfold vY; rw [Nat.mul_assoc]
 have eB : vX l k s = l * 10 ^ (-s).toNat * 2 ^ k.toNat := by unfold vX; rw [Nat.mul_right_comm]
 have hA : Hid (c * 10 ^ s.toNat * 2 ^ (-k).toNat < BB ^ 300) := Lib.hid (fit_all hc (by omega) (by omega))
 have hB : Hid (l * 10 ^ (-s).toNat * 2 ^ k.toNat < BB ^ 300) := Lib.hid (fit_all hl (by omega) (by omega))
 have hTa : Hid (c * 10 ^ s.toNat < BB ^ 300) := Lib.hid (fit_ten hc (by omega))
 have hTb : Hid (l * 10 ^ (-s).toNat < BB ^ 300) := Lib.hid (fit_ten hl (by omega))
 rw [eA,eB]
 clear eA eB
 obtain ⟨A,hAe⟩ : ∃ A,Hid (c * 10 ^ s.toNat = A) := ⟨_,Lib.hid rfl⟩
 obtain ⟨B,hBe⟩ : ∃ A,Hid (l * 10 ^ (-s).toNat = A) := ⟨_,Lib.hid rfl⟩
 rw [hAe.out] at hA hTa ⊢
 rw [hBe.out] at hB hTb ⊢
 obtain ⟨A2,hA2⟩ : ∃ x,Hid (A * 2 ^ (-k).toNat = x) := ⟨_,Lib.hid rfl⟩
 obtain ⟨B2,hB2⟩ : ∃ x,Hid (B * 2 ^ k.toNat = x) := ⟨_,Lib.hid rfl⟩
 rw [hA2.out] at hA ⊢
 rw [hB2.out] at hB ⊢
 have h1 := fun W => of_any c hc W
 have h2 := fun W => of_any l hl W
 go_enter Tryz.func110,Tryz.ntmps110
 go_wp2_with fail
 refine (h1 _).mono ?_
 rintro e w1 ⟨va,rfl,na,b1⟩
 go_wp2_with fail
 refine (h2 _).mono ?_
 rintro e w2 ⟨vb,rfl,nb,b2⟩
 have HT : Hid (Two w w2 va vb c l) := Lib.hid ⟨na.kept b2,nb,b1.trans (b2.mono b1.size)⟩
 clear na nb b1 b2 h1 h2
 go_upto_if 16 with fail
 go_cut [9,10,16] from 17 to 23 (fun s9 s10 _ wy => Hid (Two w wy s9 s10 A B))
 case first =>
  obtain ⟨na,nb,b0⟩ := HT.out
  have B0 := Lib.hid b0
  clear b0 HT
  by_cases hs : 0 ≤ s
  ·obtain ⟨n,hn⟩ : ∃ n : Nat,s = n := ⟨s.toNat,by omega⟩
   have e1 : c * 10 ^ n = A := by rw [← hAe.out,hn]; rfl
   have e2 : l = B := by rw [← hBe.out,hn]; simp
   have n1 : n ≤ 1100 := by omega
   have hT := fun W (hW : Num W va c) => tens_any va c n n1 (by rw [e1]; exact hTa) W hW
   rw [e1] at hT
   rw [e2] at nb
   have NB := Lib.hid nb
   subst hn
   clear e1 e2 hAe hBe hTa hTb hA hB hA2 hB2 nb
   have hT := hT _ na
   go_wp2_with fail
   refine hT.mono ?_
   rintro e w3 ⟨v3,rfl,n3,b3⟩
   go_wp2_with fail
   go_meet
   exact Lib.hid ⟨n3,NB.out.kept b3,B0.out.trans (b3.mono B0.out.size)⟩
  ·obtain ⟨n,hn⟩ : ∃ n : Nat,s = -(n : Int) := ⟨(-s).toNat,by omega⟩
   have hs' : decide ((0 : Int) ≤ s) = false := by simp; omega
   have hs'' : s < 0 := by omega
   have en : -s = (n : Int) := by omega
   have e1 : l * 10 ^ n = B := by rw [← hBe.out,en]; rfl
   have e2 : c = A := by
    rw [← hAe.out,show s.toNat = 0 by omega]; simp
   have n1 : n ≤ 1100 := by omega
   have hT := fun W (hW : Num W vb l) => tens_any vb l n n1 (by rw [e1]; exact hTb) W hW
   rw [e1] at hT
   rw [e2] at na
   have NA := Lib.hid na
   clear e1 e2 hAe hBe hTa hTb hA hB hA2 hB2 na hn
   have hT := hT _ nb
   go_wp2_with fail
   refine hT.mono ?_
   rintro e w3 ⟨v3,rfl,n3,b3⟩
   go_wp2_with fail
   go_meet
   exact Lib.hid ⟨NA.out.kept b3,n3,B0.out.trans (b3.mono B0.out.size)⟩
 case rest =>
  clear HT
  rename_i HTT
  have HT := hcut
  clear hcut
  go_upto_if 25 with fail
  go_cut [9,10,25] from 26 to 32 (fun s9 s10 _ wy => Hid (Two w wy s9 s10 A2 B2))
  case first =>
   obtain ⟨na,nb,b0⟩ := HT.out
   have B0 := Lib.hid b0
   clear b0 HT
   by_cases hs : 0 ≤ k
   ·obtain ⟨n,hn⟩ : ∃ n : Nat,k = n := ⟨k.toNat,by omega⟩
    have e1 : B * 2 ^ n = B2 := by rw [← hB2.out,hn]; rfl
    have e2 : A = A2 := by rw [← hA2.out,hn]; simp
    have n1 : n ≤ 3000 := by omega
    have hT := shift_any u10 B n n1 hTb.out _ nb
    rw [e1] at hT
    rw [e2] at na
    have NA := Lib.hid na
    subst hn
    clear e1 e2 hAe hBe hTa hTb hA hB hA2 hB2 na nb
    go_wp2_with fail
    refine hT.mono ?_
    rintro e w3 ⟨v3,rfl,n3,b3⟩
    go_wp2_with fail
    go_meet
    exact Lib.hid ⟨NA.out.kept b3,n3,B0.out.trans (b3.mono B0.out.size)⟩
   ·obtain ⟨n,hn⟩ : ∃ n : Nat,k = -(n : Int) := ⟨(-k).toNat,by omega⟩
    have hs' : decide ((0 : Int) ≤ k) = false := by simp; omega
    have hs'' : k < 0 := by omega
    have en : -k = (n : Int) := by omega
    have e1 : A * 2 ^ n = A2 := by rw [← hA2.out,en]; rfl
    have e2 : B = B2 := by
     rw [← hB2.out,show k.toNat = 0 by omega]; simp
    have n1 : n ≤ 3000 := by omega
    have hT := shift_any u9 A n n1 hTa.out _ na
    rw [e1] at hT
    rw [e2] at nb
    have NB := Lib.hid nb
    clear e1 e2 hAe hBe hTa hTb hA hB hA2 hB2 na nb hn
    go_wp2_with fail
    refine hT.mono ?_
    rintro e w3 ⟨v3,rfl,n3,b3⟩
    go_wp2_with fail
    go_meet
    exact Lib.hid ⟨n3,NB.out.kept b3,B0.out.trans (b3.mono B0.out.size)⟩
  case rest =>
   obtain ⟨na,nb,b0⟩ := hcut.out
   have hC := compare_any _ _ A2 B2 (bb_up hA.out) (bb_up hB.out) _ na nb
   have B0 := Lib.hid b0
   clear b0 HT na nb hcut
   go_wp2_with fail
   refine hC.mono ?_
   rintro e w3 ⟨rfl,n,rfl⟩
   go_wp2_with fail
   go_ret
   exact ⟨rfl,below_drewN B0.out n⟩
end Go.Proofs.YtalaajniammggaaGreatDoor

/- The document's side: Side. -/
namespace Go.Proofs.YtalaajniammggaaGreatDoor
open Go.RowKit
def sideA (a1 a2 : Int) (ev : Bool) : Int := if a1 < 0 ∨ (a1 = 0 ∧ ev = false) then -1 else if 0 < a2 ∨ (a2 = 0 ∧ ev = false) then 1 else 0
def sideN (m : Nat) (k : Int) (c : Nat) (s : Int) : Int :=
 sideA (cmpN (c * vY (k - 2) s) (vX (cl m (skewOf m k)) (k - 2) s)) (cmpN (c * vY (k - 2) s) (vX (4 * m + 2) (k - 2) s)) (decide (m % 2 = 0))
theorem quarter (a c : Nat) (k s : Int) : ∃ E F,0 < E ∧ 0 < F ∧ vX a (k - 2) s * F = a * 2 ^ k.toNat * 10 ^ (-s).toNat * E ∧ c * vY (k - 2) s * F = 4 * c * 10 ^ s.toNat * 2 ^ (-k).toNat * E := by
 unfold vX vY
 by_cases h : 2 ≤ k
 ·refine ⟨1,4,by omega,by omega,?_,?_⟩
  ·have e : 2 ^ k.toNat = 2 ^ (k - 2).toNat * 4 := by
    rw [show (4 : Nat) = 2 ^ 2 by decide,← Nat.pow_add]; congr 1; omega
   rw [e]
   grind
  ·rw [show (-(k - 2)).toNat = 0 by omega,show (-k).toNat = 0 by omega]
   grind
 ·by_cases h0 : k ≤ 0
  ·refine ⟨1,1,by omega,by omega,?_,?_⟩
   ·rw [show (k - 2).toNat = 0 by omega,show k.toNat = 0 by omega]
   ·have e : 2 ^ (-(k - 2)).toNat = 2 ^ (-k).toNat * 4 := by
     rw [show (4 : Nat) = 2 ^ 2 by decide,← Nat.pow_add]; congr 1; omega
    rw [e]
    grind
  ·obtain rfl : k = 1 := by omega
   refine ⟨1,2,by omega,by omega,?_,?_⟩
   ·show a * 1 * 10 ^ (-s).toNat * 2 = a * 2 * 10 ^ (-s).toNat * 1
    grind
   ·show c * (10 ^ s.toNat * 2) * 2 = 4 * c * 10 ^ s.toNat * 1 * 1
    grind
theorem cmp_lt (a b : Nat) : cmpN a b < 0 ↔ a < b := by
 unfold cmpN
 by_cases h : a < b
 ·rw [if_pos h]; simp [h]
 ·rw [if_neg h]
  by_cases h2 : b < a
  ·rw [if_pos h2]; simp; omega
  ·rw [if_neg h2]; simp; omega
theorem cmp_gt (a b : Nat) : 0 < cmpN a b ↔ b < a := by
 unfold cmpN
 by_cases h : a < b
 ·rw [if_pos h]; simp; omega
 ·rw [if_neg h]
  by_cases h2 : b < a
  ·rw [if_pos h2]; simp [h2]
  ·rw [if_neg h2]; simp; omega
theorem cmp_eq (a b : Nat) : cmpN a b = 0 ↔ a = b := by
 unfold cmpN
 by_cases h : a < b
 ·rw [if_pos h]; simp; omega
 ·rw [if_neg h]
  by_cases h2 : b < a
  ·rw [if_pos h2]; simp; omega
  ·rw [if_neg h2]; simp; omega
theorem side_low (m : Nat) (k : Int) (c : Nat) (s : Int) : sideN m k c s = -1 ↔ ¬ (if m % 2 = 0 then le2 (cl m (skewOf m k)) k (4 * c) s else lt2 (cl m (skewOf m k)) k (4 * c) s) := by
 obtain ⟨E,F,hE,hF,h1,h2⟩ := quarter (cl m (skewOf m k)) c k s
 unfold sideN sideA
 simp only [cmp_lt,cmp_eq,cmp_gt,decide_eq_false_iff_not]
 have l1 := cross_le hE hF h1 h2
 have l2 := cross_lt hE hF h1 h2
 unfold le2 lt2
 by_cases hm : m % 2 = 0
 ·rw [if_pos hm,← l1]
  by_cases c1 : c * vY (k - 2) s < vX (cl m (skewOf m k)) (k - 2) s
  ·rw [if_pos (.inl c1)]; simp; exact c1
  ·rw [if_neg (by rintro (h | h); exact c1 h; exact h.2 hm)]
   constructor
   ·intro h; split at h <;> simp at h
   ·intro h; omega
 ·rw [if_neg hm,← l2]
  by_cases c1 : c * vY (k - 2) s ≤ vX (cl m (skewOf m k)) (k - 2) s
  ·rw [if_pos (by rcases Nat.lt_or_eq_of_le c1 with h | h; exact .inl h; exact .inr ⟨h,hm⟩)]; simp; exact c1
  ·rw [if_neg (by rintro (h | h); omega; omega)]
   constructor
   ·intro h; split at h <;> simp at h
   ·intro h; omega
theorem side_high (m : Nat) (k : Int) (c : Nat) (s : Int) : sideN m k c s = 1 ↔ (if m % 2 = 0 then le2 (cl m (skewOf m k)) k (4 * c) s else lt2 (cl m (skewOf m k)) k (4 * c) s) ∧ ¬ (if m % 2 = 0 then ge2 (4 * m + 2) k (4 * c) s else gt2 (4 * m + 2) k (4 * c) s) := by
 have hl := side_low m k c s
 obtain ⟨E,F,hE,hF,h1,h2⟩ := quarter (4 * m + 2) c k s
 have l1 := cross_le hE hF h2 h1
 have l2 := cross_lt hE hF h2 h1
 unfold sideN sideA at hl ⊢
 simp only [cmp_lt,cmp_eq,cmp_gt,decide_eq_false_iff_not] at hl ⊢
 by_cases c0 : c * vY (k - 2) s < vX (cl m (skewOf m k)) (k - 2) s ∨ (c * vY (k - 2) s = vX (cl m (skewOf m k)) (k - 2) s ∧ ¬ m % 2 = 0)
 ·rw [if_pos c0] at hl ⊢
  have := hl.1 rfl
  constructor
  ·intro h; simp at h
  ·intro h; exact absurd h.1 this
 ·rw [if_neg c0] at hl ⊢
  have hl2 : (if m % 2 = 0 then le2 (cl m (skewOf m k)) k (4 * c) s else lt2 (cl m (skewOf m k)) k (4 * c) s) := by
   refine Classical.byContradiction fun hh => ?_
   have := hl.2 hh
   split at this <;> simp at this
  simp only [hl2,true_and]
  unfold ge2 gt2
  by_cases hm : m % 2 = 0
  ·rw [if_pos hm,← l1]
   by_cases c1 : vX (4 * m + 2) (k - 2) s < c * vY (k - 2) s
   ·rw [if_pos (.inl c1)]; simp; exact c1
   ·rw [if_neg (by rintro (h | h); exact c1 h; exact h.2 hm)]; simp; omega
  ·rw [if_neg hm,← l2]
   by_cases c1 : vX (4 * m + 2) (k - 2) s ≤ c * vY (k - 2) s
   ·rw [if_pos (by rcases Nat.lt_or_eq_of_le c1 with h | h; exact .inl h; exact .inr ⟨h.symm,hm⟩)]; simp; exact c1
   ·rw [if_neg (by rintro (h | h); omega; omega)]; simp; omega
theorem side_is (m : Nat) (k : Int) (c : Nat) (s : Int) : sideN m k c s = -1 ∨ sideN m k c s = 0 ∨ sideN m k c s = 1 := by
 unfold sideN sideA
 split
 ·exact .inl rfl
 ·split
  ·exact .inr (.inr rfl)
  ·exact .inr (.inl rfl)
theorem side_zero (m : Nat) (k : Int) (c : Nat) (s : Int) : sideN m k c s = 0 ↔ Reads m k (skewOf m k) c s := by
 have a := side_low m k c s
 have b := side_high m k c s
 have hr : Reads m k (skewOf m k) c s ↔ (if m % 2 = 0 then le2 (cl m (skewOf m k)) k (4 * c) s else lt2 (cl m (skewOf m k)) k (4 * c) s) ∧ (if m % 2 = 0 then ge2 (4 * m + 2) k (4 * c) s else gt2 (4 * m + 2) k (4 * c) s) := by
  unfold Reads
  by_cases hm : m % 2 = 0
  ·simp only [if_pos hm]
  ·simp only [if_neg hm]
 rw [hr]
 generalize (if m % 2 = 0 then le2 (cl m (skewOf m k)) k (4 * c) s else lt2 (cl m (skewOf m k)) k (4 * c) s) = P at *
 generalize (if m % 2 = 0 then ge2 (4 * m + 2) k (4 * c) s else gt2 (4 * m + 2) k (4 * c) s) = Q at *
 constructor
 ·intro h
  have hP : P := Classical.byContradiction fun hh => by have := a.2 hh; omega
  exact ⟨hP,Classical.byContradiction fun hh => by have := b.2 ⟨hP,hh⟩; omega⟩
 ·rintro ⟨hP,hQ⟩
  rcases side_is m k c s with h | h | h
  ·exact absurd hP (a.1 h)
  ·exact h
  ·exact absurd hQ (b.1 h).2
theorem cmp_is (a b : Nat) : cmpN a b = -1 ∨ cmpN a b = 0 ∨ cmpN a b = 1 := by
 unfold cmpN
 split
 ·exact .inl rfl
 ·split
  ·exact .inr (.inr rfl)
  ·exact .inr (.inl rfl)
theorem mag_facts {r : Nat} (h0 : 1 ≤ r) (h : r < INF) : 1 ≤ magOf r ∧ magOf r < 9007199254740992 ∧ expOf r ≤ 2045 ∧ (skewOf (magOf r) ((expOf r : Int) - 1074) = true ↔ magOf r = 4503599627370496 ∧ 1 < r / 4503599627370496) := by
 have FL := flo_of (by omega) h
 have e52 : (2 : Nat) ^ 52 = 4503599627370496 := by decide
 refine ⟨FL.one,FL.top,by have := FL.hi; omega,?_⟩
 unfold skewOf
 simp only [Bool.and_eq_true,decide_eq_true_eq]
 have : (-1074 < (expOf r : Int) - 1074) ↔ 1 < r / 4503599627370496 := by
  unfold expOf
  rw [e52]
  split <;> omega
 rw [this]
set_option maxRecDepth 100000 in
set_option maxHeartbeats 1000000 in
theorem Side_any (r c : Nat) (s : Int) (h0 : 1 ≤ r) (hr : r < INF) (hc : c < 18446744073709551616) (s1 : -1100 ≤ s) (s2 : s ≤ 1100) (w : World) :
  Calls Tryz.prog 92 #[.int .u64 r,.int .u64 c,.int .i64 s] w fun e w' => e = .returned (.int .i64 (sideN (magOf r) ((expOf r : Int) - 1074) c s)) ∧ Below w.heap.size w w' := by
 obtain ⟨m1,m2,x2,sk⟩ := mag_facts h0 hr
 have hP := parts_any r hr
 have hI : INF = 9218868437227405312 := rfl
 have r64 : r < 18446744073709551616 := by omega
 unfold sideN
 generalize magOf r = m at *
 obtain ⟨k,hk⟩ : ∃ k : Int,(expOf r : Int) - 1074 = k := ⟨_,rfl⟩
 have k1 : -1074 ≤ k := by omega
 have k2 : k ≤ 971 := by omega
 rw [hk] at hP sk ⊢
 clear hk x2 h0 hr
 have cb : cl m (skewOf m k) < 18446744073709551616 := by
  unfold cl
  cases skewOf m k
  ·show 4 * m - 2 < _; omega
  ·show 4 * m - 1 < _; omega
 have hA1 := fun W => against_any c (cl m (skewOf m k)) s (k - 2) hc cb s1 s2 (by omega) (by omega) W
 have hA2 := fun W => against_any c (4 * m + 2) s (k - 2) hc (by omega) s1 s2 (by omega) (by omega) W
 have i1 := cmp_is (c * vY (k - 2) s) (vX (cl m (skewOf m k)) (k - 2) s)
 have i2 := cmp_is (c * vY (k - 2) s) (vX (4 * m + 2) (k - 2) s)
 obtain ⟨a1,ha1⟩ : ∃ a,Hid (cmpN (c * vY (k - 2) s) (vX (cl m (skewOf m k)) (k - 2) s) = a) := ⟨_,Lib.hid rfl⟩
 obtain ⟨a2,ha2⟩ : ∃ a,Hid (cmpN (c * vY (k - 2) s) (vX (4 * m + 2) (k - 2) s) = a) := ⟨_,Lib.hid rfl⟩
 rw [ha1.out] at hA1 i1 ⊢
 rw [ha2.out] at hA2 i2 ⊢
 clear ha1 ha2
 obtain ⟨l,hl⟩ : ∃ l,Hid (cl m (skewOf m k) = l) := ⟨_,Lib.hid rfl⟩
 rw [hl.out] at hA1 cb
 obtain ⟨q,hq⟩ : ∃ q,Hid (4 * m + 2 = q) := ⟨_,Lib.hid rfl⟩
 rw [hq.out] at hA2
 have eq : 4 * (m : Int) + 2 = (q : Int) := by have := hq.out; omega
 obtain ⟨ev,hev⟩ : ∃ b,Hid (decide (m % 2 = 0) = b) := ⟨_,Lib.hid rfl⟩
 rw [hev.out]
 have dev : (((m : Int) % 2) == 0) = ev := by
  rw [← hev.out]
  by_cases h : m % 2 = 0
  ·simp [h]; omega
  ·simp [h]; omega
 obtain ⟨lw,elw⟩ : ∃ x : Nat,4 * (m : Int) - 2 = (x : Int) := ⟨4 * m - 2,by omega⟩
 obtain ⟨l1,el1⟩ : ∃ x : Nat,4 * (m : Int) - 1 = (x : Int) := ⟨4 * m - 1,by omega⟩
 obtain ⟨RR,hRR⟩ : ∃ x,Hid (sideA a1 a2 ev = x) := ⟨_,Lib.hid rfl⟩
 rw [hRR.out]
 go_enter Tryz.func92,Tryz.ntmps92
 go_wp2_with fail
 refine (hP _).mono ?_
 rintro e w1 ⟨rfl,hw1⟩
 obtain rfl : w = w1 := hw1.symm
 go_upto_region 3 with fail
 go_cut [26] from 20 to 25 (fun s26 wy => ∃ b : Bool,s26 = .bool b ∧ wy = w ∧ Hid (b = skewOf m k))
 case first =>
  by_cases b1 : m = 4503599627370496
  ·have b1' : ((m : Int) == 4503599627370496) = true := by rw [beq_iff_eq]; omega
   by_cases b2 : 1 < r / 4503599627370496
   ·have b2' : (1 : Int) < (r : Int) / 4503599627370496 := by omega
    have hs : true = skewOf m k := (sk.2 ⟨b1,b2⟩).symm
    have HS := Lib.hid hs
    clear b1 hs sk
    go_wp2_with fail
    go_meet
    exact ⟨true,rfl,by trivial,HS⟩
   ·have b2' : decide ((1 : Int) < (r : Int) / 4503599627370496) = false := by simp; omega
    have b2'' : (r : Int) / 4503599627370496 ≤ 1 := by omega
    have hs : false = skewOf m k := by
     cases hh : skewOf m k with
     | false => rfl
     | true => exact absurd (sk.1 hh).2 b2
    have HS := Lib.hid hs
    clear b1 hs sk
    go_wp2_with fail
    go_meet
    exact ⟨false,rfl,by trivial,HS⟩
  ·have b1' : ((m : Int) == 4503599627370496) = false := by rw [beq_eq_false_iff_ne]; omega
   have hs : false = skewOf m k := by
    cases hh : skewOf m k with
    | false => rfl
    | true => exact absurd (sk.1 hh).1 b1
   have HS := Lib.hid hs
   clear hs sk
   go_wp2_with fail
   go_meet
   exact ⟨false,rfl,by trivial,HS⟩
 case rest =>
  obtain ⟨b,rfl,hwc,HB⟩ := hcut
  obtain rfl : w = wc := hwc.symm
  go_upto_if 26 with fail
  go_cut [9,26] from 27 to 29 (fun s9 _ wy => s9 = .int .u64 l ∧ wy = w)
  case first =>
   cases b with
   | true =>
    have e : l1 = l := by rw [← hl.out,← HB.out]; unfold cl; show l1 = 4 * m - 1; omega
    subst e
    clear hl HB
    go_wp2_with fail
    go_meet
    exact ⟨rfl,by trivial⟩
   | false =>
    have e : lw = l := by rw [← hl.out,← HB.out]; unfold cl; show lw = 4 * m - 2; omega
    subst e
    clear hl HB
    go_wp2_with fail
    go_meet
    exact ⟨rfl,by trivial⟩
  case rest =>
   obtain ⟨rfl,hwc⟩ := hcut
   obtain rfl : w = wc := hwc.symm
   clear elw el1 hl HB sk
   go_wp2_with fail
   refine (hA1 _).mono ?_
   rintro e w1 ⟨rfl,b1⟩
   by_cases c0 : a1 < 0 ∨ (a1 = 0 ∧ ev = false)
   ·obtain rfl : RR = -1 := by rw [← hRR.out]; unfold sideA; rw [if_pos c0]
    rcases i1 with rfl | rfl | rfl
    ·go_wp2_with fail
     go_ret
     exact ⟨rfl,b1⟩
    ·obtain rfl : ev = false := by rcases c0 with h | h; omega; exact h.2
     go_wp2_with fail
     go_ret
     exact ⟨rfl,b1⟩
    ·exfalso; rcases c0 with h | h; omega; omega
   ·have hR : Hid (RR = if 0 < a2 ∨ (a2 = 0 ∧ ev = false) then 1 else 0) := Lib.hid (by rw [← hRR.out]; unfold sideA; rw [if_neg c0])
    clear hRR
    go_upto_region 7 with fail
    go_cut [48] from 39 to 47 (fun s48 wy => s48 = .bool false ∧ wy = w1)
    case first =>
     rcases i1 with rfl | rfl | rfl
     ·exfalso; exact c0 (.inl (by omega))
     ·cases ev with
      | false => exact absurd (Or.inr ⟨rfl,rfl⟩) c0
      | true =>
       go_wp2_with fail
       go_meet
       exact ⟨rfl,by trivial⟩
     ·go_wp2_with fail
      go_meet
      exact ⟨rfl,by trivial⟩
    case rest =>
     obtain ⟨rfl,hwc⟩ := hcut
     obtain rfl : w1 = wc := hwc.symm
     clear c0 hA1 i1
     go_wp2_with fail
     refine (hA2 _).mono ?_
     rintro e w2 ⟨rfl,b2⟩
     have b3 := b1.trans (b2.mono b1.size)
     clear b1 b2
     rcases i2 with rfl | rfl | rfl
     ·obtain rfl : RR = 0 := by rw [hR.out,if_neg (by rintro (h | h); omega; omega)]
      go_wp2_with fail
      go_ret
      exact ⟨rfl,b3⟩
     ·cases ev with
      | false =>
       obtain rfl : RR = 1 := by rw [hR.out,if_pos (.inr ⟨rfl,rfl⟩)]
       go_wp2_with fail
       go_ret
       exact ⟨rfl,b3⟩
      | true =>
       obtain rfl : RR = 0 := by rw [hR.out,if_neg (by rintro (h | h); omega; simp at h)]
       go_wp2_with fail
       go_ret
       exact ⟨rfl,b3⟩
     ·obtain rfl : RR = 1 := by rw [hR.out,if_pos (.inl (by omega))]
      go_wp2_with fail
      go_ret
      exact ⟨rfl,b3⟩
end Go.Proofs.YtalaajniammggaaGreatDoor

/- The document's side: ratio. -/
namespace Go.Proofs.YtalaajniammggaaGreatDoor
open Go.RowKit
def Div (X Y j q R : Nat) : Prop := X = q * Y + R ∧ R < Y * 2 ^ j ∧ q % 2 ^ j = 0
theorem div_start {X Y : Nat} (h : X / Y < 9223372036854775808) (hY : 0 < Y) : Div X Y 63 0 X := by
 refine ⟨by omega,?_,rfl⟩
 have e : (2 : Nat) ^ 63 = 9223372036854775808 := by decide
 rw [e,Nat.mul_comm]
 exact (Nat.div_lt_iff_lt_mul hY).1 h
theorem div_yes {X Y i q R : Nat} (h : Div X Y (i + 1) q R) (hc : Y * 2 ^ i ≤ R) : Div X Y i (q + 2 ^ i) (R - Y * 2 ^ i) := by
 obtain ⟨h1,h2,h3⟩ := h
 have e : 2 ^ (i + 1) = 2 ^ i + 2 ^ i := by rw [Nat.pow_succ]; omega
 refine ⟨?_,?_,?_⟩
 ·rw [Nat.add_mul,Nat.mul_comm (2 ^ i) Y]; omega
 ·rw [e,Nat.mul_add] at h2; omega
 ·have hd : 2 ^ i ∣ q := Nat.dvd_trans ⟨2,by rw [Nat.pow_succ]⟩ (Nat.dvd_of_mod_eq_zero h3)
  obtain ⟨c,rfl⟩ := hd
  rw [show 2 ^ i * c + 2 ^ i = 2 ^ i * (c + 1) by rw [Nat.mul_add,Nat.mul_one]]
  exact Nat.mul_mod_right _ _
theorem div_no {X Y i q R : Nat} (h : Div X Y (i + 1) q R) (hc : R < Y * 2 ^ i) : Div X Y i q R := by
 obtain ⟨h1,h2,h3⟩ := h
 refine ⟨h1,hc,?_⟩
 have hd : 2 ^ i ∣ q := Nat.dvd_trans ⟨2,by rw [Nat.pow_succ]⟩ (Nat.dvd_of_mod_eq_zero h3)
 exact Nat.mod_eq_zero_of_dvd hd
theorem div_or {X Y i q R : Nat} (h : Div X Y (i + 1) q R) : q ||| 2 ^ i = q + 2 ^ i := by
 obtain ⟨_,_,h3⟩ := h
 obtain ⟨c,rfl⟩ := Nat.dvd_of_mod_eq_zero h3
 rw [← Nat.two_pow_add_eq_or_of_lt (Nat.pow_lt_pow_right (by decide) (Nat.lt_succ_self i))]
theorem div_le {X Y j q R : Nat} (h : Div X Y j q R) (hY : 0 < Y) : q ≤ X / Y ∧ R ≤ X := by
 obtain ⟨h1,_,_⟩ := h
 refine ⟨(Nat.le_div_iff_mul_le hY).2 (by omega),by omega⟩
theorem div_end {X Y q R : Nat} (h : Div X Y 0 q R) : q = X / Y ∧ R = X % Y := by
 obtain ⟨h1,h2,_⟩ := h
 rw [Nat.pow_zero,Nat.mul_one] at h2
 have := (Nat.div_mod_unique (a := X) (d := q) (c := R) (b := Y) (by omega)).2 ⟨by rw [Nat.mul_comm Y q]; omega,h2⟩
 exact ⟨this.1.symm,this.2.symm⟩
theorem bb_mul {a b Y Z : Nat} (h1 : Y < BB ^ a) (h2 : Z ≤ BB ^ b) (hz : 0 < Z) : Y * Z < BB ^ (a + b) := by
 rw [Nat.pow_add]
 exact Nat.lt_of_lt_of_le (Nat.mul_lt_mul_of_pos_right h1 hz) (Nat.mul_le_mul_left _ h2)
theorem fit_shift {Y i : Nat} (h : Y < BB ^ 300) (hi : i ≤ 1100) : Y * 2 ^ i < BB ^ 400 := by
 have h4 := bb_mul h (two_bb hi) (Nat.pow_pos (by decide))
 have h5 := @bb_le (300 + 35) 400 (by omega)
 exact Nat.lt_of_lt_of_le h4 h5
theorem fit_two {R : Nat} (h : R < BB ^ 300) : 2 * R < BB ^ 400 := by
 have := fit_shift (i := 1) h (by omega)
 rw [Nat.pow_one] at this
 rw [Nat.mul_comm]
 exact this
def DivR (X Y : Nat) (w0 w : World) (v8 v9 : Value) (j q : Nat) : Prop := ∃ R,Div X Y j q R ∧ Two w0 w v8 v9 R Y
set_option maxRecDepth 100000 in
set_option maxHeartbeats 2000000 in
theorem ratio_any (r : Nat) (s : Int) (h0 : 1 ≤ r) (hr : r < INF) (s1 : -1100 ≤ s) (s2 : s ≤ 1100) (hq : vX (magOf r) ((expOf r : Int) - 1074) s / vY ((expOf r : Int) - 1074) s < 9223372036854775808) (w : World) :
  Calls Tryz.prog 104 #[.int .u64 r,.int .i64 s] w fun e w' => e = .returned (.tuple #[.int .u64 (vX (magOf r) ((expOf r : Int) - 1074) s / vY ((expOf r : Int) - 1074) s : Nat),.int .i64 (cmpN (2 * (vX (magOf r) ((expOf r : Int) - 1074) s % vY ((expOf r : Int) - 1074) s)) (vY ((expOf r : Int) - 1074) s))]) ∧ Below w.heap.size w w' := by
 obtain ⟨m1,m2,x2,_⟩ := mag_facts h0 hr
 have hP := parts_any r hr
 have hI : INF = 9218868437227405312 := rfl
 have r64 : r < 18446744073709551616 := by omega
 generalize magOf r = m at *
 obtain ⟨k,hk⟩ : ∃ k : Int,(expOf r : Int) - 1074 = k := ⟨_,rfl⟩
 have k1 : -1074 ≤ k := by omega
 have k2 : k ≤ 971 := by omega
 rw [hk] at hP hq ⊢
 clear hk x2 h0 hr
 have eX : vX m k s = m * 10 ^ (-s).toNat * 2 ^ k.toNat := by unfold vX; rw [Nat.mul_right_comm]
 have eY : vY k s = 1 * 10 ^ s.toNat * 2 ^ (-k).toNat := by unfold vY; rw [Nat.one_mul]
 have fX : Hid (vX m k s < BB ^ 300) := Lib.hid (by rw [eX]; exact fit_all (by omega) (by omega) (by omega))
 have fY : Hid (vY k s < BB ^ 300) := Lib.hid (by rw [eY]; exact fit_all (by omega) (by omega) (by omega))
 have hYp := Lib.hid (vY_pos k s)
 have HX : Hid (vX m k s = m * 2 ^ k.toNat * 10 ^ (-s).toNat) := Lib.hid rfl
 have HY : Hid (vY k s = 1 * 2 ^ (-k).toNat * 10 ^ s.toNat) := Lib.hid (by unfold vY; rw [Nat.one_mul,Nat.mul_comm])
 clear eX eY
 generalize vX m k s = X at *
 generalize vY k s = Y at *
 have HQ := Lib.hid hq
 clear hq
 have h1 := fun W => of_any m (by omega) W
 have h2 := fun W => of_any 1 (by omega) W
 obtain ⟨X1,hX1⟩ : ∃ x,Hid (m * 2 ^ k.toNat = x) := ⟨_,Lib.hid rfl⟩
 obtain ⟨Y1,hY1⟩ : ∃ x,Hid (1 * 2 ^ (-k).toNat = x) := ⟨_,Lib.hid rfl⟩
 rw [hX1.out] at HX
 rw [hY1.out] at HY
 obtain ⟨Qr,hQr⟩ : ∃ x,Hid (X / Y = x) := ⟨_,Lib.hid rfl⟩
 obtain ⟨Hr,hHr⟩ : ∃ x,Hid (cmpN (2 * (X % Y)) Y = x) := ⟨_,Lib.hid rfl⟩
 rw [hQr.out,hHr.out]
 go_enter Tryz.func104,Tryz.ntmps104
 go_wp2_with fail
 refine (hP _).mono ?_
 rintro e w1 ⟨rfl,hw1⟩
 obtain rfl : w = w1 := hw1.symm
 go_wp2_with fail
 refine (h1 _).mono ?_
 rintro e w1 ⟨va,rfl,na,b1⟩
 go_wp2_with fail
 refine (h2 _).mono ?_
 rintro e w2 ⟨vb,rfl,nb,b2⟩
 have HT : Hid (Two w w2 va vb m 1) := Lib.hid ⟨na.kept b2,nb,b1.trans (b2.mono b1.size)⟩
 clear na nb b1 b2 h1 h2 hP
 go_upto_if 22 with fail
 go_cut [8,9,22] from 23 to 29 (fun s8 s9 _ wy => Hid (Two w wy s8 s9 X1 Y1))
 case first =>
  obtain ⟨na,nb,b0⟩ := HT.out
  have B0 := Lib.hid b0
  clear b0 HT
  by_cases hs : 0 ≤ k
  ·obtain ⟨n,hn⟩ : ∃ n : Nat,k = n := ⟨k.toNat,by omega⟩
   have e1 : m * 2 ^ n = X1 := by rw [← hX1.out,hn]; rfl
   have e2 : 1 = Y1 := by rw [← hY1.out,hn]; simp
   have hT := shift_any va m n (by omega) (by have := bb_two (c := m) (by omega); have h5 := @bb_le 2 300 (by omega); exact Nat.lt_of_lt_of_le this h5) _ na
   rw [e1] at hT
   rw [e2] at nb
   have NB := Lib.hid nb
   subst hn
   clear e1 e2 hX1 hY1 HX HY fX fY HQ hQr hHr na nb hYp
   go_wp2_with fail
   refine hT.mono ?_
   rintro e w3 ⟨v3,rfl,n3,b3⟩
   go_wp2_with fail
   go_meet
   exact Lib.hid ⟨n3,NB.out.kept b3,B0.out.trans (b3.mono B0.out.size)⟩
  ·obtain ⟨n,hn⟩ : ∃ n : Nat,k = -(n : Int) := ⟨(-k).toNat,by omega⟩
   have hs' : decide ((0 : Int) ≤ k) = false := by simp; omega
   have hs'' : k < 0 := by omega
   have en : -k = (n : Int) := by omega
   have e1 : 1 * 2 ^ n = Y1 := by rw [← hY1.out,en]; rfl
   have e2 : m = X1 := by rw [← hX1.out,show k.toNat = 0 by omega]; simp
   have hT := shift_any vb 1 n (by omega) (by have := bb_two (c := 1) (by omega); have h5 := @bb_le 2 300 (by omega); exact Nat.lt_of_lt_of_le this h5) _ nb
   rw [e1] at hT
   rw [e2] at na
   have NA := Lib.hid na
   clear e1 e2 hX1 hY1 HX HY fX fY HQ hQr hHr na nb hn hYp
   go_wp2_with fail
   refine hT.mono ?_
   rintro e w3 ⟨v3,rfl,n3,b3⟩
   go_wp2_with fail
   go_meet
   exact Lib.hid ⟨NA.out.kept b3,n3,B0.out.trans (b3.mono B0.out.size)⟩
 case rest =>
  clear HT
  have HT := hcut
  clear hcut
  go_upto_if 31 with fail
  go_cut [8,9,31] from 32 to 38 (fun s8 s9 _ wy => Hid (Two w wy s8 s9 X Y))
  case first =>
   obtain ⟨na,nb,b0⟩ := HT.out
   have B0 := Lib.hid b0
   clear b0 HT
   by_cases hs : 0 ≤ s
   ·obtain ⟨n,hn⟩ : ∃ n : Nat,s = n := ⟨s.toNat,by omega⟩
    have e1 : Y1 * 10 ^ n = Y := by rw [HY.out,hn]; rfl
    have e2 : X1 = X := by rw [HX.out,hn]; simp
    have hT := tens_any u9 Y1 n (by omega) (by rw [e1]; exact fY) _ nb
    rw [e1] at hT
    rw [e2] at na
    have NA := Lib.hid na
    subst hn
    clear e1 e2 hX1 hY1 HX HY fX fY HQ hQr hHr na nb hYp
    go_wp2_with fail
    refine hT.mono ?_
    rintro e w3 ⟨v3,rfl,n3,b3⟩
    go_wp2_with fail
    go_meet
    exact Lib.hid ⟨NA.out.kept b3,n3,B0.out.trans (b3.mono B0.out.size)⟩
   ·obtain ⟨n,hn⟩ : ∃ n : Nat,s = -(n : Int) := ⟨(-s).toNat,by omega⟩
    have hs' : decide ((0 : Int) ≤ s) = false := by simp; omega
    have hs'' : s < 0 := by omega
    have en : -s = (n : Int) := by omega
    have e1 : X1 * 10 ^ n = X := by rw [HX.out,en]; rfl
    have e2 : Y1 = Y := by rw [HY.out,show s.toNat = 0 by omega]; simp
    have hT := tens_any u8 X1 n (by omega) (by rw [e1]; exact fX) _ na
    rw [e1] at hT
    rw [e2] at nb
    have NB := Lib.hid nb
    clear e1 e2 hX1 hY1 HX HY fX fY HQ hQr hHr na nb hn hYp
    go_wp2_with fail
    refine hT.mono ?_
    rintro e w3 ⟨v3,rfl,n3,b3⟩
    go_wp2_with fail
    go_meet
    exact Lib.hid ⟨n3,NB.out.kept b3,B0.out.trans (b3.mono B0.out.size)⟩
  case rest =>
   have H0 : Hid (DivR X Y w wc u8 u9 63 0) := Lib.hid ⟨X,div_start HQ.out hYp.out,hcut.out⟩
   clear HT hcut hX1 hY1 HX HY
   go_upto_block 0 with fail
   go_cut [8,10,11,12] from 39 to 56 (fun s8 s10 _ _ wy => ∃ q : Nat,s10 = .int .u64 q ∧ Hid (DivR X Y w wy s8 u9 0 q))
   case first =>
    go_wp2_with fail
    go_loopw [8,10,11,12] (fun s8 s10 s11 _ wr => ∃ (j q : Nat) (z : Int),s10 = .int .u64 q ∧ s11 = .int .i64 z ∧ -1 ≤ z ∧ z ≤ 62 ∧ Hid (z = (j : Int) - 1) ∧ Hid (DivR X Y w wr s8 u9 j q)) (fun _ _ s11 _ _ => (intOf s11 + 1).toNat)
    case atStart => exact ⟨63,0,62,rfl,rfl,by omega,by omega,Lib.hid (by omega),H0⟩
    case round =>
     clear H0
     obtain ⟨j,q,z,rfl,rfl,z1,z2,HZ,H0⟩ := hrel
     by_cases hz : 0 ≤ z
     ·obtain ⟨i,hi⟩ : ∃ i : Nat,z = (i : Int) := ⟨z.toNat,by omega⟩
      subst hi
      have hji : j = i + 1 := by have := HZ.out; omega
      subst hji
      obtain ⟨R,hD,nR,nY,bR⟩ := H0.out
      obtain ⟨P,hP2⟩ : ∃ P,Hid (2 ^ i = P) := ⟨_,Lib.hid rfl⟩
      have hPb : P ≤ 4611686018427387904 := by
       rw [← hP2.out]
       exact Nat.pow_le_pow_right (n := 2) (by decide) (show i ≤ 62 by omega)
      have HD := Lib.hid hD
      have fR : Hid (R < BB ^ 400) := Lib.hid (bb_up (Nat.lt_of_le_of_lt (div_le hD hYp.out).2 fX.out))
      have fT : Hid (Y * 2 ^ i < BB ^ 400) := Lib.hid (fit_shift fY.out (by omega))
      have hS := shift_any u9 Y i (by omega) fY.out _ nY
      have hor := div_or hD
      have qb : q + 2 ^ i < 18446744073709551616 := by
       have h9 := (div_le hD hYp.out).1
       have := HQ.out
       rw [hP2.out]
       omega
      have q64 : q < 18446744073709551616 := Nat.lt_of_le_of_lt (Nat.le_add_right q _) qb
      have e2 : bits .or .u64 (q : Int) (P : Int) = ((q + P : Nat) : Int) := by
       have := u64_or_nat q P q64 (by omega)
       rw [this,← hP2.out,hor]
      rw [hP2.out] at qb hor
      have e1 : IntKind.u64.wrap (2 ^ i) = (P : Int) := by
       have : ((2 : Int) ^ i) = (P : Int) := by rw [← hP2.out]; push_cast; rfl
       rw [this,IntKind.wrap_u64]
       omega
      obtain ⟨T,hT⟩ : ∃ T,Hid (Y * 2 ^ i = T) := ⟨_,Lib.hid rfl⟩
      rw [hT.out] at hS fT
      have BR := Lib.hid bR
      have NR := Lib.hid nR
      have NY := Lib.hid nY
      clear H0 hD nR nY bR hor
      go_wp2_with fail
      refine hS.mono ?_
      rintro e w3 ⟨vt,rfl,nt,b3⟩
      have hC := compare_any _ _ R T fR.out fT.out _ (NR.out.kept b3) nt
      have B3 := Lib.hid b3
      have NT := Lib.hid nt
      clear b3 nt hS
      go_wp2_with fail
      refine hC.mono ?_
      rintro e w4 ⟨rfl,n4,hw4⟩
      have b4 : Below w3.heap.size w3 w4 := by rw [hw4]; exact below_drewN (Below.refl _ _) _
      have B4 := Lib.hid b4
      clear hw4 b4 hC
      by_cases hc : T ≤ R
      ·have hc' : (0 : Int) ≤ cmpN R T := by
        unfold cmpN
        rw [if_neg (by omega)]
        split <;> omega
       have hL := less_any _ _ R T fR.out hc w4 ((NR.out.kept B3.out).kept B4.out) (NT.out.kept B4.out)
       obtain ⟨cm,hcm⟩ : ∃ c,Hid (cmpN R T = c) := ⟨_,Lib.hid rfl⟩
       rw [hcm.out] at hc' ⊢
       have HC := Lib.hid hc
       clear hc
       go_wp2_with fail
       refine hL.mono ?_
       rintro e w5 ⟨v5,rfl,n5,b5⟩
       have H1 : Hid (DivR X Y w w5 v5 u9 i (q + P)) := Lib.hid ⟨R - T,by
        have := div_yes HD.out (by rw [hT.out]; exact HC.out)
        rw [hT.out,hP2.out] at this
        exact this,n5,(((NY.out.kept B3.out).kept B4.out).kept b5),by
        have h6 := BR.out.trans (B3.out.mono BR.out.size)
        have h7 := h6.trans (B4.out.mono h6.size)
        exact h7.trans (b5.mono h7.size)⟩
       clear n5 b5 B3 B4 BR NR NY NT HD HC
       go_wp2_with fail
       exact ⟨⟨i,q + P,(i : Int) - 1,rfl,rfl,by omega,by omega,Lib.hid rfl,H1⟩,by simp [intOf] <;> omega⟩
      ·have hc' : decide ((0 : Int) ≤ cmpN R T) = false := by
        unfold cmpN
        rw [if_pos (by omega)]
        rfl
       have hc'' : cmpN R T < 0 := by
        unfold cmpN
        rw [if_pos (by omega)]
        omega
       obtain ⟨cm,hcm⟩ : ∃ c,Hid (cmpN R T = c) := ⟨_,Lib.hid rfl⟩
       rw [hcm.out] at hc' hc'' ⊢
       have H1 : Hid (DivR X Y w w4 u8 u9 i q) := Lib.hid ⟨R,div_no HD.out (by rw [hT.out]; omega),((NR.out.kept B3.out).kept B4.out),((NY.out.kept B3.out).kept B4.out),by
        have h6 := BR.out.trans (B3.out.mono BR.out.size)
        exact h6.trans (B4.out.mono h6.size)⟩
       clear B3 B4 BR NR NY NT HD hc
       go_wp2_with fail
       exact ⟨⟨i,q,(i : Int) - 1,rfl,rfl,by omega,by omega,Lib.hid rfl,H1⟩,by simp [intOf] <;> omega⟩
     ·have hz' : decide ((0 : Int) ≤ z) = false := by simp; omega
      have hz'' : z < 0 := by omega
      have hj : j = 0 := by have := HZ.out; omega
      subst hj
      clear hz HZ
      go_wp2_with fail
      go_meet
      exact ⟨q,rfl,H0⟩
   case rest =>
    clear H0
    obtain ⟨q,rfl,H0⟩ := hcut
    obtain ⟨R,hD,nR,nY,bR⟩ := H0.out
    obtain ⟨eq,eR⟩ := div_end hD
    rw [hQr.out] at eq
    subst eq
    have fR : Hid (R < BB ^ 400) := Lib.hid (bb_up (Nat.lt_of_le_of_lt (div_le hD hYp.out).2 fX.out))
    have f2R : Hid (2 * R < BB ^ 400) := Lib.hid (fit_two (Nat.lt_of_le_of_lt (div_le hD hYp.out).2 fX.out))
    have hM := times_num _ R 2 fR.out (by decide) _ nR
    have NY := Lib.hid nY
    have BR := Lib.hid bR
    rw [← eR] at hHr
    clear H0 hD nR nY bR eR
    go_wp2_with fail
    refine hM.mono ?_
    rintro e w3 ⟨v3,rfl,n3,b3⟩
    have hC := compare_any _ _ (2 * R) Y f2R.out (bb_up fY.out) _ n3 (NY.out.kept b3)
    rw [hHr.out] at hC
    have B3 := Lib.hid b3
    clear b3 n3 hM
    go_wp2_with fail
    refine hC.mono ?_
    rintro e w4 ⟨rfl,n4,rfl⟩
    go_wp2_with fail
    go_ret2
    exact ⟨rfl,below_drewN (BR.out.trans (B3.out.mono BR.out.size)) _⟩
end Go.Proofs.YtalaajniammggaaGreatDoor
