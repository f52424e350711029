/- What reads back as floats lies in the floats' order. -/
import Derived.Test.YtalaajniammggaaGreatDoorXPd
namespace Go.Proofs.YtalaajniammggaaGreatDoor
theorem V_next (r : Nat) : V (r + 1) = V r + 2 ^ expOf r := by
 obtain ⟨a,b,c⟩ := rung_pack r
 have h : r + 1 = expOf r * 2 ^ 52 + (magOf r + 1) := by omega
 rw [h,V_pack _ _ (by omega) (by omega)]
 unfold V
 rw [Nat.add_mul,Nat.one_mul]
theorem low_above {y : Nat} (h : 1 ≤ y) (hy : y < INF) : 4 * V (y - 1) < cl (magOf y) (skewOf (magOf y) ((expOf y : Int) - 1074)) * 2 ^ expOf y := by
 obtain ⟨a,b,c⟩ := rung_pack y
 obtain ⟨m1,m2,_,_⟩ := mag_facts h hy
 have e52 : (2 : Nat) ^ 52 = 4503599627370496 := by decide
 have e53 : (2 : Nat) ^ 53 = 9007199254740992 := by decide
 have hp := two_pos (expOf y)
 by_cases hk : magOf y = 4503599627370496 ∧ 0 < expOf y
 ·have hs : skewOf (magOf y) ((expOf y : Int) - 1074) = true := by
   unfold skewOf
   simp [hk.1]
   omega
  obtain ⟨e,he⟩ : ∃ e,expOf y = e + 1 := ⟨expOf y - 1,by omega⟩
  have hy1 : y - 1 = e * 2 ^ 52 + (2 ^ 53 - 1) := by rw [he] at a; omega
  rw [hs,hy1,V_pack _ _ (by omega) (by omega),he,hk.1]
  unfold cl
  show 4 * ((2 ^ 53 - 1) * 2 ^ e) < (4 * 4503599627370496 - 1) * 2 ^ (e + 1)
  rw [e53,show 2 ^ (e + 1) = 2 ^ e * 2 from Nat.pow_succ ..]
  have := two_pos e
  omega
 ·have hy1 : y - 1 = expOf y * 2 ^ 52 + (magOf y - 1) := by omega
  rw [hy1,V_pack _ _ (by omega) (by omega)]
  have h2 : 4 * magOf y - 2 ≤ cl (magOf y) (skewOf (magOf y) ((expOf y : Int) - 1074)) := by
   unfold cl
   cases skewOf (magOf y) ((expOf y : Int) - 1074)
   ·exact Nat.le_refl _
   ·show _ ≤ 4 * magOf y - 1; omega
  have h3 := Nat.mul_le_mul_right (2 ^ expOf y) h2
  have h4 : 4 * ((magOf y - 1) * 2 ^ expOf y) + 2 * 2 ^ expOf y = (4 * magOf y - 2) * 2 ^ expOf y := by
   rw [← Nat.mul_assoc,← Nat.add_mul]; congr 1; omega
  omega
theorem cl_below (y : Nat) (h : 1 ≤ magOf y) : cl (magOf y) (skewOf (magOf y) ((expOf y : Int) - 1074)) * 2 ^ expOf y < 4 * V y := by
 have h2 : cl (magOf y) (skewOf (magOf y) ((expOf y : Int) - 1074)) < 4 * magOf y := by
  unfold cl
  cases skewOf (magOf y) ((expOf y : Int) - 1074)
  ·show 4 * magOf y - 2 < _; omega
  ·show 4 * magOf y - 1 < _; omega
 unfold V
 rw [← Nat.mul_assoc]
 exact Nat.mul_lt_mul_of_pos_right h2 (two_pos _)
theorem up_below (x : Nat) : 4 * V x < (4 * magOf x + 2) * 2 ^ expOf x ∧ (4 * magOf x + 2) * 2 ^ expOf x < 4 * V (x + 1) := by
 have hp := two_pos (expOf x)
 rw [V_next]
 have e : (4 * magOf x + 2) * 2 ^ expOf x = 4 * V x + 2 * 2 ^ expOf x := by
  unfold V
  rw [Nat.add_mul,Nat.mul_assoc]
 omega
theorem le2_one (a b e : Nat) (q : Int) : (le2 a ((e : Int) - 1074) b q ↔ a * 2 ^ e * 10 ^ (-q).toNat ≤ b * 10 ^ q.toNat * 2 ^ unit) ∧ (lt2 a ((e : Int) - 1074) b q ↔ a * 2 ^ e * 10 ^ (-q).toNat < b * 10 ^ q.toNat * 2 ^ unit) ∧ (ge2 a ((e : Int) - 1074) b q ↔ b * 10 ^ q.toNat * 2 ^ unit ≤ a * 2 ^ e * 10 ^ (-q).toNat) ∧ (gt2 a ((e : Int) - 1074) b q ↔ b * 10 ^ q.toNat * 2 ^ unit < a * 2 ^ e * 10 ^ (-q).toNat) := by
 obtain ⟨t,ht⟩ : ∃ t,(-((e : Int) - 1074)).toNat + t = 1074 := ⟨1074 - (-((e : Int) - 1074)).toNat,by omega⟩
 have ek : e = ((e : Int) - 1074).toNat + t := by omega
 have hu : unit = (-((e : Int) - 1074)).toNat + t := by unfold unit; omega
 have h1 : a * 2 ^ ((e : Int) - 1074).toNat * 10 ^ (-q).toNat * 2 ^ t = a * 2 ^ e * 10 ^ (-q).toNat * 1 := by
  have : 2 ^ e = 2 ^ ((e : Int) - 1074).toNat * 2 ^ t := by rw [← Nat.pow_add,← ek]
  rw [this]; generalize 2 ^ ((e : Int) - 1074).toNat = A; generalize 2 ^ t = B; generalize 10 ^ (-q).toNat = C; grind
 have h2 : b * 10 ^ q.toNat * 2 ^ (-((e : Int) - 1074)).toNat * 2 ^ t = b * 10 ^ q.toNat * 2 ^ unit * 1 := by
  rw [hu,Nat.pow_add]; generalize 2 ^ (-((e : Int) - 1074)).toNat = A; generalize 2 ^ t = B; generalize 10 ^ q.toNat = C; grind
 unfold le2 lt2 ge2 gt2
 exact ⟨cross_le (by decide) (two_pos t) h1 h2,cross_lt (by decide) (two_pos t) h1 h2,cross_le (by decide) (two_pos t) h2 h1,cross_lt (by decide) (two_pos t) h2 h1⟩
theorem reads_ends {m : Nat} {k : Int} {c : Nat} {s : Int} (h : Reads m k (skewOf m k) c s) : le2 (cl m (skewOf m k)) k (4 * c) s ∧ ge2 (4 * m + 2) k (4 * c) s := by
 unfold Reads at h
 split at h
 ·exact h
 ·exact ⟨Nat.le_of_lt h.1,Nat.le_of_lt h.2⟩
theorem not_below {x y : Nat} (hx : 1 ≤ x) (hxy : x < y) (hy : y < INF) {c : Nat} {s : Int} (h : Reads (magOf y) ((expOf y : Int) - 1074) (skewOf (magOf y) ((expOf y : Int) - 1074)) c s) : sideN (magOf x) ((expOf x : Int) - 1074) c s ≠ -1 := by
 intro hs
 have h1 := (side_low _ _ _ _).1 hs
 obtain ⟨g1,_⟩ := reads_ends h
 rw [(le2_one _ _ _ _).1] at g1
 obtain ⟨m1,_⟩ := mag_facts hx (by omega)
 have a1 := cl_below x m1
 have a2 := low_above (y := y) (by omega) hy
 have a3 := V_le x (y - 1) (by omega)
 have a4 : cl (magOf x) (skewOf (magOf x) ((expOf x : Int) - 1074)) * 2 ^ expOf x < cl (magOf y) (skewOf (magOf y) ((expOf y : Int) - 1074)) * 2 ^ expOf y := by omega
 have a5 := Nat.mul_lt_mul_of_pos_right a4 (ten_pos (-s).toNat)
 have a6 := Nat.lt_of_lt_of_le a5 g1
 apply h1
 split
 ·exact (le2_one _ _ _ _).1.2 (Nat.le_of_lt a6)
 ·exact (le2_one _ _ _ _).2.1.2 a6
theorem not_above {x y : Nat} (hxy : x < y) {c : Nat} {s : Int} (h : Reads (magOf x) ((expOf x : Int) - 1074) (skewOf (magOf x) ((expOf x : Int) - 1074)) c s) : sideN (magOf y) ((expOf y : Int) - 1074) c s ≠ 1 := by
 intro hs
 have h1 := ((side_high _ _ _ _).1 hs).2
 obtain ⟨_,g1⟩ := reads_ends h
 rw [(le2_one _ _ _ _).2.2.1] at g1
 have a1 := (up_below x).2
 have a2 := (up_below y).1
 have a3 := V_le (x + 1) y (by omega)
 have a4 : (4 * magOf x + 2) * 2 ^ expOf x < (4 * magOf y + 2) * 2 ^ expOf y := by omega
 have a5 := Nat.mul_lt_mul_of_pos_right a4 (ten_pos (-s).toNat)
 have a6 := Nat.lt_of_le_of_lt g1 a5
 apply h1
 split
 ·exact (le2_one _ _ _ _).2.2.1.2 (Nat.le_of_lt a6)
 ·exact (le2_one _ _ _ _).2.2.2.2 a6
theorem reads_one {x y : Nat} (hx : 1 ≤ x) (fx : x < INF) (hy : 1 ≤ y) (fy : y < INF) {c : Nat} {s : Int} (c1 : 1 ≤ c) (c2 : c < 100000000000000000) (s1 : -345 ≤ s) (s2 : s ≤ 310) (h1 : Reads (magOf x) ((expOf x : Int) - 1074) (skewOf (magOf x) ((expOf x : Int) - 1074)) c s) (h2 : Reads (magOf y) ((expOf y : Int) - 1074) (skewOf (magOf y) ((expOf y : Int) - 1074)) c s) : x = y := by
 obtain ⟨i,hi⟩ : ∃ i : Nat,s = (i : Int) - 348 := ⟨(s + 348).toNat,by omega⟩
 rw [hi] at h1 h2
 have a := parse_right (flo_of (by omega) fx) c1 c2 (by omega) h1
 have b := parse_right (flo_of (by omega) fy) c1 c2 (by omega) h2
 have key : magOf x = magOf y ∧ ((expOf x : Int) - 1074) = ((expOf y : Int) - 1074) := by
  rcases a.2.2 with ⟨a1,a2,a3⟩ | ⟨a1,a2,a3⟩ <;> rcases b.2.2 with ⟨b1,b2,b3⟩ | ⟨b1,b2,b3⟩
  ·exact ⟨by rw [← a2,← b2],by omega⟩
  ·omega
  ·omega
  ·exact ⟨by rw [← a2,← b2],by omega⟩
 rw [(rung_pack x).1,(rung_pack y).1,key.1,show expOf x = expOf y by have := key.2; omega]
end Go.Proofs.YtalaajniammggaaGreatDoor

/- The document's side: nearest. -/
namespace Go.Proofs.YtalaajniammggaaGreatDoor
open Go.RowKit
def Rds (x c : Nat) (s : Int) : Prop := 1 ≤ x ∧ x < INF ∧ Reads (magOf x) ((expOf x : Int) - 1074) (skewOf (magOf x) ((expOf x : Int) - 1074)) c s
def Only (c : Nat) (s : Int) (r : Nat) : Prop := c < 100000000000000000 → -345 ≤ s → s ≤ 310 → ∀ x,Rds x c s → r = x
def Within (c : Nat) (s : Int) (lo hi : Nat) : Prop := c < 100000000000000000 → -345 ≤ s → s ≤ 310 → ∀ x,Rds x c s → lo ≤ x ∧ x ≤ hi
set_option maxRecDepth 100000 in
set_option maxHeartbeats 2000000 in
theorem nearest_any (c : Nat) (s : Int) (hc1 : 1 ≤ c) (hc : c < 18446744073709551616) (s1 : -1100 ≤ s) (s2 : s ≤ 1100) (w : World) :
  Calls Tryz.prog 75 #[.int .u64 c,.int .i64 s] w fun e w' => ∃ r : Nat,e = .returned (.int .u64 r) ∧ r < INF ∧ Only c s r ∧ Below w.heap.size w w' := by
 have hI : INF = 9218868437227405312 := rfl
 have hSide := fun r a b W => Side_any r c s a b hc s1 s2 W
 have W0 : Hid (Within c s 1 9218868437227405311) := Lib.hid (fun _ _ _ x hx => ⟨hx.1,by have := hx.2.1; omega⟩)
 go_enter Tryz.func75,Tryz.ntmps75
 go_upto_block 0 with fail
 go_cut [5,6,7,8] from 9 to 29 (fun s5 _ _ _ wy => ∃ lo : Nat,s5 = .int .u64 lo ∧ 1 ≤ lo ∧ lo < 9218868437227405312 ∧ Hid (Within c s lo lo ∧ Below w.heap.size w wy))
 case first =>
  go_wp2_with fail
  go_loopw [5,6,7,8] (fun s5 s6 _ _ wr => ∃ lo hi : Nat,s5 = .int .u64 lo ∧ s6 = .int .u64 hi ∧ 1 ≤ lo ∧ lo ≤ hi ∧ hi ≤ 9218868437227405311 ∧ Hid (Within c s lo hi ∧ Below w.heap.size w wr)) (fun s5 s6 _ _ _ => (intOf s6 - intOf s5).toNat)
  case atStart => exact ⟨1,9218868437227405311,rfl,rfl,by omega,by omega,by omega,Lib.hid ⟨W0.out,Below.refl _ _⟩⟩
  case round =>
   clear W0
   obtain ⟨lo,hi,rfl,rfl,l1,l2,l3,HW⟩ := hrel
   by_cases hlt : lo < hi
   ·have hlt' : (lo : Int) < (hi : Int) := by omega
    obtain ⟨g,hg⟩ : ∃ g,Hid ((hi - lo) / 2 = g) := ⟨_,Lib.hid rfl⟩
    have eg : ((hi : Int) - (lo : Int)) / 2 = (g : Int) := by have := hg.out; omega
    obtain ⟨m,hm⟩ : ∃ m,Hid (lo + g = m) := ⟨_,Lib.hid rfl⟩
    have em : (lo : Int) + (g : Int) = (m : Int) := by have := hm.out; omega
    have mb : lo ≤ m ∧ m < hi := by have := hm.out; have := hg.out; omega
    obtain ⟨mb1,mb2⟩ := mb
    have m1 : 1 ≤ m := by omega
    have mI : m < INF := by omega
    have hS := hSide m m1 mI wr
    have hi3 := side_is (magOf m) ((expOf m : Int) - 1074) c s
    have O0 : Hid (sideN (magOf m) ((expOf m : Int) - 1074) c s = 0 → Only c s m) := Lib.hid (fun h0 c2 a1 a2 x hx => reads_one m1 mI hx.1 hx.2.1 hc1 c2 a1 a2 ((side_zero _ _ _ _).1 h0) hx.2.2)
    have O1 : Hid (sideN (magOf m) ((expOf m : Int) - 1074) c s = -1 → Within c s lo m) := Lib.hid (fun h0 c2 a1 a2 x hx => ⟨(HW.out.1 c2 a1 a2 x hx).1,by
     rcases Nat.lt_or_ge m x with hcx | hcx
     ·exact absurd h0 (not_below m1 hcx hx.2.1 hx.2.2)
     ·exact hcx⟩)
    have O2 : Hid (sideN (magOf m) ((expOf m : Int) - 1074) c s = 1 → Within c s (m + 1) hi) := Lib.hid (fun h0 c2 a1 a2 x hx => ⟨by
     rcases Nat.lt_trichotomy x m with hcx | hcx | hcx
     ·exact absurd h0 (not_above hcx hx.2.2)
     ·exfalso
      subst hcx
      have := (side_zero _ _ _ _).2 hx.2.2
      omega
     ·omega,(HW.out.1 c2 a1 a2 x hx).2⟩)
    obtain ⟨a,ha⟩ : ∃ a,Hid (sideN (magOf m) ((expOf m : Int) - 1074) c s = a) := ⟨_,Lib.hid rfl⟩
    rw [ha.out] at hS hi3 O0 O1 O2
    have BW := Lib.hid HW.out.2
    clear ha hSide hg hm HW
    go_wp2_with fail
    refine hS.mono ?_
    rintro e w3 ⟨rfl,b3⟩
    have B3 := Lib.hid (BW.out.trans (b3.mono BW.out.size))
    clear b3 hS BW
    rcases hi3 with rfl | rfl | rfl
    ·have HW' : Hid (Within c s lo m ∧ Below w.heap.size w w3) := Lib.hid ⟨O1.out rfl,B3.out⟩
     clear O0 O1 O2 B3
     go_wp2_with fail
     exact ⟨⟨lo,m,rfl,rfl,l1,mb1,by omega,HW'⟩,by simp [intOf] <;> omega⟩
    ·have HO := Lib.hid (O0.out rfl)
     clear O0 O1 O2
     go_wp2_with fail
     go_ret
     exact ⟨m,rfl,mI,HO.out,B3.out⟩
    ·have HW' : Hid (Within c s (m + 1) hi ∧ Below w.heap.size w w3) := Lib.hid ⟨O2.out rfl,B3.out⟩
     clear O0 O1 O2 B3
     go_wp2_with fail
     exact ⟨⟨m + 1,hi,rfl,rfl,by omega,by omega,by omega,HW'⟩,by simp [intOf] <;> omega⟩
   ·have hlt' : decide ((lo : Int) < (hi : Int)) = false := by simp; omega
    have hlt'' : (hi : Int) ≤ (lo : Int) := by omega
    have e : hi = lo := by omega
    subst e
    clear hlt
    go_wp2_with fail
    go_meet
    exact ⟨hi,rfl,l1,by omega,HW⟩
 case rest =>
  clear W0
  obtain ⟨lo,rfl,l1,l2,HW⟩ := hcut
  have lI : lo < INF := by omega
  have hS := hSide lo l1 lI wc
  have hi3 := side_is (magOf lo) ((expOf lo : Int) - 1074) c s
  have O0 : Hid (sideN (magOf lo) ((expOf lo : Int) - 1074) c s = 0 → Only c s lo) := Lib.hid (fun h0 c2 a1 a2 x hx => reads_one l1 lI hx.1 hx.2.1 hc1 c2 a1 a2 ((side_zero _ _ _ _).1 h0) hx.2.2)
  have O1 : Hid (sideN (magOf lo) ((expOf lo : Int) - 1074) c s ≠ 0 → Only c s 0) := Lib.hid (fun h0 c2 a1 a2 x hx => by
   exfalso
   have := HW.out.1 c2 a1 a2 x hx
   obtain rfl : x = lo := by omega
   exact h0 ((side_zero _ _ _ _).2 hx.2.2))
  obtain ⟨a,ha⟩ : ∃ a,Hid (sideN (magOf lo) ((expOf lo : Int) - 1074) c s = a) := ⟨_,Lib.hid rfl⟩
  rw [ha.out] at hS hi3 O0 O1
  have BW := Lib.hid HW.out.2
  clear ha hSide HW
  go_wp2_with fail
  refine hS.mono ?_
  rintro e w3 ⟨rfl,b3⟩
  have B3 := Lib.hid (BW.out.trans (b3.mono BW.out.size))
  clear b3 hS BW
  rcases hi3 with rfl | rfl | rfl
  ·have HO := Lib.hid (O1.out (by omega))
   clear O0 O1
   go_wp2_with fail
   go_ret
   exact ⟨0,rfl,by omega,HO.out,B3.out⟩
  ·have HO := Lib.hid (O0.out rfl)
   clear O0 O1
   go_wp2_with fail
   go_ret
   exact ⟨lo,rfl,lI,HO.out,B3.out⟩
  ·have HO := Lib.hid (O1.out (by omega))
   clear O0 O1
   go_wp2_with fail
   go_ret
   exact ⟨0,rfl,by omega,HO.out,B3.out⟩
end Go.Proofs.YtalaajniammggaaGreatDoor

/- The document's side: value, as plain functions. -/
namespace Go.Proofs.YtalaajniammggaaGreatDoor
open Go.RowKit
def v2 : List UInt8 → Nat → Option Nat
 | [],e => some e
 | c :: l,e => if c.toNat < 48 ∨ 57 < c.toNat then none else v2 l (10 * e + (c.toNat - 48))
def v3 (c : Nat) (s : Int) (mi : Bool) (L : List UInt8) (k : Nat) : Option (Nat × Int) :=
 if L.length ≤ k ∨ 3 < L.length - k ∨ c = 0 then none else (v2 (L.drop k) 0).map fun e => (c,s + (if mi then -(e : Int) else (e : Int)))
def vE (c : Nat) (s : Int) (L : List UInt8) (i : Nat) : Option (Nat × Int) :=
 match L.drop i with
 | [] => v3 c s false L i
 | ch :: _ => if ch.toNat = 45 then v3 c s true L (i + 1) else v3 c s false L i
def v1 (L : List UInt8) : List UInt8 → Nat → Nat → Int → Option (Nat × Int)
 | [],i,c,s => vE c s L (i + 1)
 | ch :: l,i,c,s =>
  if ch.toNat = 101 then vE c s L (i + 1)
  else if i = 1 ∧ ch.toNat = 46 then v1 L l (i + 1) c s
  else if ch.toNat < 48 ∨ 57 < ch.toNat ∨ 18 < i then none
  else v1 L l (i + 1) (10 * c + (ch.toNat - 48)) (if 1 < i then s - 1 else s)
theorem v2_digits : ∀ (l : List UInt8) (e : Nat),(∀ c,c ∈ l → IsDig c) → v2 l e = some (vD e l)
 | [],e,_ => rfl
 | c :: l,e,h => by
  obtain ⟨h1,h2⟩ := h c (by simp)
  rw [v2,if_neg (by omega),v2_digits l _ (fun d hd => h d (by simp [hd])),vD_cons,Nat.mul_comm 10]
theorem v1_digits (L rest : List UInt8) : ∀ (ds : List UInt8) (i c : Nat) (s : Int),(∀ d,d ∈ ds → IsDig d) → 2 ≤ i → i + ds.length ≤ 19 →
  v1 L (ds ++ rest) i c s = v1 L rest (i + ds.length) (vD c ds) (s - ds.length)
 | [],i,c,s,_,_,_ => by simp [vD]
 | d :: ds,i,c,s,h,h2,h19 => by
  obtain ⟨a1,a2⟩ := h d (by simp)
  simp only [List.length_cons] at h19
  rw [List.cons_append,v1,if_neg (by omega),if_neg (by omega),if_neg (by omega),if_pos (by omega),v1_digits L rest ds (i + 1) _ _ (fun e he => h e (by simp [he])) (by omega) (by omega),vD_cons,Nat.mul_comm 10,List.length_cons]
  rw [show i + 1 + ds.length = i + (ds.length + 1) by omega,show s - 1 - (ds.length : Int) = s - ((ds.length + 1 : Nat) : Int) by push_cast; omega]
theorem vE_ex (P : List UInt8) (c : Nat) (s : Int) (hc : c ≠ 0) (mi : Bool) (d : UInt8) (xs : List UInt8) (hd : ∀ e,e ∈ d :: xs → IsDig e) (hl : (d :: xs).length ≤ 3) : vE c s (P ++ exL mi (d :: xs)) P.length = some (c,s + (if mi then -(vD 0 (d :: xs) : Int) else (vD 0 (d :: xs) : Int))) := by
 obtain ⟨h1,h2⟩ := hd d (by simp)
 have hlen : (d :: xs).length = xs.length + 1 := rfl
 cases mi with
 | true =>
  have e1 : (P ++ exL true (d :: xs)).drop P.length = 45 :: d :: xs := by rw [List.drop_left]; rfl
  have e2 : (P ++ exL true (d :: xs)).drop (P.length + 1) = d :: xs := by rw [← List.drop_drop,e1]; rfl
  have e3 : (P ++ exL true (d :: xs)).length = P.length + 1 + (xs.length + 1) := by simp [exL]; omega
  unfold vE
  rw [e1]
  simp only
  rw [if_pos (by decide)]
  unfold v3
  rw [e3,if_neg (by omega),e2,v2_digits _ _ hd]
  rfl
 | false =>
  have e1 : (P ++ exL false (d :: xs)).drop P.length = d :: xs := by rw [List.drop_left]; rfl
  have e3 : (P ++ exL false (d :: xs)).length = P.length + (xs.length + 1) := by simp [exL]
  unfold vE
  rw [e1]
  simp only
  rw [if_neg (by omega)]
  unfold v3
  rw [e3,if_neg (by omega),e1,v2_digits _ _ hd]
  rfl
theorem v1_txt (d : UInt8) (hd : IsDig d) (ds : List UInt8) (hds : ∀ c,c ∈ ds → IsDig c) (hl : ds.length ≤ 16) (hc : vD 0 (d :: ds) ≠ 0) (mi : Bool) (c : UInt8) (xs : List UInt8) (hx : ∀ e,e ∈ c :: xs → IsDig e) (hxl : (c :: xs).length ≤ 3) (L : List UInt8) (hL : L = d :: ((if ds = [] then [] else 46 :: ds) ++ 101 :: exL mi (c :: xs))) :
  v1 L L 0 0 0 = some (vD 0 (d :: ds),-(ds.length : Int) + (if mi then -(vD 0 (c :: xs) : Int) else (vD 0 (c :: xs) : Int))) := by
 obtain ⟨a1,a2⟩ := hd
 have ev : vD 0 [d] = 10 * 0 + (d.toNat - 48) := by rw [vD_cons]; show 0 * 10 + _ = _; omega
 by_cases hn : ds = []
 ·subst hn
  rw [if_pos rfl,List.nil_append] at hL
  have e0 : L = (d :: [101]) ++ exL mi (c :: xs) := by rw [hL]; rfl
  have h1 : v1 L (d :: 101 :: exL mi (c :: xs)) 0 0 0 = v1 L (101 :: exL mi (c :: xs)) 1 (10 * 0 + (d.toNat - 48)) 0 := by
   rw [v1,if_neg (by omega),if_neg (by omega),if_neg (by omega),if_neg (by omega)]
  have h2 : v1 L (101 :: exL mi (c :: xs)) 1 (10 * 0 + (d.toNat - 48)) 0 = vE (10 * 0 + (d.toNat - 48)) 0 L 2 := by
   rw [v1,if_pos (by decide)]
  have h3 : v1 L L 0 0 0 = vE (10 * 0 + (d.toNat - 48)) 0 L 2 := by
   rw [← h2,← h1,← hL]
  rw [ev] at hc ⊢
  rw [h3,e0]
  exact vE_ex [d,101] _ 0 hc mi c xs hx hxl
 ·rw [if_neg hn,List.cons_append] at hL
  have e0 : L = (d :: 46 :: (ds ++ [101])) ++ exL mi (c :: xs) := by rw [hL]; simp
  have h1 : v1 L (d :: 46 :: (ds ++ 101 :: exL mi (c :: xs))) 0 0 0 = v1 L (46 :: (ds ++ 101 :: exL mi (c :: xs))) 1 (10 * 0 + (d.toNat - 48)) 0 := by
   rw [v1,if_neg (by omega),if_neg (by omega),if_neg (by omega),if_neg (by omega)]
  have h2 : v1 L (46 :: (ds ++ 101 :: exL mi (c :: xs))) 1 (10 * 0 + (d.toNat - 48)) 0 = v1 L (ds ++ 101 :: exL mi (c :: xs)) 2 (10 * 0 + (d.toNat - 48)) 0 := by
   rw [v1,if_neg (by decide),if_pos (by decide)]
  have h3 := v1_digits L (101 :: exL mi (c :: xs)) ds 2 (10 * 0 + (d.toNat - 48)) 0 hds (by omega) (by omega)
  have h4 : v1 L (101 :: exL mi (c :: xs)) (2 + ds.length) (vD (10 * 0 + (d.toNat - 48)) ds) (0 - ds.length) = vE (vD (10 * 0 + (d.toNat - 48)) ds) (0 - ds.length) L (2 + ds.length + 1) := by
   rw [v1,if_pos (by decide)]
  have h5 : v1 L L 0 0 0 = vE (vD (10 * 0 + (d.toNat - 48)) ds) (0 - ds.length) L (2 + ds.length + 1) := by
   rw [← h4,← h3,← h2,← h1,← hL]
  have e6 : vD 0 (d :: ds) = vD (10 * 0 + (d.toNat - 48)) ds := by rw [vD_cons,Nat.mul_comm]
  rw [e6] at hc ⊢
  rw [h5,e0,show 2 + ds.length + 1 = (d :: 46 :: (ds ++ [101])).length by simp; omega]
  rw [vE_ex _ _ _ hc mi c xs hx hxl]
  congr 2
  omega
theorem dec_short {n : Nat} (h : n < 1000) : (Lib.decDigits n).length ≤ 3 := by
 rw [Lib.decDigits_length]
 by_cases a : n < 10
 ·rw [Lib.nDigits_small a]; omega
 ·rw [Lib.nDigits_big a]
  by_cases b : n / 10 < 10
  ·rw [Lib.nDigits_small b]; omega
  ·rw [Lib.nDigits_big b,Lib.nDigits_small (by omega)]; omega
theorem v1_print {x : Nat} (h0 : rungOf x ≠ 0) (hf : rungOf x < INF) : v1 (txtL false (gF x) (nF x) (XF x)) (txtL false (gF x) (nF x) (XF x)) 0 0 0 = some (dF x,pF x) := by
 obtain ⟨b1,b2,b3,b4⟩ := parts_bounds hf
 obtain ⟨c,xs,e1,e2,e3⟩ := itoa_ex (XF x)
 have hd1 := (read_F h0 hf).2.1
 have hX : (if decide (XF x < 0) = true then -(vD 0 (c :: xs) : Int) else (vD 0 (c :: xs) : Int)) = XF x := by
  rw [e3]
  by_cases h : XF x < 0
  ·rw [if_pos (decide_eq_true h)]; omega
  ·rw [if_neg (by simpa using h)]; omega
 have hxl : (c :: xs).length ≤ 3 := by
  have h1 := dec_short (n := (XF x).natAbs) (by omega)
  unfold Lib.itoa exL at e1
  by_cases h : XF x < 0
  ·rw [if_pos h,decide_eq_true h] at e1
   simp at e1
   rw [e1] at h1
   exact h1
  ·rw [if_neg h,decide_eq_false h] at e1
   simp at e1
   rw [show (XF x).natAbs = (XF x).toNat by omega,e1] at h1
   exact h1
 have ed : dF x = vD 0 (gF x 0 :: moreD (gF x) (nF x)) := by unfold dF; rw [digL_more _ _ b1,valD_vD]
 have el : (moreD (gF x) (nF x)).length = nF x - 1 := by unfold moreD; simp
 have ei : (if moreD (gF x) (nF x) = [] then [] else 46 :: moreD (gF x) (nF x) : List UInt8) = (if 1 < nF x then 46 :: moreD (gF x) (nF x) else []) := by
  by_cases h : 1 < nF x
  ·rw [if_pos h,if_neg (fun e => by rw [e] at el; simp at el; omega)]
  ·rw [if_neg h,if_pos (List.eq_nil_of_length_eq_zero (by omega))]
 have et : txtL false (gF x) (nF x) (XF x) = gF x 0 :: ((if moreD (gF x) (nF x) = [] then [] else 46 :: moreD (gF x) (nF x)) ++ 101 :: exL (decide (XF x < 0)) (c :: xs)) := by
  rw [ei]
  unfold txtL prefL
  rw [e1]
  simp
 rw [v1_txt (gF x 0) (gF_isDig x 0) (moreD (gF x) (nF x)) (moreD_dig x _) (by omega) (by rw [← ed]; omega) (decide (XF x < 0)) c xs e2 hxl _ et,← ed,hX,el]
 congr 2
 unfold pF
 omega
end Go.Proofs.YtalaajniammggaaGreatDoor

/- The document's side: value's walk. -/
namespace Go.Proofs.YtalaajniammggaaGreatDoor
open Go.RowKit
def VOut (o : Option (Nat × Int)) (v : Value) : Prop :=
 match o with
 | none => v = .tuple #[.int .u64 (0 : Nat),.int .i64 0,.bool false]
 | some p => v = .tuple #[.int .u64 p.1,.int .i64 p.2,.bool true] ∧ 1 ≤ p.1 ∧ p.1 < 18446744073709551616 ∧ -1100 ≤ p.2 ∧ p.2 ≤ 1100
theorem pow19 {c i : Nat} (h : c < 10 ^ i) (hi : i ≤ 19) : c < 10000000000000000000 := by
 have h2 : 10 ^ i ≤ 10 ^ 19 := Nat.pow_le_pow_right (by decide) hi
 have e : (10 : Nat) ^ 19 = 10000000000000000000 := by decide
 omega
theorem ten_step {c i d : Nat} (h : c < 10 ^ i) (hd : d < 10) : 10 * c + d < 10 ^ (i + 1) := by
 rw [Nat.pow_succ]
 omega
set_option maxRecDepth 100000 in
set_option maxHeartbeats 4000000 in
theorem value_any (t : ByteArray) (ht : t.size ≤ 40) (w : World) :
  Calls Tryz.prog 74 #[.string t] w fun e w' => ∃ v,e = .returned v ∧ VOut (v1 t.data.toList t.data.toList 0 0 0) v ∧ w' = w := by
 obtain ⟨R,hR⟩ : ∃ R,Hid (v1 t.data.toList t.data.toList 0 0 0 = R) := ⟨_,Lib.hid rfl⟩
 rw [hR.out]
 have H0 : Hid (R = v1 t.data.toList (t.data.toList.drop 0) 0 0 0) := Lib.hid (by rw [List.drop_zero]; exact hR.out.symm)
 clear hR
 go_enter Tryz.func74,Tryz.ntmps74
 go_upto_block 0 with fail
 go_cut [5,6,7] from 10 to 57 (fun s5 s6 s7 wy => ∃ (c i : Nat) (s : Int),s5 = .int .u64 c ∧ s6 = .int .i64 s ∧ s7 = .int .i64 i ∧ c < 10000000000000000000 ∧ i ≤ 40 ∧ -40 ≤ s ∧ s ≤ 0 ∧ wy = w ∧ Hid (R = vE c s t.data.toList (i + 1)))
 case first =>
  go_wp2_with fail
  go_loopw [5,6,7] (fun s5 s6 s7 wr => ∃ (c i : Nat) (s : Int),s5 = .int .u64 c ∧ s6 = .int .i64 s ∧ s7 = .int .i64 i ∧ c < 10000000000000000000 ∧ i ≤ t.size ∧ -(i : Int) ≤ s ∧ s ≤ 0 ∧ wr = w ∧ Hid (R = v1 t.data.toList (t.data.toList.drop i) i c s ∧ i ≤ 19 ∧ c < 10 ^ i)) (fun _ _ s7 _ => t.size - (intOf s7).toNat)
  case atStart => exact ⟨0,0,0,rfl,rfl,rfl,by omega,by omega,by omega,by omega,rfl,Lib.hid ⟨H0.out,by omega,by simp⟩⟩
  case round =>
   clear H0
   obtain ⟨c,i,s,rfl,rfl,rfl,hc,hi,hs1,hs2,hwr,H0⟩ := hrel
   obtain rfl : w = wr := hwr.symm
   by_cases his : i < t.size
   ·have his' : (i : Int) < (t.size : Int) := by omega
    obtain ⟨ch,hch⟩ : ∃ c,t[i] = c := ⟨_,rfl⟩
    have c255 : ch.toNat < 256 := ch.toNat_lt
    have hdr := drop_in t i his
    rw [hch] at hdr
    have H1 : Hid (R = if ch.toNat = 101 then vE c s t.data.toList (i + 1) else if i = 1 ∧ ch.toNat = 46 then v1 t.data.toList (t.data.toList.drop (i + 1)) (i + 1) c s else if ch.toNat < 48 ∨ 57 < ch.toNat ∨ 18 < i then none else v1 t.data.toList (t.data.toList.drop (i + 1)) (i + 1) (10 * c + (ch.toNat - 48)) (if 1 < i then s - 1 else s)) := Lib.hid (by
     have := H0.out.1
     rw [hdr] at this
     exact this)
    have HB := Lib.hid H0.out.2
    clear hdr H0
    by_cases a1 : ch.toNat = 101
    ·have a1' : ((ch.toNat : Int) == 101) = true := by rw [beq_iff_eq]; omega
     have a1'' : ((ch.toNat : Int) != 101) = false := by simp; omega
     have H2 : Hid (R = vE c s t.data.toList (i + 1)) := Lib.hid (by rw [H1.out,if_pos a1])
     clear a1 H1
     go_wp2_with fail
     go_meet
     exact ⟨c,i,s,rfl,rfl,rfl,hc,by omega,by omega,hs2,by trivial,H2⟩
    ·have a1' : ((ch.toNat : Int) == 101) = false := by rw [beq_eq_false_iff_ne]; omega
     have a1'' : ((ch.toNat : Int) != 101) = true := by simp; omega
     rw [if_neg a1] at H1
     by_cases a2 : i = 1 ∧ ch.toNat = 46
     ·have b1 : ((i : Int) == 1) = true := by rw [beq_iff_eq]; omega
      have b2 : ((ch.toNat : Int) == 46) = true := by rw [beq_iff_eq]; omega
      have H2 : Hid (R = v1 t.data.toList (t.data.toList.drop (i + 1)) (i + 1) c s ∧ i + 1 ≤ 19 ∧ c < 10 ^ (i + 1)) := Lib.hid ⟨by rw [H1.out,if_pos a2],by omega,Nat.lt_of_lt_of_le HB.out.2 (Nat.pow_le_pow_right (by decide) (by omega))⟩
      have iLe : (i : Int) ≤ 1 := by omega
      clear a2 H1 HB
      go_wp2_with fail
      exact ⟨⟨c,i + 1,s,rfl,rfl,by simp,hc,his,by omega,hs2,by trivial,H2⟩,by simp [intOf] <;> omega⟩
     ·rw [if_neg a2] at H1
      go_upto_region 5 with fail
      go_cut [27] from 20 to 26 (fun s27 wy => s27 = .bool false ∧ wy = w)
      case first =>
       by_cases b1 : i = 1
       ·have b1' : ((i : Int) == 1) = true := by rw [beq_iff_eq]; omega
        have b2 : ((ch.toNat : Int) == 46) = false := by rw [beq_eq_false_iff_ne]; omega
        clear b1
        go_wp2_with fail
        go_meet
        exact ⟨rfl,by trivial⟩
       ·have b1' : ((i : Int) == 1) = false := by rw [beq_eq_false_iff_ne]; omega
        go_wp2_with fail
        go_meet
        exact ⟨rfl,by trivial⟩
      case rest =>
       obtain ⟨rfl,hwc⟩ := hcut
       obtain rfl : w = wc := hwc.symm
       clear a2
       go_upto_region 7 with fail
       go_cut [43] from 30 to 42 (fun s43 wy => ∃ b : Bool,s43 = .bool b ∧ wy = w ∧ Hid (b = true ↔ ch.toNat < 48 ∨ 57 < ch.toNat ∨ 18 < i))
       case first =>
        by_cases d1 : ch.toNat < 48
        ·have d1' : (ch.toNat : Int) < 48 := by omega
         go_wp2_with fail
         go_meet
         exact ⟨true,rfl,by trivial,Lib.hid ⟨fun _ => .inl d1,fun _ => rfl⟩⟩
        ·have d1' : decide ((ch.toNat : Int) < 48) = false := by simp; omega
         have d1'' : (48 : Int) ≤ (ch.toNat : Int) := by omega
         by_cases d2 : 57 < ch.toNat
         ·have d2' : (57 : Int) < (ch.toNat : Int) := by omega
          go_wp2_with fail
          go_meet
          exact ⟨true,rfl,by trivial,Lib.hid ⟨fun _ => .inr (.inl d2),fun _ => rfl⟩⟩
         ·have d2' : decide ((57 : Int) < (ch.toNat : Int)) = false := by simp; omega
          have d2'' : (ch.toNat : Int) ≤ 57 := by omega
          by_cases d3 : 18 < i
          ·have d3' : (18 : Int) < (i : Int) := by omega
           go_wp2_with fail
           go_meet
           exact ⟨true,rfl,by trivial,Lib.hid ⟨fun _ => .inr (.inr d3),fun _ => rfl⟩⟩
          ·have d3' : decide ((18 : Int) < (i : Int)) = false := by simp; omega
           have d3'' : (i : Int) ≤ 18 := by omega
           go_wp2_with fail
           go_meet
           exact ⟨false,rfl,by trivial,Lib.hid ⟨fun h => absurd h (by decide),fun h => by omega⟩⟩
       case rest =>
        obtain ⟨b,rfl,hwc,HC⟩ := hcut
        obtain rfl : w = wc := hwc.symm
        cases b with
        | true =>
         have HN : Hid (R = none) := Lib.hid (by rw [H1.out,if_pos (HC.out.1 rfl)])
         clear H1 HC HB
         go_wp2_with fail
         go_ret3
         exact ⟨_,rfl,by rw [HN.out]; rfl,by trivial⟩
        | false =>
         have hcn : ¬ (ch.toNat < 48 ∨ 57 < ch.toNat ∨ 18 < i) := fun h => absurd (HC.out.2 h) (by decide)
         rw [if_neg hcn] at H1
         have d1 : (48 : Int) ≤ (ch.toNat : Int) := by omega
         have d2 : (ch.toNat : Int) ≤ 57 := by omega
         have d3 : i ≤ 18 := by omega
         obtain ⟨c2,hc2⟩ : ∃ c2,Hid (10 * c + (ch.toNat - 48) = c2) := ⟨_,Lib.hid rfl⟩
         have HB2 : Hid (i + 1 ≤ 19 ∧ c2 < 10 ^ (i + 1)) := Lib.hid ⟨by omega,by rw [← hc2.out]; exact ten_step HB.out.2 (by omega)⟩
         have c2b : c2 < 10000000000000000000 := pow19 HB2.out.2 HB2.out.1
         rw [hc2.out] at H1
         have cb : 10 * c < 18446744073709551616 := by have := hc2.out; omega
         have ec2 : 10 * (c : Int) + ((ch.toNat : Int) - 48) = (c2 : Int) := by have := hc2.out; omega
         clear HC hcn hc2 HB
         go_upto_if 53 with fail
         go_cut [6,53] from 54 to 55 (fun s6 _ wy => ∃ s2 : Int,s6 = .int .i64 s2 ∧ -(i : Int) - 1 ≤ s2 ∧ s2 ≤ 0 ∧ wy = w ∧ Hid ((if 1 < i then s - 1 else s) = s2))
         case first =>
          by_cases d4 : 1 < i
          ·have d4' : (1 : Int) < (i : Int) := by omega
           go_wp2_with fail
           go_meet
           exact ⟨s - 1,rfl,by omega,by omega,by trivial,Lib.hid (if_pos d4)⟩
          ·have d4' : decide ((1 : Int) < (i : Int)) = false := by simp; omega
           have d4'' : (i : Int) ≤ 1 := by omega
           go_wp2_with fail
           go_meet
           exact ⟨s,rfl,by omega,by omega,by trivial,Lib.hid (if_neg d4)⟩
         case rest =>
          obtain ⟨s2,rfl,e1,e2,hwc,HS⟩ := hcut
          obtain rfl : w = wc := hwc.symm
          rw [HS.out] at H1
          have H2 : Hid (R = v1 t.data.toList (t.data.toList.drop (i + 1)) (i + 1) c2 s2 ∧ i + 1 ≤ 19 ∧ c2 < 10 ^ (i + 1)) := Lib.hid ⟨H1.out,HB2.out.1,HB2.out.2⟩
          clear H1 HS HB2 ec2 cb
          go_wp2_with fail
          exact ⟨⟨c2,i + 1,s2,rfl,rfl,rfl,c2b,his,by push_cast; omega,e2,by trivial,H2⟩,by simp [intOf] <;> omega⟩
   ·have his' : decide ((i : Int) < (t.size : Int)) = false := by simp; omega
    have his2 : t.size ≤ i := by omega
    have H2 : Hid (R = vE c s t.data.toList (i + 1)) := Lib.hid (by
     have := H0.out.1
     rw [drop_out t i his2] at this
     exact this)
    clear H0
    go_wp2_with fail
    go_meet
    exact ⟨c,i,s,rfl,rfl,rfl,hc,by omega,by omega,hs2,by trivial,H2⟩
 case rest =>
  clear H0
  obtain ⟨c,i,s,rfl,rfl,rfl,hc,hi,hs1,hs2,hwc,H0⟩ := hcut
  obtain rfl : w = wc := hwc.symm
  obtain ⟨j,hj⟩ : ∃ j,Hid (i + 1 = j) := ⟨_,Lib.hid rfl⟩
  have ej : (i : Int) + 1 = (j : Int) := by have := hj.out; omega
  have jb : j ≤ 41 := by have := hj.out; omega
  rw [hj.out] at H0
  clear hj
  go_upto_region 14 with fail
  clear ej
  go_cut [8] from 60 to 69 (fun s8 wy => ∃ mi : Bool,s8 = .bool mi ∧ wy = w ∧ Hid (R = v3 c s mi t.data.toList (if mi then j + 1 else j)))
  case first =>
   by_cases his : j < t.size
   ·have his' : (j : Int) < (t.size : Int) := by omega
    obtain ⟨ch,hch⟩ : ∃ c,t[j] = c := ⟨_,rfl⟩
    have c255 : ch.toNat < 256 := ch.toNat_lt
    have hdr := drop_in t j his
    rw [hch] at hdr
    have H1 : Hid (R = if ch.toNat = 45 then v3 c s true t.data.toList (j + 1) else v3 c s false t.data.toList j) := Lib.hid (by
     have := H0.out
     unfold vE at this
     rw [hdr] at this
     exact this)
    clear hdr H0
    by_cases a1 : ch.toNat = 45
    ·have a1' : ((ch.toNat : Int) == 45) = true := by rw [beq_iff_eq]; omega
     rw [if_pos a1] at H1
     clear a1
     go_wp2_with fail
     go_meet
     exact ⟨true,rfl,by trivial,H1⟩
    ·have a1' : ((ch.toNat : Int) == 45) = false := by rw [beq_eq_false_iff_ne]; omega
     rw [if_neg a1] at H1
     go_wp2_with fail
     go_meet
     exact ⟨false,rfl,by trivial,H1⟩
   ·have his' : decide ((j : Int) < (t.size : Int)) = false := by simp; omega
    have his2 : t.size ≤ j := by omega
    have H1 : Hid (R = v3 c s false t.data.toList j) := Lib.hid (by
     have := H0.out
     unfold vE at this
     rw [drop_out t j his2] at this
     exact this)
    clear H0
    go_wp2_with fail
    go_meet
    exact ⟨false,rfl,by trivial,H1⟩
  case rest =>
   clear H0
   obtain ⟨mi,rfl,hwc,H0⟩ := hcut
   obtain rfl : w = wc := hwc.symm
   go_upto_if 70 with fail
   go_cut [7,70] from 71 to 72 (fun s7 _ wy => ∃ k : Nat,s7 = .int .i64 k ∧ k ≤ 42 ∧ wy = w ∧ Hid (R = v3 c s mi t.data.toList k))
   case first =>
    cases mi with
    | true =>
     obtain ⟨k,hk⟩ : ∃ k,Hid (j + 1 = k) := ⟨_,Lib.hid rfl⟩
     have ek : (j : Int) + 1 = (k : Int) := by have := hk.out; omega
     have kb : k ≤ 42 := by have := hk.out; omega
     have H1 : Hid (R = v3 c s true t.data.toList k) := Lib.hid (by rw [← hk.out]; exact H0.out)
     clear hk H0
     go_wp2_with fail
     go_meet
     exact ⟨k,rfl,kb,by trivial,H1⟩
    | false =>
     have H1 : Hid (R = v3 c s false t.data.toList j) := Lib.hid H0.out
     clear H0
     go_wp2_with fail
     go_meet
     exact ⟨j,rfl,by omega,by trivial,H1⟩
   case rest =>
    clear H0 jb
    obtain ⟨k,rfl,kb,hwc,H0⟩ := hcut
    obtain rfl : w = wc := hwc.symm
    have H1 : Hid (R = if t.size ≤ k ∨ 3 < t.size - k ∨ c = 0 then none else (v2 (t.data.toList.drop k) 0).map fun e => (c,s + (if mi then -(e : Int) else (e : Int)))) := Lib.hid (by
     have := H0.out
     unfold v3 at this
     rw [len_in] at this
     exact this)
    clear H0
    go_upto_region 17 with fail
    go_cut [87] from 73 to 86 (fun s87 wy => ∃ b : Bool,s87 = .bool b ∧ wy = w ∧ Hid (b = true ↔ t.size ≤ k ∨ 3 < t.size - k ∨ c = 0))
    case first =>
     by_cases d1 : t.size ≤ k
     ·have d1' : (t.size : Int) ≤ (k : Int) := by omega
      go_wp2_with fail
      go_meet
      exact ⟨true,rfl,by trivial,Lib.hid ⟨fun _ => .inl d1,fun _ => rfl⟩⟩
     ·have d1' : decide ((t.size : Int) ≤ (k : Int)) = false := by simp; omega
      have d1n : decide (t.size ≤ k) = false := decide_eq_false d1
      have d1'' : (k : Int) < (t.size : Int) := by omega
      obtain ⟨g,hg⟩ : ∃ g,Hid (t.size - k = g) := ⟨_,Lib.hid rfl⟩
      have eg : (t.size : Int) - (k : Int) = (g : Int) := by have := hg.out; omega
      by_cases d2 : 3 < g
      ·have d2' : (3 : Int) < (g : Int) := by omega
       have hR2 : 3 < t.size - k := by rw [hg.out]; exact d2
       have HR2 := Lib.hid hR2
       clear hg hR2
       go_wp2_with fail
       go_meet
       exact ⟨true,rfl,by trivial,Lib.hid ⟨fun _ => .inr (.inl HR2.out),fun _ => rfl⟩⟩
      ·have d2' : decide ((3 : Int) < (g : Int)) = false := by simp; omega
       have d2'' : (g : Int) ≤ 3 := by omega
       have hR2 : ¬ 3 < t.size - k := by rw [hg.out]; exact d2
       have HR2 := Lib.hid hR2
       clear hg hR2
       by_cases d3 : c = 0
       ·have d3' : ((c : Int) == 0) = true := by rw [beq_iff_eq]; omega
        have HD3 := Lib.hid d3
        clear d3
        go_wp2_with fail
        go_meet
        exact ⟨true,rfl,by trivial,Lib.hid ⟨fun _ => .inr (.inr HD3.out),fun _ => rfl⟩⟩
       ·have d3' : ((c : Int) == 0) = false := by rw [beq_eq_false_iff_ne]; omega
        go_wp2_with fail
        go_meet
        exact ⟨false,rfl,by trivial,Lib.hid ⟨fun h => absurd h (by decide),fun h => by rcases h with h | h | h; exact absurd h d1; exact absurd h HR2.out; exact absurd h d3⟩⟩
    case rest =>
     obtain ⟨b,rfl,hwc,HC⟩ := hcut
     obtain rfl : w = wc := hwc.symm
     cases b with
     | true =>
      have HN : Hid (R = none) := Lib.hid (by rw [H1.out,if_pos (HC.out.1 rfl)])
      clear H1 HC
      go_wp2_with fail
      go_ret3
      exact ⟨_,rfl,by rw [HN.out]; rfl,by trivial⟩
     | false =>
      have hcn : ¬ (t.size ≤ k ∨ 3 < t.size - k ∨ c = 0) := fun h => absurd (HC.out.2 h) (by decide)
      rw [if_neg hcn] at H1
      have k1 : k < t.size := by omega
      have k3 : t.size ≤ k + 3 := by omega
      have c1 : 1 ≤ c := by omega
      clear HC hcn
      go_upto_block 2 with fail
      go_cut [7,9] from 88 to 111 (fun _ s9 wy => ∃ e : Nat,s9 = .int .i64 e ∧ e < 1000 ∧ wy = w ∧ Hid (R = some (c,s + (if mi then -(e : Int) else (e : Int)))))
      case first =>
       go_wp2_with fail
       go_loopw [7,9] (fun s7 s9 wr => ∃ k e : Nat,s7 = .int .i64 k ∧ s9 = .int .i64 e ∧ k ≤ t.size ∧ t.size ≤ k + 3 ∧ e < 1000 ∧ wr = w ∧ Hid (R = (v2 (t.data.toList.drop k) e).map (fun e => (c,s + (if mi then -(e : Int) else (e : Int)))) ∧ e < 10 ^ (k + 3 - t.size))) (fun s7 _ _ => t.size - (intOf s7).toNat)
       case atStart => exact ⟨k,0,rfl,rfl,by omega,k3,by omega,rfl,Lib.hid ⟨H1.out,Nat.pow_pos (by decide)⟩⟩
       case round =>
        clear H1 k1 k3 kb
        obtain ⟨k,e,rfl,rfl,k1,k3,e1,hwr,H1⟩ := hrel
        obtain rfl : w = wr := hwr.symm
        by_cases hks : k < t.size
        ·have hks' : (k : Int) < (t.size : Int) := by omega
         obtain ⟨ch,hch⟩ : ∃ c,t[k] = c := ⟨_,rfl⟩
         have c255 : ch.toNat < 256 := ch.toNat_lt
         have hdr := drop_in t k hks
         rw [hch] at hdr
         have H2 : Hid (R = (if ch.toNat < 48 ∨ 57 < ch.toNat then none else v2 (t.data.toList.drop (k + 1)) (10 * e + (ch.toNat - 48))).map (fun e => (c,s + (if mi then -(e : Int) else (e : Int))))) := Lib.hid (by
          have := H1.out.1
          rw [hdr] at this
          exact this)
         have HE := Lib.hid H1.out.2
         clear H1 hdr
         by_cases d1 : ch.toNat < 48
         ·have d1' : (ch.toNat : Int) < 48 := by omega
          have HN : Hid (R = none) := Lib.hid (by rw [H2.out,if_pos (.inl d1)]; rfl)
          clear H2 HE
          go_wp2_with fail
          go_ret3
          exact ⟨_,rfl,by rw [HN.out]; rfl,by trivial⟩
         ·have d1' : decide ((ch.toNat : Int) < 48) = false := by simp; omega
          have d1'' : (48 : Int) ≤ (ch.toNat : Int) := by omega
          by_cases d2 : 57 < ch.toNat
          ·have d2' : (57 : Int) < (ch.toNat : Int) := by omega
           have HN : Hid (R = none) := Lib.hid (by rw [H2.out,if_pos (.inr d2)]; rfl)
           clear H2 HE
           go_wp2_with fail
           go_ret3
           exact ⟨_,rfl,by rw [HN.out]; rfl,by trivial⟩
          ·have d2' : decide ((57 : Int) < (ch.toNat : Int)) = false := by simp; omega
           have d2'' : (ch.toNat : Int) ≤ 57 := by omega
           rw [if_neg (by omega)] at H2
           obtain ⟨e2,he2⟩ : ∃ e2,Hid (10 * e + (ch.toNat - 48) = e2) := ⟨_,Lib.hid rfl⟩
           rw [he2.out] at H2
           have HE2 : Hid (e2 < 10 ^ (k + 1 + 3 - t.size)) := Lib.hid (by
            rw [← he2.out,show k + 1 + 3 - t.size = (k + 3 - t.size) + 1 by omega]
            exact ten_step HE.out (by omega))
           have e2b : e2 < 1000 := by
            have h1 : 10 ^ (k + 1 + 3 - t.size) ≤ 10 ^ 3 := Nat.pow_le_pow_right (by decide) (by omega)
            have h2 := HE2.out
            have e3 : (10 : Nat) ^ 3 = 1000 := by decide
            omega
           have ee2 : 10 * (e : Int) + ((ch.toNat : Int) - 48) = (e2 : Int) := by have := he2.out; omega
           have H3 : Hid (R = (v2 (t.data.toList.drop (k + 1)) e2).map (fun e => (c,s + (if mi then -(e : Int) else (e : Int)))) ∧ e2 < 10 ^ (k + 1 + 3 - t.size)) := Lib.hid ⟨H2.out,HE2.out⟩
           clear H2 HE HE2 he2
           go_wp2_with fail
           exact ⟨⟨k + 1,e2,rfl,rfl,hks,by omega,e2b,by trivial,H3⟩,by simp [intOf] <;> omega⟩
        ·have hks' : decide ((k : Int) < (t.size : Int)) = false := by simp; omega
         have hks2 : t.size ≤ k := by omega
         have H2 : Hid (R = some (c,s + (if mi then -(e : Int) else (e : Int)))) := Lib.hid (by
          have := H1.out.1
          rw [drop_out t k hks2] at this
          exact this)
         clear H1
         go_wp2_with fail
         go_meet
         exact ⟨e,rfl,e1,by trivial,H2⟩
      case rest =>
       clear H1
       obtain ⟨e,rfl,e1,hwc,H1⟩ := hcut
       obtain rfl : w = wc := hwc.symm
       cases mi with
       | true =>
        have H2 : Hid (R = some (c,s + -(e : Int))) := Lib.hid H1.out
        clear H1
        go_wp2_with fail
        go_ret3
        exact ⟨_,rfl,by rw [H2.out]; exact ⟨rfl,c1,by omega,by show -1100 ≤ s + -(e : Int); omega,by show s + -(e : Int) ≤ 1100; omega⟩,by trivial⟩
       | false =>
        have H2 : Hid (R = some (c,s + (e : Int))) := Lib.hid H1.out
        clear H1
        go_wp2_with fail
        go_ret3
        exact ⟨_,rfl,by rw [H2.out]; exact ⟨rfl,c1,by omega,by show -1100 ≤ s + (e : Int); omega,by show s + (e : Int) ≤ 1100; omega⟩,by trivial⟩
end Go.Proofs.YtalaajniammggaaGreatDoor
