/- The document's side: top. -/
import Derived.Test.YtalaajniammggaaGreatDoorXPb
import Derived.Test.YtalaajniammggaaGreatDoorXPa
import Derived.Test.YtalaajniammggaaGreatDoorXWc
import Derived.Maps.AppendAt
import Derived.Lib.ConvBytes
namespace Go.Proofs.YtalaajniammggaaGreatDoor
open Go.RowKit
def IsTop (m : Nat) (k e : Int) : Prop := vY k e ≤ vX m k e ∧ vX m k (e + 1) < vY k (e + 1)
def eOf0 (two : Int) : Int := (two * 30103).tdiv 100000 + 2
def eOk (two : Int) : Bool := decide (-324 ≤ eOf0 two) && decide (eOf0 two ≤ 400) && Nat.ble (2 ^ (two + 1).toNat * 10 ^ (-eOf0 two).toNat) (10 ^ (eOf0 two).toNat * 2 ^ (-(two + 1)).toNat)
def esOk : Nat → Bool
 | 0 => true
 | j + 1 => eOk ((j : Int) - 1074) && esOk j
set_option maxRecDepth 100000 in
theorem es_ok : esOk 2100 = true := by decide +kernel
theorem esOk_at : ∀ (n j : Nat),esOk n = true → j < n → eOk ((j : Int) - 1074) = true
 | 0,j,_,h => absurd h (Nat.not_lt_zero j)
 | n + 1,j,hk,h => by
  unfold esOk at hk
  by_cases e : j = n
  ·subst e; exact and_l hk
  ·exact esOk_at n j (and_r hk) (by omega)
theorem e0_facts (two : Int) (h1 : -1074 ≤ two) (h2 : two ≤ 1025) : -324 ≤ eOf0 two ∧ eOf0 two ≤ 400 ∧ 2 ^ (two + 1).toNat * 10 ^ (-eOf0 two).toNat ≤ 10 ^ (eOf0 two).toNat * 2 ^ (-(two + 1)).toNat := by
 have h := esOk_at 2100 (two + 1074).toNat es_ok (by omega)
 rw [show (((two + 1074).toNat : Nat) : Int) - 1074 = two by omega] at h
 unfold eOk at h
 exact ⟨of_decide_eq_true (and_l (and_l h)),of_decide_eq_true (and_r (and_l h)),Nat.le_of_ble_eq_true (and_r h)⟩
theorem top_start {m b : Nat} {k : Int} (hb : m < 2 ^ (b + 1)) (h1 : -1074 ≤ k + b) (h2 : k + b ≤ 1025) : vX m k (eOf0 (k + b)) < vY k (eOf0 (k + b)) := by
 obtain ⟨_,_,h⟩ := e0_facts (k + b) h1 h2
 unfold vX vY
 generalize eOf0 (k + b) = e at *
 obtain ⟨A,hA⟩ : ∃ A,10 ^ (-e).toNat = A := ⟨_,rfl⟩
 obtain ⟨B,hB⟩ : ∃ A,10 ^ e.toNat = A := ⟨_,rfl⟩
 have hAp : 0 < A := by rw [← hA]; exact ten_pos _
 rw [hA,hB] at h ⊢
 have e1 : b + 1 + k.toNat + (-(k + b + 1)).toNat = (-k).toNat + (k + b + 1).toNat := by omega
 have hv := two_pos (-(k + (b : Int) + 1)).toNat
 have h3 : 2 ^ (b + 1) * 2 ^ k.toNat * A ≤ B * 2 ^ (-k).toNat := by
  refine Nat.le_of_mul_le_mul_right ?_ hv
  have e2 : 2 ^ (b + 1) * 2 ^ k.toNat * A * 2 ^ (-(k + (b : Int) + 1)).toNat = 2 ^ (-k).toNat * (2 ^ (k + (b : Int) + 1).toNat * A) := by
   have : 2 ^ (b + 1) * 2 ^ k.toNat * 2 ^ (-(k + (b : Int) + 1)).toNat = 2 ^ (-k).toNat * 2 ^ (k + (b : Int) + 1).toNat := by
    rw [← Nat.pow_add,← Nat.pow_add,← Nat.pow_add,e1]
   rw [Nat.mul_right_comm _ A,this,Nat.mul_assoc]
  have e3 : B * 2 ^ (-k).toNat * 2 ^ (-(k + (b : Int) + 1)).toNat = 2 ^ (-k).toNat * (B * 2 ^ (-(k + (b : Int) + 1)).toNat) := by grind
  rw [e2,e3]
  exact Nat.mul_le_mul_left _ h
 have h4 : m * 2 ^ k.toNat * A < 2 ^ (b + 1) * 2 ^ k.toNat * A := Nat.mul_lt_mul_of_pos_right (Nat.mul_lt_mul_of_pos_right hb (two_pos _)) hAp
 omega
theorem sc_lt {m : Nat} {k s t : Int} (hs : vY k s ≤ vX m k s) (ht : vX m k t < vY k t) : s < t := by
 rcases Int.lt_or_le s t with hc | hc
 ·exact hc
 ·exfalso
  obtain ⟨j,rfl⟩ : ∃ j : Nat,s = t + j := ⟨(s - t).toNat,by omega⟩
  have h3 : vX m k (t + j) < vY k (t + j) := (lt_scale m k t j).2 (Nat.lt_of_lt_of_le ht (Nat.le_mul_of_pos_right _ (ten_pos j)))
  omega
theorem top_least {m : Nat} {k : Int} (hm : 1 ≤ m) (hk : -1074 ≤ k) : vY k (-324) ≤ vX m k (-324) := by
 obtain ⟨n,hn⟩ : ∃ n : Nat,n = 324 := ⟨_,rfl⟩
 have e1 : vY k (-324) = 1 * 2 ^ (-k).toNat := rfl
 have e2 : vX m k (-324) = m * 2 ^ k.toNat * 10 ^ n := by
  unfold vX
  rw [show (-(-324 : Int)).toNat = n by omega]
 rw [e1,e2]
 obtain ⟨a,ha⟩ : ∃ a : Nat,a = 1074 := ⟨_,rfl⟩
 have h1 : 2 ^ (-k).toNat ≤ 2 ^ a := Nat.pow_le_pow_right (by decide) (by omega)
 have h2 : 2 ^ a ≤ 10 ^ n := by rw [hn,ha]; apply Nat.le_of_ble_eq_true; decide +kernel
 have h3 : 1 * 10 ^ n ≤ m * 2 ^ k.toNat * 10 ^ n := Nat.mul_le_mul_right _ (Nat.mul_pos hm (two_pos _))
 have h4 := Nat.le_trans h1 h2
 omega
theorem halves_step {m x b : Nat} (h : m / 2 ^ b = x) : m / 2 ^ (b + 1) = x / 2 := by
 rw [Nat.pow_succ,← Nat.div_div_eq_div_mul,h]
theorem halves_end {m b : Nat} (h : m / 2 ^ b ≤ 1) : m < 2 ^ (b + 1) := by
 have := (Nat.div_lt_iff_lt_mul (two_pos b)).1 (show m / 2 ^ b < 2 by omega)
 rw [Nat.pow_succ,Nat.mul_comm]
 exact this
set_option maxRecDepth 100000 in
set_option maxHeartbeats 2000000 in
theorem top_any (r : Nat) (h0 : 1 ≤ r) (hr : r < INF) (w : World) :
  Calls Tryz.prog 103 #[.int .u64 r] w fun e w' => ∃ x : Int,e = .returned (.int .i64 x) ∧ IsTop (magOf r) ((expOf r : Int) - 1074) x ∧ -324 ≤ x ∧ x ≤ 400 ∧ Below w.heap.size w w' := by
 obtain ⟨m1,m2,x2,_⟩ := mag_facts h0 hr
 have hP := parts_any r hr
 have hI : INF = 9218868437227405312 := rfl
 have r64 : r < 18446744073709551616 := by omega
 generalize magOf r = m at *
 obtain ⟨k,hk⟩ : ∃ k : Int,(expOf r : Int) - 1074 = k := ⟨_,rfl⟩
 have k1 : -1074 ≤ k := by omega
 have k2 : k ≤ 971 := by omega
 rw [hk] at hP ⊢
 clear hk x2 h0 hr
 go_enter Tryz.func103,Tryz.ntmps103
 go_wp2_with fail
 refine (hP _).mono ?_
 rintro e w1 ⟨rfl,hw1⟩
 obtain rfl : w = w1 := hw1.symm
 go_upto_block 0 with fail
 go_cut [5,6] from 15 to 20 (fun s5 _ wy => ∃ b : Nat,s5 = .int .i64 (k + b) ∧ b ≤ 53 ∧ wy = w ∧ Hid (m < 2 ^ (b + 1)))
 case first =>
  go_wp2_with fail
  go_loopw [5,6] (fun s5 s6 wr => ∃ b x : Nat,s5 = .int .i64 (k + b) ∧ s6 = .int .u64 x ∧ x < 18446744073709551616 ∧ b ≤ 53 ∧ wr = w ∧ Hid (m / 2 ^ b = x ∧ (b = 0 ∨ 2 ^ b ≤ m))) (fun _ s6 _ => (intOf s6).toNat)
  case atStart => exact ⟨0,m,by simp,rfl,by omega,by omega,rfl,Lib.hid ⟨by simp,.inl rfl⟩⟩
  case round =>
   obtain ⟨b,x,rfl,rfl,x64,hb,hwr,HX⟩ := hrel
   obtain rfl : w = wr := hwr.symm
   by_cases hx : 1 < x
   ·have hx' : (1 : Int) < (x : Int) := by omega
    obtain ⟨y,hy⟩ : ∃ y,Hid (x / 2 = y) := ⟨_,Lib.hid rfl⟩
    have ey : (x : Int) / 2 = (y : Int) := by have := hy.out; omega
    have y1 : y < x ∧ y < 18446744073709551616 := by have := hy.out; omega
    obtain ⟨y1,y2⟩ := y1
    have hle : 2 ^ (b + 1) ≤ m := by
     have h2 : 2 ≤ m / 2 ^ b := by rw [HX.out.1]; omega
     have := (Nat.le_div_iff_mul_le (two_pos b)).1 h2
     rw [Nat.pow_succ,Nat.mul_comm]
     exact this
    have hb2 : b + 1 ≤ 53 := by
     rcases Nat.lt_or_ge b 53 with hc | hc
     ·omega
     ·exfalso
      have : 2 ^ 54 ≤ 2 ^ (b + 1) := Nat.pow_le_pow_right (by decide) (by omega)
      have e54 : (2 : Nat) ^ 54 = 18014398509481984 := by decide
      omega
    have HX' : Hid (m / 2 ^ (b + 1) = y ∧ (b + 1 = 0 ∨ 2 ^ (b + 1) ≤ m)) := Lib.hid ⟨by rw [halves_step HX.out.1]; exact hy.out,.inr hle⟩
    obtain ⟨t,ht⟩ : ∃ t,Hid (k + ((b + 1 : Nat) : Int) = t) := ⟨_,Lib.hid rfl⟩
    have et : k + (b : Int) + 1 = t := by have := ht.out; omega
    clear hy HX hle
    go_wp2_with fail
    exact ⟨⟨b + 1,y,by rw [ht.out],rfl,y2,hb2,by trivial,HX'⟩,by simp [intOf] <;> omega⟩
   ·have hx' : decide ((1 : Int) < (x : Int)) = false := by simp; omega
    have hx'' : (x : Int) ≤ 1 := by omega
    have HE : Hid (m < 2 ^ (b + 1)) := Lib.hid (halves_end (by rw [HX.out.1]; omega))
    clear HX
    go_wp2_with fail
    go_meet
    exact ⟨b,rfl,hb,by trivial,HE⟩
 case rest =>
  obtain ⟨b,rfl,hb,hwc,HB⟩ := hcut
  obtain rfl : w = wc := hwc.symm
  obtain ⟨f1,f2,_⟩ := e0_facts (k + b) (by omega) (by omega)
  have hst := Lib.hid (top_start (k := k) HB.out (by omega) (by omega))
  obtain ⟨two,htw⟩ : ∃ t,Hid (k + (b : Int) = t) := ⟨_,Lib.hid rfl⟩
  rw [htw.out] at hst f1 f2 ⊢
  have t1 : -1074 ≤ two := by rw [← htw.out]; omega
  have t2 : two ≤ 1024 := by rw [← htw.out]; omega
  obtain ⟨e0,he0⟩ : ∃ e,Hid (eOf0 two = e) := ⟨_,Lib.hid rfl⟩
  have ee : (two * 30103).tdiv 100000 + 2 = e0 := he0.out
  rw [he0.out] at hst f1 f2
  have hle := Lib.hid (top_least (k := k) m1 k1)
  clear HB htw he0
  go_upto_block 2 with fail
  go_cut [7] from 25 to 31 (fun s7 wy => ∃ x : Int,s7 = .int .i64 x ∧ -324 ≤ x ∧ x ≤ 400 ∧ Hid (IsTop m k x ∧ Below w.heap.size w wy))
  case first =>
   clear ee
   go_wp2_with fail
   go_loopw [7] (fun s7 wr => ∃ x : Int,s7 = .int .i64 x ∧ -324 ≤ x ∧ x ≤ 400 ∧ Hid (vX m k (x + 1) < vY k (x + 1) ∧ Below w.heap.size w wr)) (fun s7 _ => (intOf s7 + 400).toNat)
   case atStart =>
    refine ⟨e0,rfl,f1,f2,Lib.hid ⟨?_,Below.refl _ _⟩⟩
    exact (lt_scale m k e0 1).2 (Nat.lt_of_lt_of_le hst.out (Nat.le_mul_of_pos_right _ (ten_pos 1)))
   case round =>
    clear hst f1 f2
    obtain ⟨x,rfl,x1,x2,HX⟩ := hrel
    have hA := against_any 1 m x k (by omega) (by omega) (by omega) (by omega) (by omega) (by omega) wr
    rw [Nat.one_mul] at hA
    by_cases hc : vX m k x < vY k x
    ·have hx : -324 < x := sc_lt hle.out hc
     have hp : (0 : Int) < cmpN (vY k x) (vX m k x) := (cmp_gt _ _).2 hc
     obtain ⟨cm,hcm⟩ : ∃ c,Hid (cmpN (vY k x) (vX m k x) = c) := ⟨_,Lib.hid rfl⟩
     rw [hcm.out] at hp hA
     have HC := Lib.hid hc
     clear hc hcm
     go_wp2_with fail
     refine hA.mono ?_
     rintro e w3 ⟨rfl,b3⟩
     have H1 : Hid (vX m k (x - 1 + 1) < vY k (x - 1 + 1) ∧ Below w.heap.size w w3) := Lib.hid ⟨by rw [show x - 1 + 1 = x by omega]; exact HC.out,HX.out.2.trans (b3.mono HX.out.2.size)⟩
     clear b3 HX HC
     go_wp2_with fail
     exact ⟨⟨x - 1,rfl,by omega,by omega,H1⟩,by simp [intOf] <;> omega⟩
    ·have hp : decide ((0 : Int) < cmpN (vY k x) (vX m k x)) = false := decide_eq_false (fun h => hc ((cmp_gt _ _).1 h))
     have hp' : cmpN (vY k x) (vX m k x) ≤ 0 := Int.not_lt.1 (fun h => hc ((cmp_gt _ _).1 h))
     obtain ⟨cm,hcm⟩ : ∃ c,Hid (cmpN (vY k x) (vX m k x) = c) := ⟨_,Lib.hid rfl⟩
     rw [hcm.out] at hp hA hp'
     have HC : Hid (vY k x ≤ vX m k x) := Lib.hid (Nat.not_lt.1 hc)
     clear hc hcm
     go_wp2_with fail
     refine hA.mono ?_
     rintro e w3 ⟨rfl,b3⟩
     have H1 : Hid (IsTop m k x ∧ Below w.heap.size w w3) := Lib.hid ⟨⟨HC.out,HX.out.1⟩,HX.out.2.trans (b3.mono HX.out.2.size)⟩
     clear b3 HX HC
     go_wp2_with fail
     go_meet
     exact ⟨x,rfl,x1,x2,H1⟩
  case rest =>
   obtain ⟨x,rfl,x1,x2,HX⟩ := hcut
   go_wp2_with fail
   go_ret
   exact ⟨x,rfl,HX.out.1,x1,x2,HX.out.2⟩
end Go.Proofs.YtalaajniammggaaGreatDoor

/- The document's side: number. -/
namespace Go.Proofs.YtalaajniammggaaGreatDoor
open Go.RowKit
theorem own_none (w : World) : (w.alloc (.cells #[] 5)).ownsRow w.heap.size 5 1 (.slice (some ⟨w.heap.size,0,none⟩) 0 0) 0 (Lib.byteCells []) :=
 ⟨by simp [Lib.byteCells],.inr ⟨w.heap.size,0,#[],rfl,Nat.le_refl _,heap_alloc_new w _,by simp,by unfold maxLen; omega,by simp,by simp [Lib.byteCells]⟩⟩
theorem bytes_snoc (l : List UInt8) (c : UInt8) : Lib.byteCells l ++ [.int .u8 (c.toNat : Int)] = Lib.byteCells (l ++ [c]) := by simp [Lib.byteCells]
theorem nd_le (n : Nat) (h : n < 18446744073709551616) : Lib.nDigits n ≤ 20 := by
 rcases Nat.lt_or_ge 20 (Lib.nDigits n) with hc | hc
 ·exfalso
  rcases Nat.eq_zero_or_pos n with h0 | h0
  ·rw [h0,Lib.nDigits_small (by omega)] at hc; omega
  ·have h1 := pow_le_n n h0
   have h2 : 10 ^ 20 ≤ 10 ^ (Lib.nDigits n - 1) := Nat.pow_le_pow_right (by decide) (by omega)
   have e : (10 : Nat) ^ 20 = 100000000000000000000 := by decide
   omega
 ·exact hc
def sw (L : List UInt8) (i t : Nat) : UInt8 := if t < i ∨ L.length ≤ t + i then L.getD (L.length - 1 - t) 0 else L.getD t 0
def Swp (L : List UInt8) (B q cap : Nat) (w : World) (i : Nat) : Prop := ∃ xs,w.ownsRow B 5 1 (.slice (some ⟨q,0,none⟩) L.length cap) L.length xs ∧ ∀ t,t < L.length → xs[t]? = some (.int .u8 ((sw L i t).toNat : Int))
theorem Swp.cell {L : List UInt8} {B q cap : Nat} {w : World} {i : Nat} (h : Swp L B q cap w i) (t : Nat) (ht : t < L.length) : w.cell? ⟨q,t,none⟩ = some (.int .u8 ((sw L i t).toNat : Int)) := by
 obtain ⟨xs,o,h1⟩ := h
 rw [o.cellAt t (by omega),h1 t ht]
theorem Swp.frz {L : List UInt8} {B q cap : Nat} {w : World} {i : Nat} (h : Swp L B q cap w i) (t : Nat) : w.frozen? ⟨q,t,none⟩ = false := by
 obtain ⟨xs,o,_⟩ := h
 exact o.frozenAt t
theorem Swp.le {L : List UInt8} {B q cap : Nat} {w : World} {i : Nat} (h : Swp L B q cap w i) : B ≤ q := by
 obtain ⟨xs,o,_⟩ := h
 exact (o.lt q rfl).1
theorem Swp.step {L : List UInt8} {B q cap : Nat} {w : World} {i : Nat} (h : Swp L B q cap w i) (hi : i < L.length / 2) :
  Swp L B q cap ((w.setCell ⟨q,i,none⟩ (.int .u8 ((sw L i (L.length - 1 - i)).toNat : Int))).setCell ⟨q,L.length - 1 - i,none⟩ (.int .u8 ((sw L i i).toNat : Int))) (i + 1) := by
 obtain ⟨xs,o,h1⟩ := h
 have hl : xs.length = L.length := by have := o.1; omega
 refine ⟨_,((o.stored i _).1.stored (L.length - 1 - i) _).1,fun t ht => ?_⟩
 rw [List.getElem?_set]
 by_cases e1 : L.length - 1 - i = t
 ·rw [if_pos e1,if_pos (by rw [List.length_set]; omega)]
  have e3 : sw L i i = sw L (i + 1) t := by
   unfold sw
   rw [if_neg (show ¬ (i < i ∨ L.length ≤ i + i) by omega),if_pos (show t < i + 1 ∨ L.length ≤ t + (i + 1) by omega),show L.length - 1 - t = i by omega]
  rw [e3]
 ·rw [if_neg e1,List.getElem?_set]
  by_cases e2 : i = t
  ·rw [if_pos e2,if_pos (by omega)]
   subst e2
   have e3 : sw L i (L.length - 1 - i) = sw L (i + 1) i := by
    unfold sw
    rw [if_neg (show ¬ (L.length - 1 - i < i ∨ L.length ≤ L.length - 1 - i + i) by omega),if_pos (show i < i + 1 ∨ L.length ≤ i + (i + 1) by omega)]
   rw [e3]
  ·rw [if_neg e2,h1 t ht]
   congr 3
   unfold sw
   by_cases c : t < i ∨ L.length ≤ t + i
   ·rw [if_pos c,if_pos (by omega)]
   ·rw [if_neg c,if_neg (by omega)]
theorem Swp.start {L : List UInt8} {B q cap : Nat} {w : World} (o : w.ownsRow B 5 1 (.slice (some ⟨q,0,none⟩) L.length cap) L.length (Lib.byteCells L)) : Swp L B q cap w 0 := by
 refine ⟨_,o,fun t ht => ?_⟩
 unfold sw
 rw [if_neg (by omega)]
 simp [Lib.byteCells,List.getD,ht]
theorem Swp.text {L : List UInt8} {B q cap : Nat} {w : World} (h : Swp L B q cap w (L.length / 2)) : (convert 43 9 (.slice (some ⟨q,0,none⟩) L.length cap)).run Tryz.prog w = .ok (.string ⟨L.reverse.toArray⟩) w := by
 have := run_convert_bytes_back w 43 9 5 ⟨q,0,none⟩ cap L.reverse Tryz.underlying43 Tryz.underlying5 Tryz.underlying9 (P := Tryz.prog) (by
  intro j hj
  rw [List.length_reverse] at hj
  rw [Addr.add_lit,Nat.zero_add,h.cell j hj]
  congr 3
  have e : (L.reverse)[j]? = some (sw L (L.length / 2) j) := by
   rw [List.getElem?_reverse hj]
   unfold sw
   by_cases c : j < L.length / 2 ∨ L.length ≤ j + L.length / 2
   ·rw [if_pos c]
    simp [List.getD,show L.length - 1 - j < L.length by omega]
   ·rw [if_neg c,show L.length - 1 - j = j by omega]
    simp [List.getD,hj]
  first
   | (simp only [List.getElem?_eq_getElem,List.length_reverse,hj,Option.some.injEq] at e; rw [← e])
   | (rw [List.getD_eq_getElem?_getD,e]; rfl))
 rw [List.length_reverse] at this
 exact this
end Go.Proofs.YtalaajniammggaaGreatDoor

/- The document's side: number's walk. -/
namespace Go.Proofs.YtalaajniammggaaGreatDoor
open Go.RowKit
theorem dig_u8 (n : Nat) : ((UInt8.ofNat (48 + n % 10)).toNat : Int) = 48 + (n : Int) % 10 := by
 have := (dig_of (n % 10) (by omega)).2
 omega
set_option maxRecDepth 100000 in
set_option maxHeartbeats 2000000 in
theorem rnumber_any (n0 : Nat) (hn0 : n0 < 18446744073709551616) (w : World) :
    Calls Tryz.prog 86 #[.int .u64 n0] w fun e w' => e = .returned (.string ⟨(Lib.decDigits n0).toArray⟩) ∧ Below w.heap.size w w' := by
  obtain ⟨i0,hi,hz0,hz1,hz2⟩ := info_parts info5
  have hlen : (Lib.decDigits n0).length ≤ 20 := by rw [Lib.decDigits_length]; exact nd_le n0 hn0
  have HLen := Lib.hid hlen
  clear hlen
  go_enter Tryz.func86,Tryz.ntmps86
  go_upto_block 0 with fail
  go_cut [0,3] from 7 to 17 (fun s0 s3 wy => ∃ (n : Nat) (L : List UInt8),s0 = .int .u64 n ∧ n < 10 ∧ L.length ≤ 19 ∧ wy.ownsRow w.heap.size 5 1 s3 L.length (Lib.byteCells L) ∧ Hid (Lib.decDigits n0 = Lib.decDigits n ++ L.reverse) ∧ Below w.heap.size w wy)
  case first =>
    go_wp2_with fail
    go_loopw [0,3] (fun s0 s3 wr => ∃ (n : Nat) (L : List UInt8),s0 = .int .u64 n ∧ n < 18446744073709551616 ∧ L.length ≤ 19 ∧ wr.ownsRow w.heap.size 5 1 s3 L.length (Lib.byteCells L) ∧ Hid (Lib.decDigits n0 = Lib.decDigits n ++ L.reverse) ∧ Below w.heap.size w wr) (fun s0 _ _ => (intOf s0).toNat)
    case atStart => exact ⟨n0,[],rfl,hn0,by simp,own_none w,Lib.hid (by simp),(Below.refl _ w).alloc (Nat.le_refl _) _⟩
    case round =>
      obtain ⟨n,L,rfl,hn,hL,hown,HI,hb⟩ := hrel
      have hsz := hb.size
      by_cases h10 : 10 ≤ n
      · have h10' : (10 : Int) ≤ (n : Int) := by omega
        obtain ⟨D,hD⟩ : ∃ D,Hid (UInt8.ofNat (48 + n % 10) = D) := ⟨_,Lib.hid rfl⟩
        have eD : 48 + (n : Int) % 10 = (D.toNat : Int) := by rw [← hD.out]; exact (dig_u8 n).symm
        have eW : IntKind.u8.wrap (48 + (n : Int) % 10) = (D.toNat : Int) := by rw [IntKind.wrap_u8,eD]; have := D.toNat_lt; omega
        obtain ⟨y,hy⟩ : ∃ y,Hid (n / 10 = y) := ⟨_,Lib.hid rfl⟩
        have ey : (n : Int) / 10 = (y : Int) := by have := hy.out; omega
        have y1 : y < n ∧ y < 18446744073709551616 := by have := hy.out; omega
        obtain ⟨y1,y2⟩ := y1
        have HI' : Hid (Lib.decDigits n0 = Lib.decDigits y ++ (L ++ [D]).reverse) := Lib.hid (by
          rw [HI.out,← hy.out,← hD.out,Lib.decDigits,dif_neg (by omega)]
          simp)
        have hL' : L.length + 1 ≤ 19 := by
          have h1 := HLen.out
          rw [HI'.out] at h1
          have h2 := Lib.decDigits_length y
          have h3 := Lib.nDigits_pos y
          simp at h1
          omega
        clear HI hy hD
        go_wp2_with (at_builtin; refine wpList_append_own _ rfl _ _ 43 rfl w.heap.size 5 i0 (.int .u8 0) 1 1 Tryz.underlying43 hi hz0 hz1 hz2 rfl (by decide) _ _ _ rfl (hown.alloc _) ⟨_,0,none⟩ 1 1 [.int .u8 (D.toNat : Int)] rfl rfl (cell_one_new _ _ _) (by simp [Value.oneCell']) (by unfold maxLen; omega) (by omega) (by simp; omega) ?_; intro v1 w1 hown1 hgrow1 hx1)
        rw [bytes_snoc] at hown1
        have hb1 : Below w.heap.size w w1 := (hb.alloc hsz _).grown hgrow1 (by simp; omega) (fun j hj => (hown.lt j hj).1)
        have hown2 : w1.ownsRow w.heap.size 5 1 v1 (L ++ [D]).length (Lib.byteCells (L ++ [D])) := by rw [List.length_append]; exact hown1
        first
          | exact ⟨⟨y,L ++ [D],rfl,y2,by simp; omega,hown2,HI',hb1⟩,by simp [intOf] <;> omega⟩
          | (go_roundw
             case rel => exact ⟨y,L ++ [D],rfl,y2,by simp; omega,hown2,HI',hb1⟩
             case measure => simp [intOf]; omega)
      · have h10' : decide ((10 : Int) ≤ (n : Int)) = false := by simp; omega
        have h10'' : (n : Int) < 10 := by omega
        go_wp2_with fail
        go_meet
        exact ⟨n,L,rfl,by omega,hL,hown,HI,hb⟩
  case rest =>
    obtain ⟨n,L,rfl,hn,hL,hown,HI,hb⟩ := hcut
    have hsz := hb.size
    obtain ⟨D,hD⟩ : ∃ D,Hid (UInt8.ofNat (48 + n) = D) := ⟨_,Lib.hid rfl⟩
    have eD : 48 + (n : Int) = (D.toNat : Int) := by rw [← hD.out]; have := (dig_of n hn).2; omega
    have eW : IntKind.u8.wrap (48 + (n : Int)) = (D.toNat : Int) := by rw [IntKind.wrap_u8,eD]; have := D.toNat_lt; omega
    have HI' : Hid (Lib.decDigits n0 = (L ++ [D]).reverse) := Lib.hid (by
      rw [HI.out,← hD.out,Lib.decDigits,dif_pos hn]
      simp)
    clear HI hD
    go_upto_region 6 with (at_builtin; refine wpList_append_own _ rfl _ _ 43 rfl w.heap.size 5 i0 (.int .u8 0) 1 1 Tryz.underlying43 hi hz0 hz1 hz2 rfl (by decide) _ _ _ rfl (hown.alloc _) ⟨_,0,none⟩ 1 1 [.int .u8 (D.toNat : Int)] rfl rfl (cell_one_new _ _ _) (by simp [Value.oneCell']) (by unfold maxLen; omega) (by omega) (by simp; omega) ?_; intro v1 w1 hown1 hgrow1 hx1)
    rw [bytes_snoc] at hown1
    have hb1 : Below w.heap.size w w1 := (hb.alloc hsz _).grown hgrow1 (by simp; omega) (fun j hj => (hown.lt j hj).1)
    obtain ⟨M,hM⟩ : ∃ M,Hid (L ++ [D] = M) := ⟨_,Lib.hid rfl⟩
    have hown2 : w1.ownsRow w.heap.size 5 1 v1 M.length (Lib.byteCells M) := by rw [← hM.out,List.length_append]; exact hown1
    have hM1 : 1 ≤ M.length ∧ M.length ≤ 20 := by rw [← hM.out]; simp; omega
    rw [hM.out] at HI'
    obtain ⟨q,cap,hv1,hcap⟩ : ∃ q cap,v1 = .slice (some ⟨q,0,none⟩) M.length cap ∧ cap ≤ maxLen := by
      rcases hown2.2 with ⟨_,h0⟩ | ⟨g,cap,cur,rfl,hg,hh,h1,h2,h3,h4⟩
      · omega
      · exact ⟨g,cap,rfl,h2⟩
    subst hv1
    have H0 : Hid (Swp M w.heap.size q cap w1 0 ∧ Below w.heap.size w w1) := Lib.hid ⟨Swp.start hown2,hb1⟩
    have hcm : M.length ≤ cap := by
      rcases hown2.2 with ⟨h9,h0⟩ | ⟨g,cap',cur,h9,hg,hh,h1,h2,h3,h4⟩
      · simp at h9
      · simp at h9; omega
    unfold maxLen at hcap
    clear hown1 hgrow1 hx1 hb1 hown2 hM hown hb hsz hL
    obtain ⟨N,hN⟩ : ∃ N,Hid (M.length = N) := ⟨_,Lib.hid rfl⟩
    rw [hN.out] at hM1 hcm ⊢
    obtain ⟨hN1,hN2⟩ := hM1
    obtain ⟨H,hH⟩ : ∃ H,Hid (N / 2 = H) := ⟨_,Lib.hid rfl⟩
    have eH : (N : Int) / 2 = (H : Int) := by have := hH.out; omega
    have eH' : (N : Int).tdiv 2 = (H : Int) := by rw [Int.tdiv_eq_ediv_of_nonneg (by omega)]; exact eH
    have H20 : H ≤ 10 := by have := hH.out; omega
    go_upto_block 2 with fail
    go_cut [4,5] from 24 to 53 (fun _ _ wy => Hid (Swp M w.heap.size q cap wy H ∧ Below w.heap.size w wy))
    case first =>
      go_wp2_with fail
      go_loopw [4,5] (fun s4 _ wr => ∃ i : Nat,s4 = .int .i64 i ∧ i ≤ H ∧ Hid (Swp M w.heap.size q cap wr i ∧ Below w.heap.size w wr)) (fun s4 _ _ => H - (intOf s4).toNat)
      case atStart => exact ⟨0,rfl,by omega,H0⟩
      case round =>
        clear H0
        obtain ⟨i,rfl,hiH,H0⟩ := hrel
        by_cases hlt : i < H
        · have hlt' : (i : Int) < (H : Int) := by omega
          obtain ⟨j,hj⟩ : ∃ j,Hid (N - 1 - i = j) := ⟨_,Lib.hid rfl⟩
          have iN : i < N := by have := hH.out; omega
          have jN : j < N := by have := hj.out; omega
          have ej : (N : Int) - 1 - (i : Int) = (j : Int) := by have := hj.out; have := hH.out; omega
          have iN' : (i : Int) < (N : Int) := by omega
          have jN' : (j : Int) < (N : Int) := by omega
          have c1 := H0.out.1.cell i (by rw [hN.out]; exact iN)
          have c2 := H0.out.1.cell j (by rw [hN.out]; exact jN)
          have z1 := H0.out.1.frz i
          have hstep := H0.out.1.step (by rw [hN.out,hH.out]; exact hlt)
          have hqB := H0.out.1.le
          have H1 : Hid (Swp M w.heap.size q cap ((wr.setCell ⟨q,i,none⟩ (.int .u8 ((sw M i j).toNat : Int))).setCell ⟨q,j,none⟩ (.int .u8 ((sw M i i).toNat : Int))) (i + 1) ∧ Below w.heap.size w ((wr.setCell ⟨q,i,none⟩ (.int .u8 ((sw M i j).toNat : Int))).setCell ⟨q,j,none⟩ (.int .u8 ((sw M i i).toNat : Int)))) := Lib.hid (by
            rw [hN.out,hj.out] at hstep
            exact ⟨hstep,(H0.out.2.setCell hqB _).setCell hqB _⟩)
          have ij : i ≠ j := by have := hj.out; have := hH.out; omega
          obtain ⟨W1,hW1⟩ : ∃ W,Hid (wr.setCell ⟨q,i,none⟩ (.int .u8 ((sw M i j).toNat : Int)) = W) := ⟨_,Lib.hid rfl⟩
          obtain ⟨xs,o,_⟩ := H0.out.1
          have o1 := (o.stored i (.int .u8 ((sw M i j).toNat : Int))).1
          have z2 := o1.frozenAt j
          have c3 : (wr.setCell ⟨q,i,none⟩ (.int .u8 ((sw M i j).toNat : Int))).cell? ⟨q,j,none⟩ = some (.int .u8 ((sw M i j).toNat : Int)) := by
            rw [o1.cellAt j (by rw [hN.out,Nat.mul_one]; exact jN),List.getElem?_set,if_neg ij,← o.cellAt j (by rw [hN.out,Nat.mul_one]; exact jN)]
            exact c2
          rw [hW1.out] at H1 z2 c3
          obtain ⟨a,ha⟩ : ∃ a : UInt8,Hid (sw M i i = a) := ⟨_,Lib.hid rfl⟩
          obtain ⟨b,hb⟩ : ∃ a : UInt8,Hid (sw M i j = a) := ⟨_,Lib.hid rfl⟩
          rw [ha.out] at c1 H1
          rw [hb.out] at c2 c3 hW1
          clear hstep o o1 H0 hj ij ha hb
          go_upto_region 11 with fail
          rw [hW1.out]
          clear hW1 c1 c2 z1
          go_wp2_with fail
          exact ⟨⟨i + 1,rfl,by omega,H1⟩,by simp [intOf] <;> omega⟩
        · have hlt' : decide ((i : Int) < (H : Int)) = false := by simp; omega
          have hlt'' : (H : Int) ≤ (i : Int) := by omega
          have e : i = H := by omega
          subst e
          clear hlt
          go_wp2_with fail
          go_meet
          exact H0
    case rest =>
      have HX := hcut.out
      rw [← hH.out,← hN.out] at HX
      have hS := HX.1.text
      rw [← HI'.out,hN.out] at hS
      have HB := Lib.hid HX.2
      clear hcut HX H0 HI'
      go_wp2_with fail
      go_ret
      exact ⟨rfl,HB.out⟩
end Go.Proofs.YtalaajniammggaaGreatDoor

/- The document's side: Digits, what its search finds. -/
namespace Go.Proofs.YtalaajniammggaaGreatDoor
open Go.RowKit
def NoHit (m : Nat) (k s : Int) : Prop := ¬ Reads m k (skewOf m k) (vX m k s / vY k s) s ∧ ¬ Reads m k (skewOf m k) (vX m k s / vY k s + 1) s
theorem no_reads {m : Nat} {k : Int} (h : Flo m k) (j : Nat) (hn : NoHit m k (PO m k + j)) (a : Nat) : ¬ Reads m k (skewOf m k) a (PO m k + j) := by
 intro hr
 obtain ⟨n1,n2⟩ := hn
 rw [reads_at h] at hr
 rw [(scale_up m k (PO m k) j).1] at n1 n2
 rw [reads_at h] at n1 n2
 rcases one_or_two (sc_of h) j a hr.1 hr.2 with h1 | h1
 ·exact n1 h1
 ·exact n2 h1
theorem hit_last {m : Nat} {k : Int} (h : Flo m k) : ¬ NoHit m k (PO m k) := by
 intro hn
 have := no_reads h 0 (by simpa using hn) (loO m k)
 rw [reads_at h] at this
 exact this ⟨by simp,by simpa using (sc_of h).ord⟩
theorem quo_small {m : Nat} {k : Int} (h : Flo m k) (j : Nat) : vX m k (PO m k + j) / vY k (PO m k + j) < 100000000000000000 := by
 rw [(scale_up m k (PO m k) j).1]
 have hY := vY_pos k (PO m k)
 have h1 : vX m k (PO m k) / (vY k (PO m k) * 10 ^ j) ≤ vX m k (PO m k) / vY k (PO m k) := Nat.div_le_div_left (Nat.le_mul_of_pos_right _ (ten_pos j)) hY
 have h2 : vX m k (PO m k) / vY k (PO m k) < 10 ^ 17 := (Nat.div_lt_iff_lt_mul hY).2 (by rw [Nat.mul_comm]; exact scale_hi h)
 have e : (10 : Nat) ^ 17 = 100000000000000000 := by decide
 omega
theorem found {r : Nat} (h0 : 1 ≤ r) (hr : r < INF) {e s : Int} (ht : IsTop (magOf r) ((expOf r : Int) - 1074) e) (hs1 : PO (magOf r) ((expOf r : Int) - 1074) ≤ s) (hs2 : s ≤ e) (hno : ∀ s',s < s' → s' ≤ e → NoHit (magOf r) ((expOf r : Int) - 1074) s')
    (q : Nat) (hq : q = vX (magOf r) ((expOf r : Int) - 1074) s / vY ((expOf r : Int) - 1074) s) (one two up : Bool) (h1 : one = true ↔ sideN (magOf r) ((expOf r : Int) - 1074) q s = 0) (h2 : two = true ↔ sideN (magOf r) ((expOf r : Int) - 1074) (q + 1) s = 0) (hit : one = true ∨ two = true)
    (hf : Int) (hhf : hf = cmpN (2 * (vX (magOf r) ((expOf r : Int) - 1074) s % vY ((expOf r : Int) - 1074) s)) (vY ((expOf r : Int) - 1074) s)) (hup : up = true ↔ 0 < hf ∨ (hf = 0 ∧ q % 2 = 1)) (c : Nat) (hc : c = if one = false ∨ (two = true ∧ up = true) then q + 1 else q) :
    1 ≤ c ∧ ∀ a t : Nat,c = a * 10 ^ t → a % 10 ≠ 0 → a = dF r ∧ s + t + (Lib.nDigits a : Int) - 1 = XF r := by
  have hr63 : rungOf r = r := by
    have hI : INF = 9218868437227405312 := rfl
    unfold rungOf
    exact Nat.mod_eq_of_lt (by have : (2 : Nat) ^ 63 = 9223372036854775808 := by decide
                               omega)
  have FL := flo_of (r := r) (by omega) hr
  obtain ⟨b1,b2,b3⟩ := top_bounds FL ht.1 ht.2
  obtain ⟨j,hj⟩ : ∃ j : Nat,s = PO (magOf r) ((expOf r : Int) - 1074) + j := ⟨(s - PO (magOf r) ((expOf r : Int) - 1074)).toNat,by omega⟩
  subst hj
  rw [side_zero] at h1 h2
  have key := take_right FL j q hq one two h1 h2 hit (fun hj0 hm => by
    subst hj0
    exact no_reads FL 1 (hno _ (by push_cast; omega) (by have := b3 hm; push_cast; omega))) up (hup.trans (by
      rw [hhf,cmp_gt,cmp_eq]
      constructor
      · rintro (h | h)
        · exact .inl h
        · exact .inr ⟨h.1.symm,h.2⟩
      · rintro (h | h)
        · exact .inl h
        · exact .inr ⟨h.1.symm,h.2⟩)) c hc
  have hcpos : 1 ≤ c := by
    rcases Nat.eq_zero_or_pos c with h | h
    · exfalso
      rw [h,Nat.zero_mul] at key
      obtain ⟨f,_,g1,_⟩ := go_short FL
      rw [← key] at g1
      have := (shortM_bounds FL).1
      have h10 := ten_pos f
      have := Nat.mul_pos this h10
      omega
    · exact h
  refine ⟨hcpos,fun a t ha hl => ?_⟩
  have h0' : rungOf r ≠ 0 := by rw [hr63]; omega
  have hf' : rungOf r < INF := by rw [hr63]; exact hr
  obtain ⟨r1,r2⟩ := take_digits (x := r) h0' hf' (c := c) (j := j) (by rw [hr63]; exact key) ha hl
  obtain ⟨_,_,_,_,hn⟩ := dF_facts (x := r) h0' hf'
  rw [hr63] at r2
  refine ⟨r1,?_⟩
  rw [r1,← hn]
  unfold pF at r2
  omega
end Go.Proofs.YtalaajniammggaaGreatDoor
