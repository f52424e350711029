/- Reading: the library's unrounded scaling the other way. -/
import Derived.Test.YtalaajniammggaaGreatDoorXXd
namespace Go.Proofs.YtalaajniammggaaGreatDoor
open Go.RowKit
def rangeV : Value := .iface 153 (.int .i64 1)
set_option maxRecDepth 100000 in
theorem pack_any (m : Nat) (e : Int) (hm : m < 18446744073709551616) (he1 : -3000 ≤ e) (he2 : e ≤ 3000) : ∃ f err,(err = .nilIface ∨ err = rangeV) ∧ ∀ w,Calls Tryz.prog 193 #[.int .u64 m,.int .i64 e] w fun e w' => e = .returned (.tuple #[.float .f64 f,err]) ∧ w' = w := by
 have c153 := call153
 obtain ⟨a,ha⟩ : ∃ a : Nat,bits .and .u64 (m : Int) 4503599627370496 = (a : Int) := ⟨_,u64_and_nat m 4503599627370496 hm (by omega)⟩
 by_cases h0 : a = 0
 ·refine ⟨m,.nilIface,.inl rfl,fun w => ?_⟩
  subst h0
  go_enter Tryz.func193,Tryz.ntmps193
  go_wp2
  go_ret2
  exact ⟨rfl,rfl⟩
 ·have d0 : ((a : Int) == 0) = false := by simp; omega
  by_cases h9 : 972 ≤ e
  ·have hb : bits .and .u64 (m : Int) 9223372036854775808 = ((m &&& 9223372036854775808 : Nat) : Int) := u64_and_nat m 9223372036854775808 hm (by omega)
   have bb : m &&& 9223372036854775808 < 18446744073709551616 := Nat.lt_of_le_of_lt Nat.and_le_left hm
   generalize m &&& 9223372036854775808 = b at *
   have hc : bits .or .u64 (b : Int) 9218868437227405312 = ((b ||| 9218868437227405312 : Nat) : Int) := u64_or_nat b 9218868437227405312 bb (by omega)
   generalize b ||| 9218868437227405312 = c at *
   refine ⟨c,rangeV,.inr rfl,fun w => ?_⟩
   go_enter Tryz.func193,Tryz.ntmps193
   go_wp2
   go_ret2
   exact ⟨rfl,rfl⟩
  ·have d9 : decide (972 ≤ e) = false := by simp; omega
   have d9' : e < 972 := by omega
   obtain ⟨x,hx⟩ : ∃ x : Int,bits .andNot .u64 (m : Int) 4503599627370496 = x := ⟨_,rfl⟩
   obtain ⟨y,hy⟩ : ∃ y : Int,IntKind.u64.wrap (IntKind.u64.wrap (1075 + e) * 4503599627370496) = y := ⟨_,rfl⟩
   obtain ⟨z,hz⟩ : ∃ z : Int,bits .or .u64 x y = z := ⟨_,rfl⟩
   refine ⟨z.toNat,.nilIface,.inl rfl,fun w => ?_⟩
   go_enter Tryz.func193,Tryz.ntmps193
   go_wp2
   go_ret2
   exact ⟨rfl,rfl⟩
theorem bit52 (i : Nat) : (4503599627370496 : Nat).testBit i = decide (52 = i) := by
 rw [show (4503599627370496 : Nat) = 2 ^ 52 from rfl,Nat.testBit_two_pow]
theorem and_bit52 (n : Nat) : n &&& 4503599627370496 = if n / 4503599627370496 % 2 = 1 then 4503599627370496 else 0 := by
 apply Nat.eq_of_testBit_eq
 intro i
 rw [Nat.testBit_and,bit52]
 have h52 : n.testBit 52 = decide (n / 4503599627370496 % 2 = 1) := by rw [Nat.testBit_eq_decide_div_mod_eq]
 by_cases hb : n / 4503599627370496 % 2 = 1
 ·rw [if_pos hb,bit52]
  by_cases hi : 52 = i
  ·subst hi; rw [h52]; simp [hb]
  ·simp [hi]
 ·rw [if_neg hb,Nat.zero_testBit]
  by_cases hi : 52 = i
  ·subst hi; rw [h52]; simp [hb]
  ·simp [hi]
theorem clear52 (n : Nat) (hn : n < 18446744073709551616) (h : n / 4503599627370496 % 2 = 1) : n &&& (18446744073709551615 - 4503599627370496) = n - 4503599627370496 := by
 obtain ⟨a,c,hc,hnc⟩ : ∃ a c,c < 4503599627370496 ∧ n = 9007199254740992 * a + (4503599627370496 * 1 + c) := ⟨n / 9007199254740992,n % 4503599627370496,by omega,by omega⟩
 have e : n - 4503599627370496 = 9007199254740992 * a + c := by omega
 rw [e]
 apply Nat.eq_of_testBit_eq
 intro j
 have hmask : (18446744073709551615 - 4503599627370496 : Nat).testBit j = (decide (j < 64) && !decide (52 = j)) := by
  rw [← bit52]
  exact Nat.testBit_two_pow_sub_succ (n := 64) (x := 4503599627370496) (by decide) j
 rw [Nat.testBit_and,hmask]
 have t1 : (9007199254740992 * a + c).testBit j = if j < 53 then c.testBit j else a.testBit (j - 53) := Nat.testBit_two_pow_mul_add (i := 53) a (by show c < 9007199254740992; omega) j
 have t2 : n.testBit j = if j < 53 then (4503599627370496 * 1 + c).testBit j else a.testBit (j - 53) := by
  rw [hnc]
  exact Nat.testBit_two_pow_mul_add (i := 53) a (by show _ < 9007199254740992; omega) j
 have t3 : (4503599627370496 * 1 + c).testBit j = if j < 52 then c.testBit j else (1 : Nat).testBit (j - 52) := Nat.testBit_two_pow_mul_add (i := 52) 1 (by show c < 4503599627370496; omega) j
 rw [t1]
 by_cases h1 : j < 52
 ·rw [t2,if_pos (by omega),t3,if_pos h1,if_pos (by omega),decide_eq_true (by omega : j < 64),decide_eq_false (by omega : ¬ 52 = j)]
  simp
 ·by_cases h2 : j = 52
  ·subst h2
   rw [if_pos (by omega),decide_eq_true (rfl : 52 = 52)]
   have : c.testBit 52 = false := Nat.testBit_lt_two_pow (by show c < 4503599627370496; omega)
   simp [this]
  ·rw [if_neg (by omega),decide_eq_false (by omega : ¬ 52 = j)]
   by_cases h3 : j < 64
   ·rw [t2,if_neg (by omega),decide_eq_true h3]; simp
   ·have h4 : n.testBit j = false := Nat.testBit_lt_two_pow (Nat.lt_of_lt_of_le hn (by
     have : (2 : Nat) ^ 64 ≤ 2 ^ j := Nat.pow_le_pow_right (by decide) (by omega)
     exact this))
    have h5 := h4
    rw [t2,if_neg (by omega)] at h5
    rw [h4,h5]
    simp
set_option maxRecDepth 100000 in
theorem pack_right (sg mant : Nat) (k : Int) (hsg : sg = 0 ∨ sg = 9223372036854775808) (h : Flo mant k) (w : World) :
  Calls Tryz.prog 193 #[.int .u64 (sg + mant : Nat),.int .i64 k] w fun e w' => e = .returned (.tuple #[.float .f64 (sg + ((k + 1074).toNat * 4503599627370496 + mant)),.nilIface]) ∧ w' = w := by
 have c153 := call153
 have h1 := h.top
 have h2 := h.lo
 have h3 := h.hi
 have ha : bits .and .u64 ((sg + mant : Nat) : Int) 4503599627370496 = (((sg + mant) &&& 4503599627370496 : Nat) : Int) := u64_and_nat (sg + mant) 4503599627370496 (by omega) (by omega)
 rw [and_bit52] at ha
 by_cases hs : mant < 4503599627370496
 ·have hk : k = -1074 := by rcases h.norm with hn | hn <;> omega
  rw [if_neg (by omega)] at ha
  subst hk
  rw [show ((-1074 : Int) + 1074).toNat * 4503599627370496 + mant = mant by simp]
  obtain ⟨m,hm⟩ : ∃ m,Hid (sg + mant = m) := ⟨_,rfl⟩
  rw [hm.out] at ha ⊢
  go_enter Tryz.func193,Tryz.ntmps193
  go_wp2
  go_ret2
  exact ⟨rfl,rfl⟩
 ·rw [if_pos (by omega)] at ha
  have d9 : decide (972 ≤ k) = false := by simp; omega
  have d9' : k < 972 := by omega
  have hx : bits .andNot .u64 ((sg + mant : Nat) : Int) 4503599627370496 = ((sg + mant - 4503599627370496 : Nat) : Int) := by
   have := u64_andNot_nat (sg + mant) 4503599627370496 (by omega) (by omega)
   rw [clear52 _ (by omega) (by omega)] at this
   exact this
  obtain ⟨K,hK⟩ : ∃ K : Nat,Hid (K = (1075 + k).toNat) := ⟨_,rfl⟩
  have hKb : 1 ≤ K ∧ K ≤ 2046 := by have := hK.out; omega
  have hy0 : IntKind.u64.wrap (1075 + k) = (K : Int) := by rw [wrap_u64]; have := hK.out; omega
  have hy : IntKind.u64.wrap ((K : Int) * 4503599627370496) = ((K * 4503599627370496 : Nat) : Int) := by rw [wrap_u64]; omega
  have hz : bits .or .u64 ((sg + mant - 4503599627370496 : Nat) : Int) ((K * 4503599627370496 : Nat) : Int) = ((sg + ((k + 1074).toNat * 4503599627370496 + mant) : Nat) : Int) := by
   rw [u64_or_nat _ _ (by omega) (by omega)]
   congr 1
   have o1 := Nat.two_pow_add_eq_or_of_lt (i := 52) (b := mant - 4503599627370496) (by show _ < 4503599627370496; omega) K
   rw [show (2 : Nat) ^ 52 = 4503599627370496 from rfl] at o1
   rcases hsg with rfl | rfl
   ·rw [Nat.zero_add,Nat.zero_add,Nat.or_comm,Nat.mul_comm K,← o1]
    have := hK.out
    omega
   ·have o2 := Nat.two_pow_add_eq_or_of_lt (i := 63) (b := mant - 4503599627370496) (by show _ < 9223372036854775808; omega) 1
    have o3 := Nat.two_pow_add_eq_or_of_lt (i := 63) (b := 4503599627370496 * K + (mant - 4503599627370496)) (by show _ < 9223372036854775808; omega) 1
    rw [show (2 : Nat) ^ 63 = 9223372036854775808 from rfl,Nat.mul_one] at o2 o3
    rw [show 9223372036854775808 + mant - 4503599627370496 = 9223372036854775808 + (mant - 4503599627370496) by omega,o2,Nat.or_assoc,Nat.mul_comm K,Nat.or_comm (mant - 4503599627370496),← o1,← o3]
    have := hK.out
    omega
  obtain ⟨R,hR⟩ : ∃ m,Hid (sg + ((k + 1074).toNat * 4503599627370496 + mant) = m) := ⟨_,rfl⟩
  rw [hR.out] at hz ⊢
  obtain ⟨m,hm⟩ : ∃ m,Hid (sg + mant = m) := ⟨_,rfl⟩
  rw [hm.out] at ha hx hz ⊢
  obtain ⟨x,hxx⟩ : ∃ x,Hid (m - 4503599627370496 = x) := ⟨_,rfl⟩
  obtain ⟨y,hyy⟩ : ∃ x,Hid (K * 4503599627370496 = x) := ⟨_,rfl⟩
  rw [hxx.out] at hx hz
  rw [hyy.out] at hy hz
  have mb : m < 18446744073709551616 := by have := hm.out; omega
  clear hsg h hK hR hm hxx hyy
  go_enter Tryz.func193,Tryz.ntmps193
  go_wp2
  go_ret2
  exact ⟨rfl,rfl⟩
end Go.Proofs.YtalaajniammggaaGreatDoor

/- Reading by unrounded scaling. -/
namespace Go.Proofs.YtalaajniammggaaGreatDoor
open Go.RowKit
theorem unmin_53 (w : World) : Calls Tryz.prog 162 #[.int .u64 9007199254740992] w fun e w' => e = .returned (.int .u64 36028797018963966) ∧ w' = w := by
 go_enter Tryz.func162,Tryz.ntmps162
 go_wp2
 go_ret
 exact ⟨rfl,rfl⟩
theorem bits64 {d : Nat} (h1 : 1 ≤ d) (h2 : d < 18446744073709551616) : 1 ≤ bitsD d ∧ bitsD d ≤ 64 ∧ 9223372036854775808 ≤ d * 2 ^ (64 - bitsD d) ∧ d * 2 ^ (64 - bitsD d) < 18446744073709551616 := by
 have a : d.log2 < 64 := (Nat.log2_lt (by omega)).2 (by omega)
 have b := Nat.log2_self_le (n := d) (by omega)
 have c := Nat.lt_log2_self (n := d)
 unfold bitsD
 refine ⟨by omega,by omega,?_,?_⟩
 ·have := Nat.mul_le_mul_right (2 ^ (64 - (d.log2 + 1))) b
  rw [← Nat.pow_add,show d.log2 + (64 - (d.log2 + 1)) = 63 by omega] at this
  exact this
 ·have := Nat.mul_lt_mul_of_pos_right c (two_pos (64 - (d.log2 + 1)))
  rw [← Nat.pow_add,show d.log2 + 1 + (64 - (d.log2 + 1)) = 64 by omega] at this
  exact this
def uRd (d : Nat) (i : Nat) (r : Nat × Nat) : Nat := uc (d * 2 ^ (64 - bitsD d)) r.1 r.2 (sRd d i).toNat
def halfU (u : Nat) : Nat := if u % 2 = 1 then u / 2 / 2 * 2 + 1 else u / 2
set_option maxRecDepth 100000 in
set_option maxHeartbeats 2000000 in
theorem pf_zero (d i sg : Nat) (p : Int) (r : Nat × Nat) (hr : Pinned.pow10Rows[i]? = some r) (hd1 : 1 ≤ d) (hd2 : d < 18446744073709551616) (hp : p = (i : Int) - 348) (hp1 : -345 ≤ p) (hp2 : p ≤ 310) (hsg : sg < 18446744073709551616) (hS64 : 64 ≤ sRd d i) (w : World) (R : Rowz w) :
  Calls Tryz.prog 187 #[.int .u64 d,.int .i64 p,.int .u64 sg] w fun e w' => e = .returned (.tuple #[.float .f64 sg,.nilIface]) ∧ Below w.heap.size w w' := by
 obtain ⟨b1,b2,b3,b4⟩ := bits64 hd1 hd2
 have RF := row_facts hr
 have hL := fun W => Tryz.bits_Len64 (d : Int) W (by omega) (by omega)
 rw [Int.toNat_natCast,bitLen_eq hd1 hd2] at hL
 obtain ⟨bl,hbl⟩ : ∃ b,Hid (d.log2 + 1 = b) := ⟨_,rfl⟩
 have ebl : bitsD d = bl := hbl.out
 rw [hbl.out] at hL
 rw [ebl] at b1 b2 b3 b4
 obtain ⟨lp,hlp⟩ : ∃ x : Int,Hid (lpOf i = x) := ⟨_,rfl⟩
 have elp : p * 108853 / 32768 = lp := by rw [hp,← hlp.out,RF.lp]
 have lb : -1150 ≤ lp ∧ lp ≤ 1040 := by omega
 have L2 := fun W => log2_any p W (by omega) (by omega)
 rw [elp] at L2
 obtain ⟨e,he⟩ : ∃ x : Int,Hid (eOf d i = x) := ⟨_,rfl⟩
 have eme : min 1074 (53 - (bl : Int) - lp) = e := by rw [← he.out]; unfold eOf; rw [ebl,hlp.out]
 have eb : -1100 ≤ e ∧ e ≤ 1074 ∧ e ≤ 53 - (bl : Int) - lp := by omega
 obtain ⟨S,hS⟩ : ∃ x : Nat,Hid ((sRd d i).toNat = x) := ⟨_,rfl⟩
 have eS : (S : Int) = -((e - (64 - (bl : Int))) + lp + 3) := by
  rw [← hS.out]; unfold sRd; rw [ebl,hlp.out,he.out]; omega
 have S8 : 8 ≤ S := by omega
 obtain ⟨sh,hsh⟩ : ∃ x : Nat,Hid (64 - bl = x) := ⟨_,rfl⟩
 have esh : 64 - (bl : Int) = (sh : Int) := by have := hsh.out; omega
 obtain ⟨x,hx⟩ : ∃ x : Nat,Hid (d * 2 ^ sh = x) := ⟨_,rfl⟩
 rw [hsh.out,hx.out] at b3 b4
 have exs : IntKind.u64.wrap ((d : Int) * 2 ^ sh) = (x : Int) := by
  have : ((d : Int) * 2 ^ sh) = (x : Int) := by rw [← hx.out]; push_cast; rfl
  rw [this,wrap_u64]; omega
 have shb : sh ≤ 63 := by have := hsh.out; omega
 have i696 : i < 696 := by omega
 rw [esh] at eS
 have SC := fun W (RW : Rowz W) => scaler_any W RW i i696 (e - (sh : Int)) p lp S hp (by omega) (by omega) (by omega) (by omega) eS
 have eu : uRd d i r = uc x r.1 r.2 S := by unfold uRd; rw [ebl,hsh.out,hx.out,hS.out]
 have hRR := Lib.hid R
 have Sb : (S : Int) ≤ 2500 := by omega
 have UM := unmin_53
 have lb1 := lb.1
 have lb2 := lb.2
 have eb1 := eb.1
 have eb2 := eb.2.1
 have S64 : (64 : Int) ≤ (S : Int) := by have := hS.out; omega
 have hor : bits .or .u64 (sg : Int) 0 = (sg : Int) := or_u64_0 sg hsg
 have c153 := call153
 clear RF hd1 hd2 hp hp1 hp2 hbl hlp elp he hS eS S8 hsh hx i696 ebl
 go_enter Tryz.func187,Tryz.ntmps187
 go_wp2_with fail
 refine (hL _).mono ?_
 rintro e' w1 ⟨rfl,rfl⟩
 go_wp2_with fail
 refine (L2 _).mono ?_
 rintro e' w2 ⟨rfl,rfl⟩
 go_wp2_with fail
 obtain ⟨W,r',hr',bW,c0,c1,c2,hP⟩ := SC w2 hRR.out
 obtain rfl : r = r' := Option.some.inj (hr.symm.trans hr')
 refine hP.mono ?_
 rintro e' w3 ⟨rfl,rfl⟩
 clear hP L2 SC hRR hL
 go_wp2_with fail
 go_ret2
 exact ⟨rfl,bW⟩
set_option maxRecDepth 100000 in
set_option maxHeartbeats 2000000 in
theorem pf_low (d i sg : Nat) (p : Int) (r : Nat × Nat) (hr : Pinned.pow10Rows[i]? = some r) (hd1 : 1 ≤ d) (hd2 : d < 18446744073709551616) (hp : p = (i : Int) - 348) (hp1 : -345 ≤ p) (hp2 : p ≤ 310) (hsg : sg < 18446744073709551616) (hS64 : sRd d i < 64) (hlow : uRd d i r < 36028797018963966) (f : Nat) (err : Value) (HP : ∀ w,Calls Tryz.prog 193 #[.int .u64 (sg ||| rndU (uRd d i r) : Nat),.int .i64 (-(eOf d i))] w fun e w' => e = .returned (.tuple #[.float .f64 f,err]) ∧ w' = w) (w : World) (R : Rowz w) :
  Calls Tryz.prog 187 #[.int .u64 d,.int .i64 p,.int .u64 sg] w fun e w' => e = .returned (.tuple #[.float .f64 f,err]) ∧ Below w.heap.size w w' := by
 obtain ⟨b1,b2,b3,b4⟩ := bits64 hd1 hd2
 have RF := row_facts hr
 have hL := fun W => Tryz.bits_Len64 (d : Int) W (by omega) (by omega)
 rw [Int.toNat_natCast,bitLen_eq hd1 hd2] at hL
 obtain ⟨bl,hbl⟩ : ∃ b,Hid (d.log2 + 1 = b) := ⟨_,rfl⟩
 have ebl : bitsD d = bl := hbl.out
 rw [hbl.out] at hL
 rw [ebl] at b1 b2 b3 b4
 obtain ⟨lp,hlp⟩ : ∃ x : Int,Hid (lpOf i = x) := ⟨_,rfl⟩
 have elp : p * 108853 / 32768 = lp := by rw [hp,← hlp.out,RF.lp]
 have lb : -1150 ≤ lp ∧ lp ≤ 1040 := by omega
 have L2 := fun W => log2_any p W (by omega) (by omega)
 rw [elp] at L2
 obtain ⟨e,he⟩ : ∃ x : Int,Hid (eOf d i = x) := ⟨_,rfl⟩
 have eme : min 1074 (53 - (bl : Int) - lp) = e := by rw [← he.out]; unfold eOf; rw [ebl,hlp.out]
 have eb : -1100 ≤ e ∧ e ≤ 1074 ∧ e ≤ 53 - (bl : Int) - lp := by omega
 obtain ⟨S,hS⟩ : ∃ x : Nat,Hid ((sRd d i).toNat = x) := ⟨_,rfl⟩
 have eS : (S : Int) = -((e - (64 - (bl : Int))) + lp + 3) := by
  rw [← hS.out]; unfold sRd; rw [ebl,hlp.out,he.out]; omega
 have S8 : 8 ≤ S := by omega
 obtain ⟨sh,hsh⟩ : ∃ x : Nat,Hid (64 - bl = x) := ⟨_,rfl⟩
 have esh : 64 - (bl : Int) = (sh : Int) := by have := hsh.out; omega
 obtain ⟨x,hx⟩ : ∃ x : Nat,Hid (d * 2 ^ sh = x) := ⟨_,rfl⟩
 rw [hsh.out,hx.out] at b3 b4
 have exs : IntKind.u64.wrap ((d : Int) * 2 ^ sh) = (x : Int) := by
  have : ((d : Int) * 2 ^ sh) = (x : Int) := by rw [← hx.out]; push_cast; rfl
  rw [this,wrap_u64]; omega
 have shb : sh ≤ 63 := by have := hsh.out; omega
 have i696 : i < 696 := by omega
 rw [esh] at eS
 have SC := fun W (RW : Rowz W) => scaler_any W RW i i696 (e - (sh : Int)) p lp S hp (by omega) (by omega) (by omega) (by omega) eS
 have eu : uRd d i r = uc x r.1 r.2 S := by unfold uRd; rw [ebl,hsh.out,hx.out,hS.out]
 have hRR := Lib.hid R
 have Sb : (S : Int) ≤ 2500 := by omega
 have UM := unmin_53
 have lb1 := lb.1
 have lb2 := lb.2
 have eb1 := eb.1
 have eb2 := eb.2.1
 have S64 : decide ((64 : Int) ≤ (S : Int)) = false := by have := hS.out; simp; omega
 have S64' : (S : Int) < 64 := by have := hS.out; omega
 have US := fun q W c0 c1 c2 => uscale_any q x r.1 r.2 S W b4 RF.hi RF.lo (by omega) (by
  have : 9223372036854775808 * 9223372036854775808 ≤ x * r.1 := Nat.mul_le_mul b3 RF.top
  omega) c0 c1 c2
 have ulb := uc_lt x r.1 r.2 S b4 RF.hi (by omega)
 rw [← eu] at US ulb
 obtain ⟨u,hu⟩ : ∃ x,Hid (uRd d i r = x) := ⟨_,rfl⟩
 rw [hu.out] at US ulb hlow HP
 have a1 : bits .and .u64 (u : Int) 1 = ((u % 2 : Nat) : Int) := by
  have := u64_and_nat u 1 (by omega) (by omega)
  rw [Nat.and_one_is_mod] at this
  exact this
 obtain ⟨o,ho⟩ : ∃ x,Hid (u % 2 = x) := ⟨_,rfl⟩
 rw [ho.out] at a1
 have hcmp : decide ((36028797018963966 : Int) ≤ (u : Int)) = false := by simp; omega
 have hcmp' : (u : Int) < 36028797018963966 := by omega
 have B2 := fun W => Tryz.internal_strconv_bool2_int false W
 have o1 : bits .or .u64 (u : Int) (o : Int) = (u : Int) := by
  rw [u64_or_nat u o (by omega) (by have := ho.out; omega)]
  congr 1
  have := ho.out
  rcases Nat.mod_two_eq_zero_or_one u with h | h
  ·rw [show o = 0 by omega]; simp
  ·rw [show o = 1 by omega,or_one]; omega
 have RX := fun W => round_any u W (by omega)
 obtain ⟨rn',hrn⟩ : ∃ x,Hid (rndU u = x) := ⟨_,rfl⟩
 rw [hrn.out] at RX HP
 have rnb : rn' < 18446744073709551616 := by rw [← hrn.out]; unfold rndU; omega
 have o2 : bits .or .u64 (sg : Int) (rn' : Int) = ((sg ||| rn' : Nat) : Int) := u64_or_nat sg rn' hsg rnb
 obtain ⟨M,hM⟩ : ∃ x,Hid (sg ||| rn' = x) := ⟨_,rfl⟩
 rw [hM.out] at o2 HP
 rw [he.out] at HP
 have B2' : ∀ W,Calls Tryz.prog 100 #[.bool false] W fun e w' => e = .returned (.int .i64 0) ∧ w' = W := B2
 clear B2 eu hu ho hrn hM hlow
 clear RF hS64 hd1 hd2 hp hp1 hp2 hbl hlp elp he hS eS S8 hsh hx i696 ebl
 go_enter Tryz.func187,Tryz.ntmps187
 go_wp2_with fail
 refine (hL _).mono ?_
 rintro e' w1 ⟨rfl,rfl⟩
 go_wp2_with fail
 refine (L2 _).mono ?_
 rintro e' w2 ⟨rfl,rfl⟩
 go_wp2_with fail
 obtain ⟨W,r',hr',bW,c0,c1,c2,hP⟩ := SC w2 hRR.out
 obtain rfl : r = r' := Option.some.inj (hr.symm.trans hr')
 refine hP.mono ?_
 rintro e' w3 ⟨rfl,rfl⟩
 clear hP L2 SC hRR hL
 go_wp2_with fail
 refine (US _ w3 c0 c1 c2).mono ?_
 rintro e' w4 ⟨rfl,n1,rfl⟩
 have b4' : Below w2.heap.size w2 (w3.drewN n1) := below_drewN bW n1
 obtain ⟨W4,hW4⟩ : ∃ W,Hid (W = w3.drewN n1) := ⟨_,rfl⟩
 rw [← hW4.out] at b4' ⊢
 clear hW4 US c0 c1 c2 bW
 go_wp2_with fail
 refine (UM _).mono ?_
 rintro e' w5 ⟨rfl,rfl⟩
 go_wp2_with fail
 refine (B2' _).mono ?_
 rintro e' w6 ⟨rfl,rfl⟩
 go_wp2_with fail
 refine (RX _).mono ?_
 rintro e' w7 ⟨rfl,rfl⟩
 go_wp2_with fail
 refine (HP _).mono ?_
 rintro e' w8 ⟨rfl,rfl⟩
 go_wp2_with fail
 go_ret2
 exact ⟨rfl,b4'⟩
set_option maxRecDepth 100000 in
set_option maxHeartbeats 2000000 in
theorem pf_high (d i sg : Nat) (p : Int) (r : Nat × Nat) (hr : Pinned.pow10Rows[i]? = some r) (hd1 : 1 ≤ d) (hd2 : d < 18446744073709551616) (hp : p = (i : Int) - 348) (hp1 : -345 ≤ p) (hp2 : p ≤ 310) (hsg : sg < 18446744073709551616) (hS64 : sRd d i < 64) (hlow : 36028797018963966 ≤ uRd d i r) (f : Nat) (err : Value) (HP : ∀ w,Calls Tryz.prog 193 #[.int .u64 (sg ||| rndU (halfU (uRd d i r)) : Nat),.int .i64 (-(eOf d i - 1))] w fun e w' => e = .returned (.tuple #[.float .f64 f,err]) ∧ w' = w) (w : World) (R : Rowz w) :
  Calls Tryz.prog 187 #[.int .u64 d,.int .i64 p,.int .u64 sg] w fun e w' => e = .returned (.tuple #[.float .f64 f,err]) ∧ Below w.heap.size w w' := by
 obtain ⟨b1,b2,b3,b4⟩ := bits64 hd1 hd2
 have RF := row_facts hr
 have hL := fun W => Tryz.bits_Len64 (d : Int) W (by omega) (by omega)
 rw [Int.toNat_natCast,bitLen_eq hd1 hd2] at hL
 obtain ⟨bl,hbl⟩ : ∃ b,Hid (d.log2 + 1 = b) := ⟨_,rfl⟩
 have ebl : bitsD d = bl := hbl.out
 rw [hbl.out] at hL
 rw [ebl] at b1 b2 b3 b4
 obtain ⟨lp,hlp⟩ : ∃ x : Int,Hid (lpOf i = x) := ⟨_,rfl⟩
 have elp : p * 108853 / 32768 = lp := by rw [hp,← hlp.out,RF.lp]
 have lb : -1150 ≤ lp ∧ lp ≤ 1040 := by omega
 have L2 := fun W => log2_any p W (by omega) (by omega)
 rw [elp] at L2
 obtain ⟨e,he⟩ : ∃ x : Int,Hid (eOf d i = x) := ⟨_,rfl⟩
 have eme : min 1074 (53 - (bl : Int) - lp) = e := by rw [← he.out]; unfold eOf; rw [ebl,hlp.out]
 have eb : -1100 ≤ e ∧ e ≤ 1074 ∧ e ≤ 53 - (bl : Int) - lp := by omega
 obtain ⟨S,hS⟩ : ∃ x : Nat,Hid ((sRd d i).toNat = x) := ⟨_,rfl⟩
 have eS : (S : Int) = -((e - (64 - (bl : Int))) + lp + 3) := by
  rw [← hS.out]; unfold sRd; rw [ebl,hlp.out,he.out]; omega
 have S8 : 8 ≤ S := by omega
 obtain ⟨sh,hsh⟩ : ∃ x : Nat,Hid (64 - bl = x) := ⟨_,rfl⟩
 have esh : 64 - (bl : Int) = (sh : Int) := by have := hsh.out; omega
 obtain ⟨x,hx⟩ : ∃ x : Nat,Hid (d * 2 ^ sh = x) := ⟨_,rfl⟩
 rw [hsh.out,hx.out] at b3 b4
 have exs : IntKind.u64.wrap ((d : Int) * 2 ^ sh) = (x : Int) := by
  have : ((d : Int) * 2 ^ sh) = (x : Int) := by rw [← hx.out]; push_cast; rfl
  rw [this,wrap_u64]; omega
 have shb : sh ≤ 63 := by have := hsh.out; omega
 have i696 : i < 696 := by omega
 rw [esh] at eS
 have SC := fun W (RW : Rowz W) => scaler_any W RW i i696 (e - (sh : Int)) p lp S hp (by omega) (by omega) (by omega) (by omega) eS
 have eu : uRd d i r = uc x r.1 r.2 S := by unfold uRd; rw [ebl,hsh.out,hx.out,hS.out]
 have hRR := Lib.hid R
 have Sb : (S : Int) ≤ 2500 := by omega
 have UM := unmin_53
 have lb1 := lb.1
 have lb2 := lb.2
 have eb1 := eb.1
 have eb2 := eb.2.1
 have S64 : decide ((64 : Int) ≤ (S : Int)) = false := by have := hS.out; simp; omega
 have S64' : (S : Int) < 64 := by have := hS.out; omega
 have US := fun q W c0 c1 c2 => uscale_any q x r.1 r.2 S W b4 RF.hi RF.lo (by omega) (by
  have : 9223372036854775808 * 9223372036854775808 ≤ x * r.1 := Nat.mul_le_mul b3 RF.top
  omega) c0 c1 c2
 have ulb := uc_lt x r.1 r.2 S b4 RF.hi (by omega)
 rw [← eu] at US ulb
 obtain ⟨u,hu⟩ : ∃ x,Hid (uRd d i r = x) := ⟨_,rfl⟩
 rw [hu.out] at US ulb hlow HP
 have a1 : bits .and .u64 (u : Int) 1 = ((u % 2 : Nat) : Int) := by
  have := u64_and_nat u 1 (by omega) (by omega)
  rw [Nat.and_one_is_mod] at this
  exact this
 obtain ⟨o,ho⟩ : ∃ x,Hid (u % 2 = x) := ⟨_,rfl⟩
 rw [ho.out] at a1
 have hcmp : (36028797018963966 : Int) ≤ (u : Int) := by omega
 have B2 := fun W => Tryz.internal_strconv_bool2_int true W
 obtain ⟨hf,hhf⟩ : ∃ x,Hid (u / 2 = x) := ⟨_,rfl⟩
 have ehf : (u : Int) / 2 = (hf : Int) := by have := hhf.out; omega
 obtain ⟨u2,hu2⟩ : ∃ x,Hid (halfU u = x) := ⟨_,rfl⟩
 have o1 : bits .or .u64 (hf : Int) (o : Int) = (u2 : Int) := by
  rw [u64_or_nat hf o (by have := hhf.out; omega) (by have := ho.out; omega),← hu2.out]
  congr 1
  have h1 := ho.out
  have h2 := hhf.out
  unfold halfU
  rcases Nat.mod_two_eq_zero_or_one u with h | h
  ·rw [if_neg (by omega),h2,show o = 0 by omega]; simp
  ·rw [if_pos h,h2,show o = 1 by omega,or_one]
 rw [hu2.out] at HP
 have u2b : u2 < 1152921504606846976 := by rw [← hu2.out]; unfold halfU; split <;> omega
 have RX := fun W => round_any u2 W (by omega)
 obtain ⟨rn',hrn⟩ : ∃ x,Hid (rndU u2 = x) := ⟨_,rfl⟩
 rw [hrn.out] at RX HP
 have rnb : rn' < 18446744073709551616 := by rw [← hrn.out]; unfold rndU; omega
 have o2 : bits .or .u64 (sg : Int) (rn' : Int) = ((sg ||| rn' : Nat) : Int) := u64_or_nat sg rn' hsg rnb
 obtain ⟨M,hM⟩ : ∃ x,Hid (sg ||| rn' = x) := ⟨_,rfl⟩
 rw [hM.out] at o2 HP
 rw [he.out] at HP
 have B2' : ∀ W,Calls Tryz.prog 100 #[.bool true] W fun e w' => e = .returned (.int .i64 1) ∧ w' = W := B2
 clear B2 eu hu ho hrn hM hlow hhf hu2
 clear RF hS64 hd1 hd2 hp hp1 hp2 hbl hlp elp he hS eS S8 hsh hx i696 ebl
 go_enter Tryz.func187,Tryz.ntmps187
 go_wp2_with fail
 refine (hL _).mono ?_
 rintro e' w1 ⟨rfl,rfl⟩
 go_wp2_with fail
 refine (L2 _).mono ?_
 rintro e' w2 ⟨rfl,rfl⟩
 go_wp2_with fail
 obtain ⟨W,r',hr',bW,c0,c1,c2,hP⟩ := SC w2 hRR.out
 obtain rfl : r = r' := Option.some.inj (hr.symm.trans hr')
 refine hP.mono ?_
 rintro e' w3 ⟨rfl,rfl⟩
 clear hP L2 SC hRR hL
 go_wp2_with fail
 refine (US _ w3 c0 c1 c2).mono ?_
 rintro e' w4 ⟨rfl,n1,rfl⟩
 have b4' : Below w2.heap.size w2 (w3.drewN n1) := below_drewN bW n1
 obtain ⟨W4,hW4⟩ : ∃ W,Hid (W = w3.drewN n1) := ⟨_,rfl⟩
 rw [← hW4.out] at b4' ⊢
 clear hW4 US c0 c1 c2 bW
 go_wp2_with fail
 refine (UM _).mono ?_
 rintro e' w5 ⟨rfl,rfl⟩
 go_wp2_with fail
 refine (B2' _).mono ?_
 rintro e' w6 ⟨rfl,rfl⟩
 go_wp2_with fail
 refine (RX _).mono ?_
 rintro e' w7 ⟨rfl,rfl⟩
 go_wp2_with fail
 refine (HP _).mono ?_
 rintro e' w8 ⟨rfl,rfl⟩
 go_wp2_with fail
 go_ret2
 exact ⟨rfl,b4'⟩
end Go.Proofs.YtalaajniammggaaGreatDoor

/- parseFloat64: it answers; and what was printed it reads as just that. -/
namespace Go.Proofs.YtalaajniammggaaGreatDoor
open Go.RowKit
theorem row_ex (i : Nat) (h : i < 696) : ∃ r,Pinned.pow10Rows[i]? = some r := by
 have : i < Pinned.pow10Rows.length := by rw [rows_len]; exact h
 exact ⟨_,List.getElem?_eq_getElem this⟩
theorem or_lt (a b : Nat) (ha : a < 18446744073709551616) (hb : b < 18446744073709551616) : a ||| b < 18446744073709551616 := Nat.or_lt_two_pow (n := 64) ha hb
theorem pf_any (d sg : Nat) (p : Int) (hd1 : 1 ≤ d) (hd2 : d < 18446744073709551616) (hp1 : -345 ≤ p) (hp2 : p ≤ 310) (hsg : sg < 18446744073709551616) :
  ∃ f err,(err = .nilIface ∨ err = rangeV) ∧ ∀ w,Rowz w → Calls Tryz.prog 187 #[.int .u64 d,.int .i64 p,.int .u64 sg] w fun e w' => e = .returned (.tuple #[.float .f64 f,err]) ∧ Below w.heap.size w w' := by
 obtain ⟨i,hi⟩ : ∃ i : Nat,p = (i : Int) - 348 := ⟨(p + 348).toNat,by omega⟩
 obtain ⟨r,hr⟩ := row_ex i (by omega)
 obtain ⟨b1,b2,b3,b4⟩ := bits64 hd1 hd2
 have RF := row_facts hr
 have lb : -1150 ≤ lpOf i ∧ lpOf i ≤ 1040 := by rw [RF.lp]; omega
 have eb : -1200 ≤ eOf d i ∧ eOf d i ≤ 1074 := by unfold eOf; omega
 by_cases hS : 64 ≤ sRd d i
 ·exact ⟨sg,.nilIface,.inl rfl,fun w R => pf_zero d i sg p r hr hd1 hd2 hi hp1 hp2 hsg hS w R⟩
 ·have S8 : 8 ≤ sRd d i := by unfold sRd eOf; omega
  have ub : uRd d i r < 1152921504606846976 := by unfold uRd; exact uc_lt _ _ _ _ b4 RF.hi (by omega)
  by_cases hu : uRd d i r < 36028797018963966
  ·obtain ⟨f,err,he,hP⟩ := pack_any (sg ||| rndU (uRd d i r)) (-(eOf d i)) (or_lt _ _ hsg (by unfold rndU; omega)) (by omega) (by omega)
   exact ⟨f,err,he,fun w R => pf_low d i sg p r hr hd1 hd2 hi hp1 hp2 hsg (by omega) hu f err hP w R⟩
  ·have hb : halfU (uRd d i r) < 1152921504606846976 := by unfold halfU; split <;> omega
   obtain ⟨f,err,he,hP⟩ := pack_any (sg ||| rndU (halfU (uRd d i r))) (-(eOf d i - 1)) (or_lt _ _ hsg (by unfold rndU; omega)) (by omega) (by omega)
   exact ⟨f,err,he,fun w R => pf_high d i sg p r hr hd1 hd2 hi hp1 hp2 hsg (by omega) (by omega) f err hP w R⟩
theorem or_sign (sg m : Nat) (hsg : sg = 0 ∨ sg = 9223372036854775808) (hm : m < 9223372036854775808) : sg ||| m = sg + m := by
 rcases hsg with rfl | rfl
 ·simp
 ·have := Nat.two_pow_add_eq_or_of_lt (i := 63) (b := m) hm 1
  rw [show (2 : Nat) ^ 63 = 9223372036854775808 from rfl,Nat.mul_one] at this
  exact this.symm
theorem pf_right (d sg : Nat) (p : Int) (mant : Nat) (k : Int) (hF : Flo mant k) (hd1 : 1 ≤ d) (hd2 : d < 100000000000000000) (hp1 : -345 ≤ p) (hp2 : p ≤ 310) (hsg : sg = 0 ∨ sg = 9223372036854775808) (hR : Reads mant k (skewOf mant k) d p) (w : World) (R : Rowz w) :
  Calls Tryz.prog 187 #[.int .u64 d,.int .i64 p,.int .u64 sg] w fun e w' => e = .returned (.tuple #[.float .f64 (sg + ((k + 1074).toNat * 4503599627370496 + mant)),.nilIface]) ∧ Below w.heap.size w w' := by
 obtain ⟨i,hi⟩ : ∃ i : Nat,p = (i : Int) - 348 := ⟨(p + 348).toNat,by omega⟩
 have i696 : i < 696 := by omega
 obtain ⟨r,hr⟩ := row_ex i i696
 have hd3 : d < 18446744073709551616 := by omega
 obtain ⟨b1,b2,b3,b4⟩ := bits_facts hd1 hd2
 rw [hi] at hR
 obtain ⟨s8,s64,hc⟩ := parse_right hF hd1 hd2 i696 hR
 have hsg64 : sg < 18446744073709551616 := by rcases hsg with h | h <;> omega
 have eu : uRd d i r = unr (NRd d i) (DRd d i) := by
  unfold uRd NRd DRd
  refine uscale_right hr b4 (by omega) (.inr ⟨by omega,?_⟩)
  have e : 2 ^ (64 - bitsD d) = 128 * 2 ^ (57 - bitsD d) := by
   rw [show (128 : Nat) = 2 ^ 7 from rfl,← Nat.pow_add]; congr 1; omega
  rw [e,show d * (128 * 2 ^ (57 - bitsD d)) = 128 * (d * 2 ^ (57 - bitsD d)) by grind,Nat.mul_mod_right]
 have hDp : 0 < DRd d i := Nat.mul_pos (Td_pos i) (Nat.mul_pos (by decide) (two_pos _))
 have hm := hF.top
 rcases hc with ⟨h1,h2,h3⟩ | ⟨h1,h2,h3⟩
 ·refine pf_low d i sg p r hr hd1 hd3 hi hp1 hp2 hsg64 s64 (by rw [eu]; exact h1) _ _ ?_ w R
  intro W
  rw [eu,h2,h3,or_sign sg mant hsg (by omega),Int.neg_neg]
  exact pack_right sg mant k hsg hF W
 ·refine pf_high d i sg p r hr hd1 hd3 hi hp1 hp2 hsg64 s64 (by rw [eu]; exact h1) _ _ ?_ w R
  intro W
  have hh : halfU (uRd d i r) = unr (NRd d i) (DRd d i * 2) := by
   rw [eu,← unr_half _ _ hDp]
   rfl
  rw [hh,h2,h3,or_sign sg mant hsg (by omega),Int.neg_neg]
  exact pack_right sg mant k hsg hF W
end Go.Proofs.YtalaajniammggaaGreatDoor
