/- Unrounded scaling: the library's functions. -/
import Derived.Test.YtalaajniammggaaGreatDoorXWb
import Derived.Test.YtalaajniammggaaGreatDoorXUa
import Derived.Laws.BitsAllLaws
import Derived.BigQuiet
namespace Go.Proofs.YtalaajniammggaaGreatDoor
open Go.RowKit
theorem or_one (h : Nat) : h ||| 1 = h / 2 * 2 + 1 := by
 have h1 : (h ||| 1) / 2 = h / 2 := by rw [Nat.or_div_two]; simp
 have h2 : (h ||| 1) % 2 = 1 := by simp
 omega
theorem wrap_u64 (z : Int) : IntKind.u64.wrap z = z % 18446744073709551616 := by
 unfold IntKind.wrap
 rw [show IntKind.u64.signed = false from rfl]
 rfl
theorem and63 : ∀ s : Fin 64,bits .and .i64 ((s.val : Nat) : Int) 63 = ((s.val : Nat) : Int) := by decide +kernel
theorem or_u64 (h : Nat) (hb : h < 18446744073709551616) : bits .or .u64 (h : Int) 1 = ((h / 2 * 2 + 1 : Nat) : Int) := by
 rw [← or_one]
 exact u64_or_nat h 1 hb (by omega)
theorem or_u64_0 (h : Nat) (hb : h < 18446744073709551616) : bits .or .u64 (h : Int) 0 = (h : Int) := by
 have := u64_or_nat h 0 hb (by omega)
 simpa using this
theorem div_pow (H s : Nat) : (H : Int) / 2 ^ s = ((H / 2 ^ s : Nat) : Int) := by push_cast; rfl
set_option maxRecDepth 100000 in
set_option maxHeartbeats 1000000 in
theorem uscale_any (p x hi lo s : Nat) (w : World) (hx : x < 18446744073709551616) (hhi : hi < 18446744073709551616) (hlo : lo < 18446744073709551616) (hs : s < 64) (hH1 : 1 ≤ x * hi / 18446744073709551616)
  (h0 : w.cell? ⟨p,0,none⟩ = some (.int .u64 hi)) (h1 : w.cell? ⟨p,1,none⟩ = some (.int .u64 lo)) (h2 : w.cell? ⟨p,2,none⟩ = some (.int .i64 s)) :
  Calls Tryz.prog 157 #[.int .u64 x,.pointer (some ⟨p,0,none⟩)] w fun e w' => e = .returned (.int .u64 (uc x hi lo s : Nat)) ∧ ∃ n,w' = w.drewN n := by
 have hm1 := Tryz.bits_Mul64 x hi hx hhi
 have hm2 := Tryz.bits_Mul64 x lo hx hlo
 have hHb : x * hi / 18446744073709551616 < 18446744073709551616 := by
  have : x * hi ≤ 18446744073709551615 * 18446744073709551615 := Nat.mul_le_mul (by omega) (by omega)
  omega
 have hmb : x * hi % 18446744073709551616 < 18446744073709551616 := Nat.mod_lt _ (by decide)
 have hmb2 : x * lo / 18446744073709551616 ≤ 18446744073709551614 := by
  have : x * lo ≤ 18446744073709551615 * 18446744073709551615 := Nat.mul_le_mul (by omega) (by omega)
  omega
 have hb : bits .and .i64 (s : Int) 63 = s := and63 ⟨s,hs⟩
 obtain ⟨U,hU⟩ : ∃ U,Hid (uc x hi lo s = U) := ⟨_,rfl⟩
 have HU := hU.out
 unfold uc at HU
 rw [hU.out]
 obtain ⟨H,hH⟩ : ∃ H,Hid (x * hi / 18446744073709551616 = H) := ⟨_,rfl⟩
 obtain ⟨mid,hmid⟩ : ∃ H,Hid (x * hi % 18446744073709551616 = H) := ⟨_,rfl⟩
 obtain ⟨mid2,hmid2⟩ : ∃ H,Hid (x * lo / 18446744073709551616 = H) := ⟨_,rfl⟩
 obtain ⟨lo2,hlo2⟩ : ∃ H,Hid (x * lo % 18446744073709551616 = H) := ⟨_,rfl⟩
 rw [hH.out,hmid.out] at hm1
 rw [hmid2.out,hlo2.out] at hm2
 rw [hH.out] at hHb hH1
 rw [hmid.out] at hmb
 rw [hmid2.out] at hmb2
 rw [hH.out,hmid.out,hmid2.out] at HU
 clear hU hH hmid hmid2 hlo2
 have hPp : 0 < 2 ^ s := Nat.pow_pos (by decide)
 have hdm := Nat.div_add_mod H (2 ^ s)
 have hhb := Nat.div_le_self H (2 ^ s)
 obtain ⟨h,hh⟩ : ∃ h,Hid (H / 2 ^ s = h) := ⟨_,rfl⟩
 rw [hh.out] at hdm hhb
 have e1 : (H : Int) / 2 ^ s = (h : Int) := by rw [← hh.out]; push_cast; rfl
 obtain ⟨g,hg⟩ : ∃ g,Hid (h * 2 ^ s = g) := ⟨_,rfl⟩
 have hgb : g ≤ H := by rw [← hg.out,Nat.mul_comm]; omega
 have e2 : IntKind.u64.wrap ((h : Int) * 2 ^ s) = (g : Int) := by
  have : ((h : Int) * 2 ^ s) = (g : Int) := by rw [← hg.out]; push_cast; rfl
  rw [this,wrap_u64]; omega
 by_cases hr : H % 2 ^ s = 0
 ·have d1 : ((g : Int) == (H : Int)) = true := by
   have : g = H := by rw [← hg.out,Nat.mul_comm]; omega
   simp [this]
  rw [if_neg (by omega)] at HU
  by_cases hm : mid < mid2
  ·rw [if_pos hm] at HU
   have hlt : (mid : Int) < (mid2 : Int) := by omega
   obtain ⟨H1,hH1'⟩ : ∃ H1,Hid (H - 1 = H1) := ⟨_,rfl⟩
   have eH : (H : Int) - 1 = (H1 : Int) := by have := hH1'.out; omega
   obtain ⟨h1',hh1⟩ : ∃ H1',Hid (H1 / 2 ^ s = H1') := ⟨_,rfl⟩
   have e3 : (H1 : Int) / 2 ^ s = (h1' : Int) := by rw [div_pow,hh1.out]
   have hb1 : h1' < 18446744073709551616 := by have := Nat.div_le_self H1 (2 ^ s); have := hh1.out; have := hH1'.out; omega
   have o1 : bits .or .u64 (h1' : Int) 1 = (U : Int) := by
    rw [or_u64 h1' hb1,← HU,hH1'.out,hh1.out]
   obtain ⟨dm,hdm⟩ : ∃ dm : Nat,Hid (dm = mid + 18446744073709551616 - mid2) := ⟨_,rfl⟩
   have e4 : IntKind.u64.wrap ((mid : Int) - (mid2 : Int)) = (dm : Int) := by rw [wrap_u64]; have := hdm.out; omega
   have hdm2 : (1 : Int) < (dm : Int) := by have := hdm.out; omega
   have hbt := bool2u_true
   clear HU hdm hr
   go_enter Tryz.func157,Tryz.ntmps157
   go_wp2_with fail
   refine (hm1 _).mono ?_
   rintro e w1 ⟨rfl,rfl⟩
   go_wp2_with fail
   refine (hm2 _).mono ?_
   rintro e w2 ⟨rfl,rfl⟩
   go_wp2_with fail
   refine (hbt _).mono ?_
   rintro e w3 ⟨rfl,rfl⟩
   go_wp2_with fail
   go_quiet (with_reducible exact Calls.quiet_of_same (hbt _))
   go_wp2_with fail
   go_ret
   exact ⟨rfl,_,rfl⟩
  ·rw [if_neg hm,hh.out] at HU
   have hlt : decide ((mid : Int) < (mid2 : Int)) = false := by simp; omega
   have hltN : decide (mid < mid2) = false := by simp; omega
   have hge : (mid2 : Int) ≤ (mid : Int) := by omega
   obtain ⟨dm,hdm'⟩ : ∃ dm : Nat,Hid (mid - mid2 = dm) := ⟨_,rfl⟩
   have e4 : (mid : Int) - (mid2 : Int) = (dm : Int) := by have := hdm'.out; omega
   rw [hdm'.out] at HU
   have hbt := bool2u_true
   have hbf := bool2u_false
   by_cases h1d : 1 < dm
   ·rw [if_pos h1d] at HU
    have hdm2 : (1 : Int) < (dm : Int) := by omega
    have o1 : bits .or .u64 (h : Int) 1 = (U : Int) := by rw [or_u64 h (by omega),← HU]
    clear HU hdm hr hm h1d
    go_enter Tryz.func157,Tryz.ntmps157
    go_wp2_with fail
    refine (hm1 _).mono ?_
    rintro e w1 ⟨rfl,rfl⟩
    go_wp2_with fail
    refine (hm2 _).mono ?_
    rintro e w2 ⟨rfl,rfl⟩
    go_wp2_with fail
    refine (hbf _).mono ?_
    rintro e w3 ⟨rfl,rfl⟩
    go_wp2_with fail
    go_quiet (with_reducible exact Calls.quiet_of_same (hbt _))
    go_wp2_with fail
    go_ret
    exact ⟨rfl,_,rfl⟩
   ·rw [if_neg h1d] at HU
    have hdm2 : decide ((1 : Int) < (dm : Int)) = false := by simp; omega
    have hdm3 : (dm : Int) ≤ 1 := by omega
    have o1 : bits .or .u64 (h : Int) 0 = (U : Int) := by rw [or_u64_0 h (by omega),← HU]
    clear HU hdm hr hm h1d
    go_enter Tryz.func157,Tryz.ntmps157
    go_wp2_with fail
    refine (hm1 _).mono ?_
    rintro e w1 ⟨rfl,rfl⟩
    go_wp2_with fail
    refine (hm2 _).mono ?_
    rintro e w2 ⟨rfl,rfl⟩
    go_wp2_with fail
    refine (hbf _).mono ?_
    rintro e w3 ⟨rfl,rfl⟩
    go_wp2_with fail
    go_quiet (with_reducible exact Calls.quiet_of_same (hbf _))
    go_wp2_with fail
    go_ret
    exact ⟨rfl,_,rfl⟩
 ·have d1 : ((g : Int) == (H : Int)) = false := by
   have : g ≠ H := by rw [← hg.out,Nat.mul_comm]; omega
   simp; omega
  have o1 : bits .or .u64 (h : Int) 1 = (U : Int) := by
   rw [or_u64 h (by omega),← HU,if_pos hr,hh.out]
  clear HU hdm hr
  go_enter Tryz.func157,Tryz.ntmps157
  go_wp2_with fail
  refine (hm1 _).mono ?_
  rintro e w1 ⟨rfl,rfl⟩
  go_wp2_with fail
  go_ret
  exact ⟨rfl,0,rfl⟩
end Go.Proofs.YtalaajniammggaaGreatDoor

/- The scaler; logarithms; rounding. -/
namespace Go.Proofs.YtalaajniammggaaGreatDoor
open Go.RowKit
theorem log10_any (x : Int) (w : World) (h1 : -2000 ≤ x) (h2 : x ≤ 2000) : Calls Tryz.prog 98 #[.int .i64 x] w fun e w' => e = .returned (.int .i64 (x * 78913 / 262144)) ∧ w' = w := by
 have e1 : -9000000000 ≤ x * 78913 := by omega
 have e2 : x * 78913 ≤ 9000000000 := by omega
 go_enter Tryz.func98,Tryz.ntmps98
 go_wp2
 go_ret
 exact ⟨rfl,rfl⟩
theorem log2_any (x : Int) (w : World) (h1 : -2000 ≤ x) (h2 : x ≤ 2000) : Calls Tryz.prog 156 #[.int .i64 x] w fun e w' => e = .returned (.int .i64 (x * 108853 / 32768)) ∧ w' = w := by
 have e1 : -9000000000 ≤ x * 108853 := by omega
 have e2 : x * 108853 ≤ 9000000000 := by omega
 go_enter Tryz.func156,Tryz.ntmps156
 go_wp2
 go_ret
 exact ⟨rfl,rfl⟩
theorem skewed_any (x : Int) (w : World) (h1 : -2000 ≤ x) (h2 : x ≤ 2000) : Calls Tryz.prog 154 #[.int .i64 x] w fun e w' => e = .returned (.int .i64 ((x * 631305 - 261663) / 2097152)) ∧ w' = w := by
 have e1 : -9000000000 ≤ x * 631305 := by omega
 have e2 : x * 631305 ≤ 9000000000 := by omega
 go_enter Tryz.func154,Tryz.ntmps154
 go_wp2
 go_ret
 exact ⟨rfl,rfl⟩
theorem nudge_up (u d : Nat) (w : World) (h : u < 9223372036854775808) (hd : d ≤ 1) : Calls Tryz.prog 158 #[.int .u64 u,.int .i64 d] w fun e w' => e = .returned (.int .u64 (u + d : Nat)) ∧ w' = w := by
 go_enter Tryz.func158,Tryz.ntmps158
 go_wp2
 go_ret
 exact ⟨rfl,rfl⟩
theorem nudge_down (u d : Nat) (w : World) (h : u < 9223372036854775808) (hd : d ≤ 1) (hu : 1 ≤ u) : Calls Tryz.prog 158 #[.int .u64 u,.int .i64 (-(d : Int))] w fun e w' => e = .returned (.int .u64 (u - d : Nat)) ∧ w' = w := by
 have e1 : IntKind.u64.wrap ((u : Int) + IntKind.u64.wrap (-(d : Int))) = ((u - d : Nat) : Int) := by rw [wrap_u64,wrap_u64]; omega
 go_enter Tryz.func158,Tryz.ntmps158
 go_wp2
 go_ret
 exact ⟨rfl,rfl⟩
theorem ceil_any (u : Nat) (w : World) (h : u < 9223372036854775808) : Calls Tryz.prog 159 #[.int .u64 u] w fun e w' => e = .returned (.int .u64 ((u + 3) / 4 : Nat)) ∧ w' = w := by
 go_enter Tryz.func159,Tryz.ntmps159
 go_wp2
 go_ret
 exact ⟨rfl,rfl⟩
theorem floor_any (u : Nat) (w : World) (h : u < 9223372036854775808) : Calls Tryz.prog 160 #[.int .u64 u] w fun e w' => e = .returned (.int .u64 (u / 4 : Nat)) ∧ w' = w := by
 go_enter Tryz.func160,Tryz.ntmps160
 go_wp2
 go_ret
 exact ⟨rfl,rfl⟩
theorem round_any (u : Nat) (w : World) (h : u < 9223372036854775808) : Calls Tryz.prog 161 #[.int .u64 u] w fun e w' => e = .returned (.int .u64 (rndU u : Nat)) ∧ w' = w := by
 have hb : bits .and .u64 (((u / 4 : Nat) : Int)) 1 = ((u / 4 % 2 : Nat) : Int) := by
  have := u64_and_nat (u / 4) 1 (by omega) (by omega)
  rw [Nat.and_one_is_mod] at this
  exact this
 have e1 : (u : Int) / 4 = ((u / 4 : Nat) : Int) := by omega
 obtain ⟨q,hq⟩ : ∃ q,Hid (u / 4 = q) := ⟨_,rfl⟩
 rw [hq.out] at hb e1
 obtain ⟨r,hr⟩ : ∃ r,Hid (q % 2 = r) := ⟨_,rfl⟩
 rw [hr.out] at hb
 have hrb : r ≤ 1 := by have := hr.out; omega
 rw [show rndU u = (u + 1 + r) / 4 by unfold rndU; rw [hq.out,hr.out]]
 go_enter Tryz.func161,Tryz.ntmps161
 go_wp2
 go_ret
 exact ⟨rfl,rfl⟩
set_option maxRecDepth 100000 in
theorem prescale_any (q i : Nat) (e pp lp s : Int) (r : Nat × Nat) (w : World) (hi : i < 696) (hp : pp = (i : Int) - 348) (he1 : -3000 ≤ e) (he2 : e ≤ 3000) (hl1 : -2000 ≤ lp) (hl2 : lp ≤ 2000) (hs : s = -(e + lp + 3))
  (t1 : w.cell? ⟨10,i * 2,none⟩ = some (.int .u64 r.1)) (t2 : w.cell? ⟨10,i * 2 + 1,none⟩ = some (.int .u64 r.2))
  (c0 : ∃ v,w.cell? ⟨q,0,none⟩ = some v) (c1 : ∃ v,w.cell? ⟨q,1,none⟩ = some v) (c2 : ∃ v,w.cell? ⟨q,2,none⟩ = some v)
  (f0 : w.frozen? ⟨q,0,none⟩ = false) (f1 : w.frozen? ⟨q,1,none⟩ = false) (f2 : w.frozen? ⟨q,2,none⟩ = false) :
  Calls Tryz.prog 155 #[.pointer (some ⟨q,0,none⟩),.int .i64 e,.int .i64 pp,.int .i64 lp] w fun e w' => e = .returned (.tuple #[]) ∧ w' = ((w.setCell ⟨q,0,none⟩ (.int .u64 r.1)).setCell ⟨q,1,none⟩ (.int .u64 r.2)).setCell ⟨q,2,none⟩ (.int .i64 s) := by
 obtain ⟨v0,c0⟩ := c0
 obtain ⟨v1,c1⟩ := c1
 obtain ⟨v2,c2⟩ := c2
 have ep : pp + 348 = (i : Int) := by omega
 obtain ⟨r1,r2⟩ := r
 simp only at t1 t2 ⊢
 clear hp
 go_enter Tryz.func155,Tryz.ntmps155
 go_wp2
 refine bodyPost_end (results_none rfl _ _ _) rfl ?_
 subst hs
 exact ⟨rfl,rfl⟩
end Go.Proofs.YtalaajniammggaaGreatDoor

/- The shortest digits: the library's function. -/
namespace Go.Proofs.YtalaajniammggaaGreatDoor
open Go.RowKit
def Rowz (w : World) : Prop := ∀ i,i < 696 → ∃ r : Nat × Nat,Pinned.pow10Rows[i]? = some r ∧ w.cell? ⟨10,i * 2,none⟩ = some (.int .u64 r.1) ∧ w.cell? ⟨10,i * 2 + 1,none⟩ = some (.int .u64 r.2)
theorem Rowz.kept {w w' : World} (h : Rowz w) (hb : Below w.heap.size w w') : Rowz w' := fun i hi => by
 obtain ⟨r,hr,h1,h2⟩ := h i hi
 exact ⟨r,hr,(hb.cell (World.block_lt_of_cell? w _ h1)).trans h1,(hb.cell (World.block_lt_of_cell? w _ h2)).trans h2⟩
theorem uc_lt (x hi lo s : Nat) (hx : x < 18446744073709551616) (hhi : hi < 18446744073709551616) (hs : 5 ≤ s) : uc x hi lo s < 1152921504606846976 := by
 have hH : x * hi / 18446744073709551616 < 18446744073709551616 := by
  have : x * hi ≤ 18446744073709551615 * 18446744073709551615 := Nat.mul_le_mul (by omega) (by omega)
  omega
 have h32 : (32 : Nat) ≤ 2 ^ s := by
  have : (2 : Nat) ^ 5 ≤ 2 ^ s := Nat.pow_le_pow_right (by decide) hs
  exact this
 have key : ∀ H,H < 18446744073709551616 → H / 2 ^ s ≤ 576460752303423487 := fun H h => by
  have h1 : H / 2 ^ s ≤ H / 32 := Nat.div_le_div_left h32 (by decide)
  omega
 unfold uc
 have k1 := key _ hH
 have k2 := key (x * hi / 18446744073709551616 - 1) (by omega)
 split
 ·omega
 ·split
  ·omega
  ·split <;> omega
theorem scaler_any (w : World) (T : Rowz w) (i : Nat) (hi : i < 696) (e pp lp : Int) (S : Nat) (hp : pp = (i : Int) - 348) (he1 : -3000 ≤ e) (he2 : e ≤ 3000) (hl1 : -2000 ≤ lp) (hl2 : lp ≤ 2000) (hs : (S : Int) = -(e + lp + 3)) :
  ∃ (W : World) (r : Nat × Nat),Pinned.pow10Rows[i]? = some r ∧ Below w.heap.size w W ∧ W.cell? ⟨w.heap.size,0,none⟩ = some (.int .u64 r.1) ∧ W.cell? ⟨w.heap.size,1,none⟩ = some (.int .u64 r.2) ∧ W.cell? ⟨w.heap.size,2,none⟩ = some (.int .i64 S) ∧
  Calls Tryz.prog 155 #[.pointer (some ⟨w.heap.size,0,none⟩),.int .i64 e,.int .i64 pp,.int .i64 lp] (w.alloc (.cells #[.int .u64 0,.int .u64 0,.int .i64 0] 189)) fun e w' => e = .returned (.tuple #[]) ∧ w' = W := by
 have hb : Below w.heap.size w (w.alloc (.cells #[.int .u64 0,.int .u64 0,.int .i64 0] 189)) := (Below.refl _ w).alloc (Nat.le_refl _) _
 obtain ⟨r,hr,t1,t2⟩ := (T.kept hb) i hi
 refine ⟨_,r,hr,?_,?_,?_,?_,prescale_any w.heap.size i e pp lp S r _ hi hp he1 he2 hl1 hl2 hs t1 t2 ⟨_,by simp [go_sem]; rfl⟩ ⟨_,by simp [go_sem]; rfl⟩ ⟨_,by simp [go_sem]; rfl⟩ (by simp [go_sem]) (by simp [go_sem]) (by simp [go_sem])⟩
 ·exact ((hb.setCell (Nat.le_refl _) _).setCell (Nat.le_refl _) _).setCell (Nat.le_refl _) _
 ·simp [go_sem]
 ·simp [go_sem]
 ·simp [go_sem]
theorem and1 (n : Nat) : bits .and .i64 (n : Int) 1 = ((n % 2 : Nat) : Int) := by
 have h1 : (BitVec.ofInt 64 1).toNat = 2 ^ 1 - 1 := by decide
 have key : (BitVec.ofInt 64 (n : Int) &&& BitVec.ofInt 64 1).toNat = ((n : Int) % ((2 ^ 64 : Nat) : Int)).toNat % 2 ^ 1 := by
  rw [BitVec.toNat_and,BitVec.toNat_ofInt,h1,Nat.and_two_pow_sub_one_eq_mod]
 show IntKind.i64.wrap ((BitVec.ofInt 64 (n : Int) &&& BitVec.ofInt 64 1).toNat : Nat) = _
 rw [key,IntKind.wrap_i64]
 omega
theorem sft_norm {mant : Nat} (h1 : 4503599627370496 ≤ mant) (h2 : mant < 9007199254740992) : sft mant = 11 := by
 unfold sft
 rw [(Nat.log2_eq_iff (by omega)).2 ⟨(show 2 ^ 52 ≤ mant from h1),(show mant < 2 ^ (52 + 1) from h2)⟩]
theorem sft_sub {mant : Nat} (h1 : 1 ≤ mant) (h2 : mant < 4503599627370496) : 12 ≤ sft mant := by
 have a : mant.log2 < 52 := (Nat.log2_lt (by omega)).2 h2
 unfold sft
 omega
theorem us_at {mant : Nat} {k : Int} (h : Flo mant k) {r : Nat × Nat} (hr : Pinned.pow10Rows[ix (skewOf mant k) k]? = some r) (q : Nat) (W : World)
  (c0 : W.cell? ⟨q,0,none⟩ = some (.int .u64 r.1)) (c1 : W.cell? ⟨q,1,none⟩ = some (.int .u64 r.2)) (c2 : W.cell? ⟨q,2,none⟩ = some (.int .i64 (sOf mant k : Nat)))
  (c x : Nat) (hc : 1 ≤ c) (hx : x = c * 2 ^ (sft mant - 2)) (hx2 : x < 18446744073709551616) :
  Calls Tryz.prog 157 #[.int .u64 x,.pointer (some ⟨q,0,none⟩)] W fun e w' => e = .returned (.int .u64 (unr (c * gOf mant k) (DOf mant k) : Nat)) ∧ ∃ n,w' = W.drewN n := by
 have F := row_facts hr
 have G := sft_facts h.one h.top
 obtain ⟨s1,s2,_⟩ := s_facts h
 have hx1 : 2 ≤ x := by
  rw [hx]
  have := Nat.mul_le_mul hc (show 2 ≤ 2 ^ (sft mant - 2) by
   have : (2 : Nat) ^ 1 ≤ 2 ^ (sft mant - 2) := Nat.pow_le_pow_right (by decide) (by omega)
   exact this)
  omega
 have := uscale_any q x r.1 r.2 (sOf mant k) W hx2 F.hi F.lo (by omega) (by
  have : 2 * 9223372036854775808 ≤ x * r.1 := Nat.mul_le_mul hx1 F.top
  omega) c0 c1 c2
 rw [hx,scaled h hr c hc (by rw [← hx]; exact hx2)] at this
 rw [hx]
 exact this
theorem us_lt {mant : Nat} {k : Int} (h : Flo mant k) {r : Nat × Nat} (hr : Pinned.pow10Rows[ix (skewOf mant k) k]? = some r) (c x : Nat) (hc : 1 ≤ c) (hx : x = c * 2 ^ (sft mant - 2)) (hx2 : x < 18446744073709551616) : unr (c * gOf mant k) (DOf mant k) < 1152921504606846976 := by
 rw [← scaled h hr c hc (by rw [← hx]; exact hx2),← hx]
 exact uc_lt x r.1 r.2 _ hx2 (row_facts hr).hi (s_facts h).1
set_option maxRecDepth 100000 in
set_option maxHeartbeats 2000000 in
theorem short_B (mant : Nat) (k : Int) (h : Flo mant k) (m : Nat) (e : Int) (hm : m = mant * 2 ^ sft mant) (he : e = k - sft mant) (hsk : skewOf mant k = false) (hne : m ≠ 9223372036854775808) (hge : -1085 ≤ e) (w : World) (T : Rowz w) :
  Calls Tryz.prog 150 #[.int .u64 m,.int .i64 e] w fun e w' => e = .returned (.tuple #[.int .u64 (shortM mant k).1,.int .i64 (shortM mant k).2]) ∧ Below w.heap.size w w' := by
 have hk1 := h.lo
 have hk2 := h.hi
 have F := k_facts (skewOf mant k) k h.lo h.hi
 have G := sft_facts h.one h.top
 have SF := s_facts h
 obtain ⟨i,hi⟩ : ∃ i,Hid (ix (skewOf mant k) k = i) := ⟨_,rfl⟩
 obtain ⟨pp,hpp⟩ : ∃ p : Int,Hid (p = (i : Int) - 348) := ⟨_,rfl⟩
 obtain ⟨lp,hlp⟩ : ∃ p : Int,Hid (pp * 108853 / 32768 = p) := ⟨_,rfl⟩
 obtain ⟨S,hS⟩ : ∃ S,Hid (sOf mant k = S) := ⟨_,rfl⟩
 have i1 : 56 ≤ i ∧ i ≤ 672 := by rw [← hi.out]; exact ⟨F.lo,F.hi⟩
 have pb : -292 ≤ pp ∧ pp ≤ 324 := by have := hpp.out; omega
 have lb : -1000 ≤ lp ∧ lp ≤ 1080 := by have := hlp.out; omega
 have elp : lpOf i = lp := by
  obtain ⟨r,hr,_⟩ := T i (by omega)
  rw [(row_facts hr).lp,← hlp.out,hpp.out]
 have eS : (S : Int) = -(e + lp + 3) := by
  have s3 := SF.2.2.1
  have s4 := SF.2.2.2
  rw [hi.out,elp] at s4
  rw [hS.out] at s3
  omega
 have ipos := F.pos
 have eix : (i : Int) = (bif skewOf mant k then ixS k else ixN k) := by
  rw [← hi.out]; unfold ix; omega
 obtain ⟨r,hr,_⟩ := T i (by omega)
 rw [← hi.out] at hr
 have m64 : m < 18446744073709551616 := by rw [hm]; exact G.2.2.2
 have eT : mant * 2 ^ sft mant = 4 * mant * 2 ^ (sft mant - 2) := by
  rw [show sft mant = 2 + (sft mant - 2) by omega,Nat.pow_add,show 2 + (sft mant - 2) - 2 = sft mant - 2 by omega]
  generalize 2 ^ (sft mant - 2) = Z
  grind
 have s11 : sft mant = 11 := by
  rcases Nat.lt_or_ge mant 4503599627370496 with hx | hx
  ·have := sft_sub h.one hx
   rcases h.norm with hn | hn <;> omega
  ·exact sft_norm hx h.top
 have em : m = mant * 2048 := by rw [hm,s11]
 have ek : e + 11 = k := by omega
 have hns : skewOf mant k = false := hsk
 have epp : -(k * 78913 / 262144) = pp := by
  have := hpp.out
  rw [hns] at eix
  simp only [cond_false] at eix
  unfold ixN at eix
  omega
 obtain ⟨mn,hmn⟩ : ∃ x,Hid (m - 1024 = x) := ⟨_,rfl⟩
 obtain ⟨mx,hmx⟩ : ∃ x,Hid (m + 1024 = x) := ⟨_,rfl⟩
 have mant1 := h.one
 have mantt := h.top
 have emnI : (m : Int) - 1024 = (mn : Int) := by have := hmn.out; omega
 have emxI : (m : Int) + 1024 = (mx : Int) := by have := hmx.out; omega
 have mx64 : mx < 18446744073709551616 := by have := hmx.out; omega
 have emn' : mn = cl mant (skewOf mant k) * 2 ^ (sft mant - 2) := by rw [← hmn.out,hns,s11,em]; unfold cl; simp only [cond_false]; omega
 have emx' : mx = (4 * mant + 2) * 2 ^ (sft mant - 2) := by rw [← hmx.out,s11,em]; omega
 have esh : (m : Int) / 2048 = (mant : Int) := by omega
 have UL := fun q W c0 c1 c2 => us_at h hr q W c0 c1 c2 (cl mant (skewOf mant k)) mn (cl_pos _ h.one) emn' (by omega)
 have UR := fun q W c0 c1 c2 => us_at h hr q W c0 c1 c2 (4 * mant + 2) mx (by omega) emx' mx64
 have UX := fun q W c0 c1 c2 => us_at h hr q W c0 c1 c2 (4 * mant) m (by have := h.one; omega) (by rw [hm,eT]) m64
 have bL := us_lt h hr (cl mant (skewOf mant k)) mn (cl_pos _ h.one) emn' (by omega)
 have bR := us_lt h hr (4 * mant + 2) mx (by omega) emx' mx64
 have bX := us_lt h hr (4 * mant) m (by have := h.one; omega) (by rw [hm,eT]) m64
 have hD0 := (fits_of h).pos
 have hg0 := (fits_of h).gpos
 have pR := unr_pos ((4 * mant + 2) * gOf mant k) (DOf mant k) (Nat.mul_pos (by omega) hg0)
 have HM : Hid (shortM mant k = ((shortD mant (skewOf mant k) (gOf mant k) (DOf mant k)).1,-pp + (if (shortD mant (skewOf mant k) (gOf mant k) (DOf mant k)).2 = true then 1 else 0))) := Lib.hid (by
  unfold shortM
  rw [hi.out,hpp.out,show -((i : Int) - 348) = 348 - (i : Int) by omega])
 have HL : Hid (lowD mant (skewOf mant k) (gOf mant k) (DOf mant k) = lowU (unr (cl mant (skewOf mant k) * gOf mant k) (DOf mant k)) (mant % 2)) := Lib.hid rfl
 have HR : Hid (topD mant (gOf mant k) (DOf mant k) = topU (unr ((4 * mant + 2) * gOf mant k) (DOf mant k)) (mant % 2)) := Lib.hid rfl
 have HX : Hid (midD mant (gOf mant k) (DOf mant k) = rndU (unr (4 * mant * gOf mant k) (DOf mant k))) := Lib.hid rfl
 rw [hS.out] at UL UR UX
 generalize unr (cl mant (skewOf mant k) * gOf mant k) (DOf mant k) = uL at *
 generalize unr ((4 * mant + 2) * gOf mant k) (DOf mant k) = uR at *
 generalize unr (4 * mant * gOf mant k) (DOf mant k) = uX at *
 obtain ⟨od,hod⟩ : ∃ o,Hid (mant % 2 = o) := ⟨_,rfl⟩
 have odb : od ≤ 1 := by have := hod.out; omega
 obtain ⟨dmin,hdmin⟩ : ∃ d,Hid (lowD mant (skewOf mant k) (gOf mant k) (DOf mant k) = d) := ⟨_,rfl⟩
 obtain ⟨dmax,hdmax⟩ : ∃ d,Hid (topD mant (gOf mant k) (DOf mant k) = d) := ⟨_,rfl⟩
 obtain ⟨dmid,hdmid⟩ : ∃ d,Hid (midD mant (gOf mant k) (DOf mant k) = d) := ⟨_,rfl⟩
 have HD : Hid (shortD mant (skewOf mant k) (gOf mant k) (DOf mant k) = if dmin ≤ dmax / 10 * 10 then (dmax / 10,true) else if dmin < dmax then (dmid,false) else (dmin,false)) := Lib.hid (by
  unfold shortD; rw [hdmin.out,hdmax.out,hdmid.out])
 have edmin : (uL + od + 3) / 4 = dmin := by rw [← hdmin.out,HL.out,hod.out]; rfl
 have edmax : (uR - od) / 4 = dmax := by rw [← hdmax.out,HR.out,hod.out]; rfl
 have edmid : rndU uX = dmid := by rw [← hdmid.out,HX.out]
 have nU : ∀ W,_ := fun W => nudge_up uL od W (by omega) odb
 have nD : ∀ W,_ := fun W => nudge_down uR od W (by omega) odb pR
 have cU : ∀ W,_ := fun W => ceil_any (uL + od) W (by omega)
 have fD : ∀ W,_ := fun W => floor_any (uR - od) W (by omega)
 have rX : ∀ W,_ := fun W => round_any uX W (by omega)
 rw [edmin] at cU
 rw [edmax] at fD
 rw [edmid] at rX
 have L10 : ∀ W,_ := fun W => log10_any k W (by omega) (by omega)
 have L2 : ∀ W,_ := fun W => log2_any pp W (by omega) (by omega)
 rw [hlp.out] at L2
 have T' := Lib.hid T
 have hrow := Lib.hid hr
 have hi' := hi
 rw [hi.out] at hr
 have SC := fun W (TW : Rowz W) => scaler_any W TW i (by omega) e pp lp S hpp.out (by omega) (by omega) (by omega) (by omega) eS
 have i696 : i < 696 := by omega
 obtain ⟨ud,hud⟩ : ∃ u,Hid (uL + od = u) := ⟨_,rfl⟩
 obtain ⟨vd,hvd⟩ : ∃ u,Hid (uR - od = u) := ⟨_,rfl⟩
 rw [hud.out] at nU cU
 rw [hvd.out] at nD fD
 have hud64 : ud < 4611686018427387904 := by have := hud.out; omega
 have hdb : dmax < 1000000000000000000 ∧ dmin < 1000000000000000000 := by omega
 have oo : bits .and .i64 (mant : Int) 1 = (od : Int) := by rw [and1 mant,hod.out]
 have dm : ((m : Int) == 9223372036854775808) = false := by simp; omega
 have ge : -1085 ≤ e := by omega
 clear hm he eT eS elp eix F G SF ipos i1 bL bR bX pR hD0 hg0 edmin edmax edmid hk1 hk2 hpp hlp hi hi' hrow hS em emn' emx' hne hge s11 hns hsk hmn hmx
 obtain ⟨rd,hrd⟩ : ∃ x,Hid ((shortM mant k).1 = x) := ⟨_,rfl⟩
 obtain ⟨re,hre⟩ : ∃ x,Hid ((shortM mant k).2 = x) := ⟨_,rfl⟩
 rw [hrd.out,hre.out]
 go_enter Tryz.func150,Tryz.ntmps150
 go_wp2_with fail
 refine (L10 _).mono ?_
 rintro e' w1 ⟨rfl,rfl⟩
 go_wp2_with fail
 refine (L2 _).mono ?_
 rintro e' w2 ⟨rfl,rfl⟩
 go_wp2_with fail
 obtain ⟨W,r',hr',bW,c0,c1,c2,hP⟩ := SC w1 T'.out
 obtain rfl : r = r' := Option.some.inj (hr.symm.trans hr')
 refine hP.mono ?_
 rintro e' w3 ⟨rfl,rfl⟩
 clear hP L10 L2 SC T'
 have u1 := UL _ w3 c0 c1 c2
 go_wp2_with fail
 refine u1.mono ?_
 rintro e' w4 ⟨rfl,n1,rfl⟩
 obtain ⟨W4,hW4⟩ : ∃ W,Hid (W = w3.drewN n1) := ⟨_,rfl⟩
 have b4 : Below w1.heap.size w1 W4 := by rw [hW4.out]; exact below_drewN bW n1
 have u2 := UR w1.heap.size W4 (by rw [hW4.out]; exact c0) (by rw [hW4.out]; exact c1) (by rw [hW4.out]; exact c2)
 have u3 := fun n => UX w1.heap.size (W4.drewN n) (by rw [hW4.out]; exact c0) (by rw [hW4.out]; exact c1) (by rw [hW4.out]; exact c2)
 rw [← hW4.out]
 clear hW4 u1 c0 c1 c2 bW UL UR UX
 go_wp2_with fail
 refine (nU _).mono ?_
 rintro e' w5 ⟨rfl,rfl⟩
 go_wp2_with fail
 refine (cU _).mono ?_
 rintro e' w5 ⟨rfl,rfl⟩
 go_wp2_with fail
 refine u2.mono ?_
 rintro e' w6 ⟨rfl,n2,rfl⟩
 have u3 := u3 n2
 obtain ⟨W6,hW6⟩ : ∃ W,Hid (W = w5.drewN n2) := ⟨_,rfl⟩
 have b6 : Below w1.heap.size w1 W6 := by rw [hW6.out]; exact below_drewN b4 n2
 rw [← hW6.out] at u3 ⊢
 clear hW6 u2 b4 nU cU
 go_wp2_with fail
 refine (nD _).mono ?_
 rintro e' w7 ⟨rfl,rfl⟩
 go_wp2_with fail
 refine (fD _).mono ?_
 rintro e' w7 ⟨rfl,rfl⟩
 clear nD fD
 obtain ⟨dt,hdt⟩ : ∃ d,Hid (dmax / 10 = d) := ⟨_,rfl⟩
 have edt : (dmax : Int) / 10 = (dt : Int) := by have := hdt.out; omega
 have dtb : dt ≤ dmax := by have := hdt.out; omega
 have hdb1 := hdb.1
 have hdb2 := hdb.2
 clear hdb
 by_cases t1 : dmin ≤ dt * 10
 ·have HDD : Hid (shortM mant k = (dt,-pp + 1)) := Lib.hid (by rw [HM.out,HD.out,hdt.out,if_pos t1]; simp)
  have t1' : (dmin : Int) ≤ (dt : Int) * 10 := by omega
  have g1 : rd = dt := by rw [← hrd.out,HDD.out]
  have g2 : re = -(pp - 1) := by rw [← hre.out,HDD.out]; show -pp + 1 = -(pp - 1); omega
  have G1 := Lib.hid g1
  have G2 := Lib.hid g2
  clear HDD HD HM HL HR HX g1 g2
  go_wp2_with fail
  go_ret2
  rw [G1.out,G2.out]
  exact ⟨by simp,b6⟩
 ·have t1' : decide ((dmin : Int) ≤ (dt : Int) * 10) = false := by simp; omega
  by_cases t2 : dmin < dmax
  ·have HDD : Hid (shortM mant k = (dmid,-pp)) := Lib.hid (by rw [HM.out,HD.out,hdt.out,if_neg t1,if_pos t2]; simp)
   have t2' : (dmin : Int) < (dmax : Int) := by omega
   have G1 : Hid (rd = dmid) := Lib.hid (by rw [← hrd.out,HDD.out])
   have G2 : Hid (re = -pp) := Lib.hid (by rw [← hre.out,HDD.out])
   clear HDD HD HM HL HR HX
   go_wp2_with fail
   refine u3.mono ?_
   rintro e' w8 ⟨rfl,n3,rfl⟩
   go_wp2_with fail
   refine (rX _).mono ?_
   rintro e' w9 ⟨rfl,rfl⟩
   go_wp2_with fail
   go_ret2
   rw [G1.out,G2.out]
   exact ⟨rfl,below_drewN b6 n3⟩
  ·have HDD : Hid (shortM mant k = (dmin,-pp)) := Lib.hid (by rw [HM.out,HD.out,hdt.out,if_neg t1,if_neg t2]; simp)
   have t2' : decide ((dmin : Int) < (dmax : Int)) = false := by simp; omega
   have G1 : Hid (rd = dmin) := Lib.hid (by rw [← hrd.out,HDD.out])
   have G2 : Hid (re = -pp) := Lib.hid (by rw [← hre.out,HDD.out])
   clear HDD HD HM HL HR HX
   go_wp2_with fail
   go_ret2
   rw [G1.out,G2.out]
   exact ⟨rfl,b6⟩
set_option maxRecDepth 100000 in
set_option maxHeartbeats 2000000 in
theorem short_B0 (mant : Nat) (k : Int) (h : Flo mant k) (m : Nat) (e : Int) (hm : m = mant * 2 ^ sft mant) (he : e = k - sft mant) (hsk : skewOf mant k = false) (hne : m = 9223372036854775808) (hge : e = -1085) (w : World) (T : Rowz w) :
  Calls Tryz.prog 150 #[.int .u64 m,.int .i64 e] w fun e w' => e = .returned (.tuple #[.int .u64 (shortM mant k).1,.int .i64 (shortM mant k).2]) ∧ Below w.heap.size w w' := by
 have hk1 := h.lo
 have hk2 := h.hi
 have F := k_facts (skewOf mant k) k h.lo h.hi
 have G := sft_facts h.one h.top
 have SF := s_facts h
 obtain ⟨i,hi⟩ : ∃ i,Hid (ix (skewOf mant k) k = i) := ⟨_,rfl⟩
 obtain ⟨pp,hpp⟩ : ∃ p : Int,Hid (p = (i : Int) - 348) := ⟨_,rfl⟩
 obtain ⟨lp,hlp⟩ : ∃ p : Int,Hid (pp * 108853 / 32768 = p) := ⟨_,rfl⟩
 obtain ⟨S,hS⟩ : ∃ S,Hid (sOf mant k = S) := ⟨_,rfl⟩
 have i1 : 56 ≤ i ∧ i ≤ 672 := by rw [← hi.out]; exact ⟨F.lo,F.hi⟩
 have pb : -292 ≤ pp ∧ pp ≤ 324 := by have := hpp.out; omega
 have lb : -1000 ≤ lp ∧ lp ≤ 1080 := by have := hlp.out; omega
 have elp : lpOf i = lp := by
  obtain ⟨r,hr,_⟩ := T i (by omega)
  rw [(row_facts hr).lp,← hlp.out,hpp.out]
 have eS : (S : Int) = -(e + lp + 3) := by
  have s3 := SF.2.2.1
  have s4 := SF.2.2.2
  rw [hi.out,elp] at s4
  rw [hS.out] at s3
  omega
 have ipos := F.pos
 have eix : (i : Int) = (bif skewOf mant k then ixS k else ixN k) := by
  rw [← hi.out]; unfold ix; omega
 obtain ⟨r,hr,_⟩ := T i (by omega)
 rw [← hi.out] at hr
 have m64 : m < 18446744073709551616 := by rw [hm]; exact G.2.2.2
 have eT : mant * 2 ^ sft mant = 4 * mant * 2 ^ (sft mant - 2) := by
  rw [show sft mant = 2 + (sft mant - 2) by omega,Nat.pow_add,show 2 + (sft mant - 2) - 2 = sft mant - 2 by omega]
  generalize 2 ^ (sft mant - 2) = Z
  grind
 have s11 : sft mant = 11 := by
  rcases Nat.lt_or_ge mant 4503599627370496 with hx | hx
  ·have := sft_sub h.one hx
   rcases h.norm with hn | hn <;> omega
  ·exact sft_norm hx h.top
 have em : m = mant * 2048 := by rw [hm,s11]
 have ek : e + 11 = k := by omega
 have hns : skewOf mant k = false := hsk
 have epp : -(k * 78913 / 262144) = pp := by
  have := hpp.out
  rw [hns] at eix
  simp only [cond_false] at eix
  unfold ixN at eix
  omega
 obtain ⟨mn,hmn⟩ : ∃ x,Hid (m - 1024 = x) := ⟨_,rfl⟩
 obtain ⟨mx,hmx⟩ : ∃ x,Hid (m + 1024 = x) := ⟨_,rfl⟩
 have mant1 := h.one
 have mantt := h.top
 have emnI : (m : Int) - 1024 = (mn : Int) := by have := hmn.out; omega
 have emxI : (m : Int) + 1024 = (mx : Int) := by have := hmx.out; omega
 have mx64 : mx < 18446744073709551616 := by have := hmx.out; omega
 have emn' : mn = cl mant (skewOf mant k) * 2 ^ (sft mant - 2) := by rw [← hmn.out,hns,s11,em]; unfold cl; simp only [cond_false]; omega
 have emx' : mx = (4 * mant + 2) * 2 ^ (sft mant - 2) := by rw [← hmx.out,s11,em]; omega
 have esh : (m : Int) / 2048 = (mant : Int) := by omega
 have UL := fun q W c0 c1 c2 => us_at h hr q W c0 c1 c2 (cl mant (skewOf mant k)) mn (cl_pos _ h.one) emn' (by omega)
 have UR := fun q W c0 c1 c2 => us_at h hr q W c0 c1 c2 (4 * mant + 2) mx (by omega) emx' mx64
 have UX := fun q W c0 c1 c2 => us_at h hr q W c0 c1 c2 (4 * mant) m (by have := h.one; omega) (by rw [hm,eT]) m64
 have bL := us_lt h hr (cl mant (skewOf mant k)) mn (cl_pos _ h.one) emn' (by omega)
 have bR := us_lt h hr (4 * mant + 2) mx (by omega) emx' mx64
 have bX := us_lt h hr (4 * mant) m (by have := h.one; omega) (by rw [hm,eT]) m64
 have hD0 := (fits_of h).pos
 have hg0 := (fits_of h).gpos
 have pR := unr_pos ((4 * mant + 2) * gOf mant k) (DOf mant k) (Nat.mul_pos (by omega) hg0)
 have HM : Hid (shortM mant k = ((shortD mant (skewOf mant k) (gOf mant k) (DOf mant k)).1,-pp + (if (shortD mant (skewOf mant k) (gOf mant k) (DOf mant k)).2 = true then 1 else 0))) := Lib.hid (by
  unfold shortM
  rw [hi.out,hpp.out,show -((i : Int) - 348) = 348 - (i : Int) by omega])
 have HL : Hid (lowD mant (skewOf mant k) (gOf mant k) (DOf mant k) = lowU (unr (cl mant (skewOf mant k) * gOf mant k) (DOf mant k)) (mant % 2)) := Lib.hid rfl
 have HR : Hid (topD mant (gOf mant k) (DOf mant k) = topU (unr ((4 * mant + 2) * gOf mant k) (DOf mant k)) (mant % 2)) := Lib.hid rfl
 have HX : Hid (midD mant (gOf mant k) (DOf mant k) = rndU (unr (4 * mant * gOf mant k) (DOf mant k))) := Lib.hid rfl
 rw [hS.out] at UL UR UX
 generalize unr (cl mant (skewOf mant k) * gOf mant k) (DOf mant k) = uL at *
 generalize unr ((4 * mant + 2) * gOf mant k) (DOf mant k) = uR at *
 generalize unr (4 * mant * gOf mant k) (DOf mant k) = uX at *
 obtain ⟨od,hod⟩ : ∃ o,Hid (mant % 2 = o) := ⟨_,rfl⟩
 have odb : od ≤ 1 := by have := hod.out; omega
 obtain ⟨dmin,hdmin⟩ : ∃ d,Hid (lowD mant (skewOf mant k) (gOf mant k) (DOf mant k) = d) := ⟨_,rfl⟩
 obtain ⟨dmax,hdmax⟩ : ∃ d,Hid (topD mant (gOf mant k) (DOf mant k) = d) := ⟨_,rfl⟩
 obtain ⟨dmid,hdmid⟩ : ∃ d,Hid (midD mant (gOf mant k) (DOf mant k) = d) := ⟨_,rfl⟩
 have HD : Hid (shortD mant (skewOf mant k) (gOf mant k) (DOf mant k) = if dmin ≤ dmax / 10 * 10 then (dmax / 10,true) else if dmin < dmax then (dmid,false) else (dmin,false)) := Lib.hid (by
  unfold shortD; rw [hdmin.out,hdmax.out,hdmid.out])
 have edmin : (uL + od + 3) / 4 = dmin := by rw [← hdmin.out,HL.out,hod.out]; rfl
 have edmax : (uR - od) / 4 = dmax := by rw [← hdmax.out,HR.out,hod.out]; rfl
 have edmid : rndU uX = dmid := by rw [← hdmid.out,HX.out]
 have nU : ∀ W,_ := fun W => nudge_up uL od W (by omega) odb
 have nD : ∀ W,_ := fun W => nudge_down uR od W (by omega) odb pR
 have cU : ∀ W,_ := fun W => ceil_any (uL + od) W (by omega)
 have fD : ∀ W,_ := fun W => floor_any (uR - od) W (by omega)
 have rX : ∀ W,_ := fun W => round_any uX W (by omega)
 rw [edmin] at cU
 rw [edmax] at fD
 rw [edmid] at rX
 have L10 : ∀ W,_ := fun W => log10_any k W (by omega) (by omega)
 have L2 : ∀ W,_ := fun W => log2_any pp W (by omega) (by omega)
 rw [hlp.out] at L2
 have T' := Lib.hid T
 have hrow := Lib.hid hr
 have hi' := hi
 rw [hi.out] at hr
 have SC := fun W (TW : Rowz W) => scaler_any W TW i (by omega) e pp lp S hpp.out (by omega) (by omega) (by omega) (by omega) eS
 have i696 : i < 696 := by omega
 obtain ⟨ud,hud⟩ : ∃ u,Hid (uL + od = u) := ⟨_,rfl⟩
 obtain ⟨vd,hvd⟩ : ∃ u,Hid (uR - od = u) := ⟨_,rfl⟩
 rw [hud.out] at nU cU
 rw [hvd.out] at nD fD
 have hud64 : ud < 4611686018427387904 := by have := hud.out; omega
 have hdb : dmax < 1000000000000000000 ∧ dmin < 1000000000000000000 := by omega
 have oo : bits .and .i64 (mant : Int) 1 = (od : Int) := by rw [and1 mant,hod.out]
 have dm : ((m : Int) == 9223372036854775808) = true := by simp; omega
 have ng : decide (-1085 < e) = false := by simp; omega
 have ge : -1085 ≤ e := by omega
 clear hm he eT eS elp eix F G SF ipos i1 bL bR bX pR hD0 hg0 edmin edmax edmid hk1 hk2 hpp hlp hi hi' hrow hS em emn' emx' hne hge s11 hns hsk hmn hmx
 obtain ⟨rd,hrd⟩ : ∃ x,Hid ((shortM mant k).1 = x) := ⟨_,rfl⟩
 obtain ⟨re,hre⟩ : ∃ x,Hid ((shortM mant k).2 = x) := ⟨_,rfl⟩
 rw [hrd.out,hre.out]
 go_enter Tryz.func150,Tryz.ntmps150
 go_wp2_with fail
 refine (L10 _).mono ?_
 rintro e' w1 ⟨rfl,rfl⟩
 go_wp2_with fail
 refine (L2 _).mono ?_
 rintro e' w2 ⟨rfl,rfl⟩
 go_wp2_with fail
 obtain ⟨W,r',hr',bW,c0,c1,c2,hP⟩ := SC w1 T'.out
 obtain rfl : r = r' := Option.some.inj (hr.symm.trans hr')
 refine hP.mono ?_
 rintro e' w3 ⟨rfl,rfl⟩
 clear hP L10 L2 SC T'
 have u1 := UL _ w3 c0 c1 c2
 go_wp2_with fail
 refine u1.mono ?_
 rintro e' w4 ⟨rfl,n1,rfl⟩
 obtain ⟨W4,hW4⟩ : ∃ W,Hid (W = w3.drewN n1) := ⟨_,rfl⟩
 have b4 : Below w1.heap.size w1 W4 := by rw [hW4.out]; exact below_drewN bW n1
 have u2 := UR w1.heap.size W4 (by rw [hW4.out]; exact c0) (by rw [hW4.out]; exact c1) (by rw [hW4.out]; exact c2)
 have u3 := fun n => UX w1.heap.size (W4.drewN n) (by rw [hW4.out]; exact c0) (by rw [hW4.out]; exact c1) (by rw [hW4.out]; exact c2)
 rw [← hW4.out]
 clear hW4 u1 c0 c1 c2 bW UL UR UX
 go_wp2_with fail
 refine (nU _).mono ?_
 rintro e' w5 ⟨rfl,rfl⟩
 go_wp2_with fail
 refine (cU _).mono ?_
 rintro e' w5 ⟨rfl,rfl⟩
 go_wp2_with fail
 refine u2.mono ?_
 rintro e' w6 ⟨rfl,n2,rfl⟩
 have u3 := u3 n2
 obtain ⟨W6,hW6⟩ : ∃ W,Hid (W = w5.drewN n2) := ⟨_,rfl⟩
 have b6 : Below w1.heap.size w1 W6 := by rw [hW6.out]; exact below_drewN b4 n2
 rw [← hW6.out] at u3 ⊢
 clear hW6 u2 b4 nU cU
 go_wp2_with fail
 refine (nD _).mono ?_
 rintro e' w7 ⟨rfl,rfl⟩
 go_wp2_with fail
 refine (fD _).mono ?_
 rintro e' w7 ⟨rfl,rfl⟩
 clear nD fD
 obtain ⟨dt,hdt⟩ : ∃ d,Hid (dmax / 10 = d) := ⟨_,rfl⟩
 have edt : (dmax : Int) / 10 = (dt : Int) := by have := hdt.out; omega
 have dtb : dt ≤ dmax := by have := hdt.out; omega
 have hdb1 := hdb.1
 have hdb2 := hdb.2
 clear hdb
 by_cases t1 : dmin ≤ dt * 10
 ·have HDD : Hid (shortM mant k = (dt,-pp + 1)) := Lib.hid (by rw [HM.out,HD.out,hdt.out,if_pos t1]; simp)
  have t1' : (dmin : Int) ≤ (dt : Int) * 10 := by omega
  have g1 : rd = dt := by rw [← hrd.out,HDD.out]
  have g2 : re = -(pp - 1) := by rw [← hre.out,HDD.out]; show -pp + 1 = -(pp - 1); omega
  have G1 := Lib.hid g1
  have G2 := Lib.hid g2
  clear HDD HD HM HL HR HX g1 g2
  go_wp2_with fail
  go_ret2
  rw [G1.out,G2.out]
  exact ⟨by simp,b6⟩
 ·have t1' : decide ((dmin : Int) ≤ (dt : Int) * 10) = false := by simp; omega
  by_cases t2 : dmin < dmax
  ·have HDD : Hid (shortM mant k = (dmid,-pp)) := Lib.hid (by rw [HM.out,HD.out,hdt.out,if_neg t1,if_pos t2]; simp)
   have t2' : (dmin : Int) < (dmax : Int) := by omega
   have G1 : Hid (rd = dmid) := Lib.hid (by rw [← hrd.out,HDD.out])
   have G2 : Hid (re = -pp) := Lib.hid (by rw [← hre.out,HDD.out])
   clear HDD HD HM HL HR HX
   go_wp2_with fail
   refine u3.mono ?_
   rintro e' w8 ⟨rfl,n3,rfl⟩
   go_wp2_with fail
   refine (rX _).mono ?_
   rintro e' w9 ⟨rfl,rfl⟩
   go_wp2_with fail
   go_ret2
   rw [G1.out,G2.out]
   exact ⟨rfl,below_drewN b6 n3⟩
  ·have HDD : Hid (shortM mant k = (dmin,-pp)) := Lib.hid (by rw [HM.out,HD.out,hdt.out,if_neg t1,if_neg t2]; simp)
   have t2' : decide ((dmin : Int) < (dmax : Int)) = false := by simp; omega
   have G1 : Hid (rd = dmin) := Lib.hid (by rw [← hrd.out,HDD.out])
   have G2 : Hid (re = -pp) := Lib.hid (by rw [← hre.out,HDD.out])
   clear HDD HD HM HL HR HX
   go_wp2_with fail
   go_ret2
   rw [G1.out,G2.out]
   exact ⟨rfl,b6⟩
set_option maxRecDepth 100000 in
set_option maxHeartbeats 2000000 in
theorem short_A (mant : Nat) (k : Int) (h : Flo mant k) (m : Nat) (e : Int) (hm : m = mant * 2 ^ sft mant) (he : e = k - sft mant) (hsk : skewOf mant k = true) (w : World) (T : Rowz w) :
  Calls Tryz.prog 150 #[.int .u64 m,.int .i64 e] w fun e w' => e = .returned (.tuple #[.int .u64 (shortM mant k).1,.int .i64 (shortM mant k).2]) ∧ Below w.heap.size w w' := by
 have hk1 := h.lo
 have hk2 := h.hi
 have F := k_facts (skewOf mant k) k h.lo h.hi
 have G := sft_facts h.one h.top
 have SF := s_facts h
 obtain ⟨i,hi⟩ : ∃ i,Hid (ix (skewOf mant k) k = i) := ⟨_,rfl⟩
 obtain ⟨pp,hpp⟩ : ∃ p : Int,Hid (p = (i : Int) - 348) := ⟨_,rfl⟩
 obtain ⟨lp,hlp⟩ : ∃ p : Int,Hid (pp * 108853 / 32768 = p) := ⟨_,rfl⟩
 obtain ⟨S,hS⟩ : ∃ S,Hid (sOf mant k = S) := ⟨_,rfl⟩
 have i1 : 56 ≤ i ∧ i ≤ 672 := by rw [← hi.out]; exact ⟨F.lo,F.hi⟩
 have pb : -292 ≤ pp ∧ pp ≤ 324 := by have := hpp.out; omega
 have lb : -1000 ≤ lp ∧ lp ≤ 1080 := by have := hlp.out; omega
 have elp : lpOf i = lp := by
  obtain ⟨r,hr,_⟩ := T i (by omega)
  rw [(row_facts hr).lp,← hlp.out,hpp.out]
 have eS : (S : Int) = -(e + lp + 3) := by
  have s3 := SF.2.2.1
  have s4 := SF.2.2.2
  rw [hi.out,elp] at s4
  rw [hS.out] at s3
  omega
 have ipos := F.pos
 have eix : (i : Int) = (bif skewOf mant k then ixS k else ixN k) := by
  rw [← hi.out]; unfold ix; omega
 obtain ⟨r,hr,_⟩ := T i (by omega)
 rw [← hi.out] at hr
 have m64 : m < 18446744073709551616 := by rw [hm]; exact G.2.2.2
 have eT : mant * 2 ^ sft mant = 4 * mant * 2 ^ (sft mant - 2) := by
  rw [show sft mant = 2 + (sft mant - 2) by omega,Nat.pow_add,show 2 + (sft mant - 2) - 2 = sft mant - 2 by omega]
  generalize 2 ^ (sft mant - 2) = Z
  grind
 have hmk : mant = 4503599627370496 ∧ -1074 < k := by unfold skewOf at hsk; simpa using hsk
 have s11 : sft mant = 11 := sft_norm (by omega) h.top
 have em : m = mant * 2048 := by rw [hm,s11]
 have ek : e + 11 = k := by omega
 have hns : skewOf mant k = true := hsk
 have epp : -((k * 631305 - 261663) / 2097152) = pp := by
  have := hpp.out
  rw [hns] at eix
  simp only [cond_true] at eix
  unfold ixS at eix
  omega
 obtain ⟨mn,hmn⟩ : ∃ x,Hid (m - 512 = x) := ⟨_,rfl⟩
 obtain ⟨mx,hmx⟩ : ∃ x,Hid (m + 1024 = x) := ⟨_,rfl⟩
 have mant1 := h.one
 have mantt := h.top
 have emnI : (m : Int) - 512 = (mn : Int) := by have := hmn.out; omega
 have emxI : (m : Int) + 1024 = (mx : Int) := by have := hmx.out; omega
 have mx64 : mx < 18446744073709551616 := by have := hmx.out; omega
 have emn' : mn = cl mant (skewOf mant k) * 2 ^ (sft mant - 2) := by rw [← hmn.out,hns,s11,em]; unfold cl; simp only [cond_true]; omega
 have emx' : mx = (4 * mant + 2) * 2 ^ (sft mant - 2) := by rw [← hmx.out,s11,em]; omega
 have esh : (m : Int) / 2048 = (mant : Int) := by omega
 have UL := fun q W c0 c1 c2 => us_at h hr q W c0 c1 c2 (cl mant (skewOf mant k)) mn (cl_pos _ h.one) emn' (by omega)
 have UR := fun q W c0 c1 c2 => us_at h hr q W c0 c1 c2 (4 * mant + 2) mx (by omega) emx' mx64
 have UX := fun q W c0 c1 c2 => us_at h hr q W c0 c1 c2 (4 * mant) m (by have := h.one; omega) (by rw [hm,eT]) m64
 have bL := us_lt h hr (cl mant (skewOf mant k)) mn (cl_pos _ h.one) emn' (by omega)
 have bR := us_lt h hr (4 * mant + 2) mx (by omega) emx' mx64
 have bX := us_lt h hr (4 * mant) m (by have := h.one; omega) (by rw [hm,eT]) m64
 have hD0 := (fits_of h).pos
 have hg0 := (fits_of h).gpos
 have pR := unr_pos ((4 * mant + 2) * gOf mant k) (DOf mant k) (Nat.mul_pos (by omega) hg0)
 have HM : Hid (shortM mant k = ((shortD mant (skewOf mant k) (gOf mant k) (DOf mant k)).1,-pp + (if (shortD mant (skewOf mant k) (gOf mant k) (DOf mant k)).2 = true then 1 else 0))) := Lib.hid (by
  unfold shortM
  rw [hi.out,hpp.out,show -((i : Int) - 348) = 348 - (i : Int) by omega])
 have HL : Hid (lowD mant (skewOf mant k) (gOf mant k) (DOf mant k) = lowU (unr (cl mant (skewOf mant k) * gOf mant k) (DOf mant k)) (mant % 2)) := Lib.hid rfl
 have HR : Hid (topD mant (gOf mant k) (DOf mant k) = topU (unr ((4 * mant + 2) * gOf mant k) (DOf mant k)) (mant % 2)) := Lib.hid rfl
 have HX : Hid (midD mant (gOf mant k) (DOf mant k) = rndU (unr (4 * mant * gOf mant k) (DOf mant k))) := Lib.hid rfl
 rw [hS.out] at UL UR UX
 generalize unr (cl mant (skewOf mant k) * gOf mant k) (DOf mant k) = uL at *
 generalize unr ((4 * mant + 2) * gOf mant k) (DOf mant k) = uR at *
 generalize unr (4 * mant * gOf mant k) (DOf mant k) = uX at *
 obtain ⟨od,hod⟩ : ∃ o,Hid (mant % 2 = o) := ⟨_,rfl⟩
 have odb : od ≤ 1 := by have := hod.out; omega
 obtain ⟨dmin,hdmin⟩ : ∃ d,Hid (lowD mant (skewOf mant k) (gOf mant k) (DOf mant k) = d) := ⟨_,rfl⟩
 obtain ⟨dmax,hdmax⟩ : ∃ d,Hid (topD mant (gOf mant k) (DOf mant k) = d) := ⟨_,rfl⟩
 obtain ⟨dmid,hdmid⟩ : ∃ d,Hid (midD mant (gOf mant k) (DOf mant k) = d) := ⟨_,rfl⟩
 have HD : Hid (shortD mant (skewOf mant k) (gOf mant k) (DOf mant k) = if dmin ≤ dmax / 10 * 10 then (dmax / 10,true) else if dmin < dmax then (dmid,false) else (dmin,false)) := Lib.hid (by
  unfold shortD; rw [hdmin.out,hdmax.out,hdmid.out])
 have edmin : (uL + od + 3) / 4 = dmin := by rw [← hdmin.out,HL.out,hod.out]; rfl
 have edmax : (uR - od) / 4 = dmax := by rw [← hdmax.out,HR.out,hod.out]; rfl
 have edmid : rndU uX = dmid := by rw [← hdmid.out,HX.out]
 have nU : ∀ W,_ := fun W => nudge_up uL od W (by omega) odb
 have nD : ∀ W,_ := fun W => nudge_down uR od W (by omega) odb pR
 have cU : ∀ W,_ := fun W => ceil_any (uL + od) W (by omega)
 have fD : ∀ W,_ := fun W => floor_any (uR - od) W (by omega)
 have rX : ∀ W,_ := fun W => round_any uX W (by omega)
 rw [edmin] at cU
 rw [edmax] at fD
 rw [edmid] at rX
 have L10 : ∀ W,_ := fun W => skewed_any k W (by omega) (by omega)
 have L2 : ∀ W,_ := fun W => log2_any pp W (by omega) (by omega)
 rw [hlp.out] at L2
 have T' := Lib.hid T
 have hrow := Lib.hid hr
 have hi' := hi
 rw [hi.out] at hr
 have SC := fun W (TW : Rowz W) => scaler_any W TW i (by omega) e pp lp S hpp.out (by omega) (by omega) (by omega) (by omega) eS
 have i696 : i < 696 := by omega
 obtain ⟨ud,hud⟩ : ∃ u,Hid (uL + od = u) := ⟨_,rfl⟩
 obtain ⟨vd,hvd⟩ : ∃ u,Hid (uR - od = u) := ⟨_,rfl⟩
 rw [hud.out] at nU cU
 rw [hvd.out] at nD fD
 have hud64 : ud < 4611686018427387904 := by have := hud.out; omega
 have hdb : dmax < 1000000000000000000 ∧ dmin < 1000000000000000000 := by omega
 have oo : bits .and .i64 (mant : Int) 1 = (od : Int) := by rw [and1 mant,hod.out]
 have dm : ((m : Int) == 9223372036854775808) = true := by simp; omega
 have ng : -1085 < e := by omega
 clear hm he eT eS elp eix F G SF ipos i1 bL bR bX pR hD0 hg0 edmin edmax edmid hk1 hk2 hpp hlp hi hi' hrow hS em emn' emx' s11 hns hsk hmn hmx hmk
 obtain ⟨rd,hrd⟩ : ∃ x,Hid ((shortM mant k).1 = x) := ⟨_,rfl⟩
 obtain ⟨re,hre⟩ : ∃ x,Hid ((shortM mant k).2 = x) := ⟨_,rfl⟩
 rw [hrd.out,hre.out]
 go_enter Tryz.func150,Tryz.ntmps150
 go_wp2_with fail
 refine (L10 _).mono ?_
 rintro e' w1 ⟨rfl,rfl⟩
 go_wp2_with fail
 refine (L2 _).mono ?_
 rintro e' w2 ⟨rfl,rfl⟩
 go_wp2_with fail
 obtain ⟨W,r',hr',bW,c0,c1,c2,hP⟩ := SC w1 T'.out
 obtain rfl : r = r' := Option.some.inj (hr.symm.trans hr')
 refine hP.mono ?_
 rintro e' w3 ⟨rfl,rfl⟩
 clear hP L10 L2 SC T'
 have u1 := UL _ w3 c0 c1 c2
 go_wp2_with fail
 refine u1.mono ?_
 rintro e' w4 ⟨rfl,n1,rfl⟩
 obtain ⟨W4,hW4⟩ : ∃ W,Hid (W = w3.drewN n1) := ⟨_,rfl⟩
 have b4 : Below w1.heap.size w1 W4 := by rw [hW4.out]; exact below_drewN bW n1
 have u2 := UR w1.heap.size W4 (by rw [hW4.out]; exact c0) (by rw [hW4.out]; exact c1) (by rw [hW4.out]; exact c2)
 have u3 := fun n => UX w1.heap.size (W4.drewN n) (by rw [hW4.out]; exact c0) (by rw [hW4.out]; exact c1) (by rw [hW4.out]; exact c2)
 rw [← hW4.out]
 clear hW4 u1 c0 c1 c2 bW UL UR UX
 go_wp2_with fail
 refine (nU _).mono ?_
 rintro e' w5 ⟨rfl,rfl⟩
 go_wp2_with fail
 refine (cU _).mono ?_
 rintro e' w5 ⟨rfl,rfl⟩
 go_wp2_with fail
 refine u2.mono ?_
 rintro e' w6 ⟨rfl,n2,rfl⟩
 have u3 := u3 n2
 obtain ⟨W6,hW6⟩ : ∃ W,Hid (W = w5.drewN n2) := ⟨_,rfl⟩
 have b6 : Below w1.heap.size w1 W6 := by rw [hW6.out]; exact below_drewN b4 n2
 rw [← hW6.out] at u3 ⊢
 clear hW6 u2 b4 nU cU
 go_wp2_with fail
 refine (nD _).mono ?_
 rintro e' w7 ⟨rfl,rfl⟩
 go_wp2_with fail
 refine (fD _).mono ?_
 rintro e' w7 ⟨rfl,rfl⟩
 clear nD fD
 obtain ⟨dt,hdt⟩ : ∃ d,Hid (dmax / 10 = d) := ⟨_,rfl⟩
 have edt : (dmax : Int) / 10 = (dt : Int) := by have := hdt.out; omega
 have dtb : dt ≤ dmax := by have := hdt.out; omega
 have hdb1 := hdb.1
 have hdb2 := hdb.2
 clear hdb
 by_cases t1 : dmin ≤ dt * 10
 ·have HDD : Hid (shortM mant k = (dt,-pp + 1)) := Lib.hid (by rw [HM.out,HD.out,hdt.out,if_pos t1]; simp)
  have t1' : (dmin : Int) ≤ (dt : Int) * 10 := by omega
  have g1 : rd = dt := by rw [← hrd.out,HDD.out]
  have g2 : re = -(pp - 1) := by rw [← hre.out,HDD.out]; show -pp + 1 = -(pp - 1); omega
  have G1 := Lib.hid g1
  have G2 := Lib.hid g2
  clear HDD HD HM HL HR HX g1 g2
  go_wp2_with fail
  go_ret2
  rw [G1.out,G2.out]
  exact ⟨by simp,b6⟩
 ·have t1' : decide ((dmin : Int) ≤ (dt : Int) * 10) = false := by simp; omega
  by_cases t2 : dmin < dmax
  ·have HDD : Hid (shortM mant k = (dmid,-pp)) := Lib.hid (by rw [HM.out,HD.out,hdt.out,if_neg t1,if_pos t2]; simp)
   have t2' : (dmin : Int) < (dmax : Int) := by omega
   have G1 : Hid (rd = dmid) := Lib.hid (by rw [← hrd.out,HDD.out])
   have G2 : Hid (re = -pp) := Lib.hid (by rw [← hre.out,HDD.out])
   clear HDD HD HM HL HR HX
   go_wp2_with fail
   refine u3.mono ?_
   rintro e' w8 ⟨rfl,n3,rfl⟩
   go_wp2_with fail
   refine (rX _).mono ?_
   rintro e' w9 ⟨rfl,rfl⟩
   go_wp2_with fail
   go_ret2
   rw [G1.out,G2.out]
   exact ⟨rfl,below_drewN b6 n3⟩
  ·have HDD : Hid (shortM mant k = (dmin,-pp)) := Lib.hid (by rw [HM.out,HD.out,hdt.out,if_neg t1,if_neg t2]; simp)
   have t2' : decide ((dmin : Int) < (dmax : Int)) = false := by simp; omega
   have G1 : Hid (rd = dmin) := Lib.hid (by rw [← hrd.out,HDD.out])
   have G2 : Hid (re = -pp) := Lib.hid (by rw [← hre.out,HDD.out])
   clear HDD HD HM HL HR HX
   go_wp2_with fail
   go_ret2
   rw [G1.out,G2.out]
   exact ⟨rfl,b6⟩
end Go.Proofs.YtalaajniammggaaGreatDoor
