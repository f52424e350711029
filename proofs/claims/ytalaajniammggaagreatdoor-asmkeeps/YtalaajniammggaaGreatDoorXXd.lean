/- The law's own small functions; words and numbers of 64 bits. -/
import Derived.Test.YtalaajniammggaaGreatDoorXWa
import Derived.Laws.BitsAllLaws
import Derived.Test.YtalaajniammggaaGreatDoorXXc
namespace Go.Proofs.YtalaajniammggaaGreatDoor
open Go.RowKit
theorem wd_lt (b : Int) : wd b < 2 ^ 64 := by
 unfold wd
 rw [IntKind.wrap_u64]
 omega
theorem wd_wrap (x : Nat) (h : x < 2 ^ 64) : wd (wrap64 (x : Int)) = x := by
 unfold wd wrap64
 rw [IntKind.wrap_u64]
 omega
theorem wrap_u64_wd (b : Int) : IntKind.u64.wrap b = (wd b : Int) := by
 unfold wd
 rw [IntKind.wrap_u64]
 omega
theorem xor_low (y : Nat) (h : y < 2 ^ 63) : y ^^^ 2 ^ 63 = y + 2 ^ 63 := by
 apply Nat.eq_of_testBit_eq
 intro i
 rw [Nat.testBit_xor,Nat.testBit_two_pow,Nat.add_comm y]
 by_cases hi : i = 63
 ·subst hi
  rw [Nat.testBit_two_pow_add_eq]
  simp
 ·by_cases hl : i < 63
  ·rw [Nat.testBit_two_pow_add_gt hl]
   have : ¬ 63 = i := by omega
   simp [this]
  ·have h1 : y.testBit i = false := Nat.testBit_lt_two_pow (Nat.lt_of_lt_of_le h (Nat.pow_le_pow_right (by decide) (by omega)))
   have h2 : (2 ^ 63 + y).testBit i = false := Nat.testBit_lt_two_pow (Nat.lt_of_lt_of_le (show 2 ^ 63 + y < 2 ^ 64 by omega) (Nat.pow_le_pow_right (by decide) (by omega)))
   have h3 : ¬ 63 = i := by omega
   rw [h1,h2]; simp [h3]
theorem xor_flip (x : Nat) (h : x < 2 ^ 64) : x ^^^ 2 ^ 63 = flip x := by
 unfold flip
 by_cases hx : x < 2 ^ 63
 ·rw [if_pos hx,xor_low x hx]
 ·rw [if_neg hx]
  obtain ⟨y,rfl⟩ : ∃ y,x = y + 2 ^ 63 := ⟨x - 2 ^ 63,by omega⟩
  rw [← xor_low y (by omega),Nat.xor_assoc,Nat.xor_self,Nat.xor_zero,xor_low y (by omega)]
  omega
end Go.Proofs.YtalaajniammggaaGreatDoor

/- Print of numbers and infinities. -/
namespace Go.Proofs.YtalaajniammggaaGreatDoor
open Go.RowKit
theorem gt_max (x : Nat) (h : rungOf x ≤ INF) : (FloatKind.f64.format.order x 9218868437227405311 == some .gt) = (!negOf x && decide (rungOf x = INF)) := by
 show (Ieee.double.order x 9218868437227405311 == some .gt) = _
 have hr : rungOf 9218868437227405311 = INF - 1 := by decide +kernel
 have hn : negOf 9218868437227405311 = false := by decide +kernel
 rw [order_key x 9218868437227405311 h (by rw [hr]; omega)]
 have hKm : K 9218868437227405311 = (V (INF - 1) : Int) := by unfold K; rw [hn,hr]; rfl
 rw [hKm]
 have hI : 1 ≤ INF := by decide
 cases hs : negOf x with
 | true =>
  have hKx : K x = -(V (rungOf x) : Int) := by unfold K; rw [hs]; rfl
  rw [hKx]
  have : compare (-(V (rungOf x) : Int)) (V (INF - 1) : Int) ≠ .gt := by
   rw [Ne,Int.compare_eq_gt]; omega
  cases hc : compare (-(V (rungOf x) : Int)) (V (INF - 1) : Int) with
  | gt => exact absurd hc this
  | lt => rfl
  | eq => rfl
 | false =>
  have hKx : K x = (V (rungOf x) : Int) := by unfold K; rw [hs]; rfl
  rw [hKx]
  by_cases hi : rungOf x = INF
  ·rw [hi]
   have : compare (V INF : Int) (V (INF - 1) : Int) = .gt := by
    rw [Int.compare_eq_gt]
    have := V_lt (INF - 1) INF (by omega)
    omega
   rw [this]
   simp
  ·have hle : rungOf x ≤ INF - 1 := by omega
   have : compare (V (rungOf x) : Int) (V (INF - 1) : Int) ≠ .gt := by
    rw [Ne,Int.compare_eq_gt]
    have := V_le (rungOf x) (INF - 1) hle
    omega
   rw [decide_eq_false hi]
   cases hc : compare (V (rungOf x) : Int) (V (INF - 1) : Int) with
   | gt => exact absurd hc this
   | lt => rfl
   | eq => rfl
theorem isInf_pos (x : Nat) (h : rungOf x ≤ INF) (W : World) : Calls Tryz.prog 79 #[.float .f64 x,.int .i64 1] W fun e w' => e = .returned (.bool (!negOf x && decide (rungOf x = INF))) ∧ w' = W := by
 have hg := gt_max x h
 generalize (!negOf x && decide (rungOf x = INF)) = b at *
 go_enter Tryz.func79,Tryz.ntmps79
 go_wp2
 go_ret
 exact ⟨rfl,rfl⟩
theorem neg_flip (x : Nat) (h : x < 18446744073709551616) : Op.negFloat FloatKind.f64 x = flip x := by
 show x ^^^ 2 ^ 63 = flip x
 exact xor_flip x h
theorem isInf_neg (x : Nat) (hx : x < 18446744073709551616) (h : rungOf x ≤ INF) (W : World) : Calls Tryz.prog 79 #[.float .f64 x,.int .i64 (-1)] W fun e w' => e = .returned (.bool (negOf x && decide (rungOf x = INF))) ∧ w' = W := by
 have hx' : x < 2 ^ 64 := hx
 have hg := gt_max (flip x) (by rw [rungOf_flip x hx']; exact h)
 rw [rungOf_flip x hx',negOf_flip x hx',Bool.not_not] at hg
 have hn : ∀ V : World,(Op.unary .neg (.float .f64 x)).run Tryz.prog V = .ok (.float .f64 (flip x)) V := fun V => by rw [← neg_flip x hx]; rfl
 generalize (negOf x && decide (rungOf x = INF)) = b at *
 generalize flip x = y at *
 go_enter Tryz.func79,Tryz.ntmps79
 go_wp2
 go_ret
 exact ⟨rfl,rfl⟩
def numL (x : Nat) : List UInt8 := if rungOf x = INF then (if negOf x then [45,105,110,102] else [105,110,102]) else txtL (negOf x) (gF x) (nF x) (XF x)
set_option maxRecDepth 100000 in
set_option maxHeartbeats 1000000 in
theorem print_num (b : Int) (h : rungOf (wd b) ≤ INF) (w : World) (T : Tabs w) (R : Rowz w) :
  Calls Tryz.prog 63 #[.int .i64 b] w fun e w' => e = .returned (.string ⟨(numL (wd b)).toArray⟩) ∧ Below w.heap.size w w' := by
 have hx : wd b < 18446744073709551616 := wd_lt b
 have h18 := floatOf_wd b
 have h29 := isNaN_any (wd b)
 rw [decide_eq_false (by omega)] at h29
 have hp := isInf_pos (wd b) h
 have hm := isInf_neg (wd b) hx h
 have hD := fun hf => decimal_any (wd b) hx hf w T R
 unfold numL
 generalize wd b = x at *
 by_cases hi : rungOf x = INF
 ·rw [if_pos hi]
  rw [decide_eq_true hi,Bool.and_true] at hp hm
  cases hs : negOf x
  ·rw [hs] at hp
   go_enter Tryz.func63,Tryz.ntmps63
   go_wp2_with fail
   refine (h18 _).mono ?_
   rintro e w' ⟨rfl,rfl⟩
   go_wp2_with fail
   refine (h29 _).mono ?_
   rintro e w' ⟨rfl,rfl⟩
   go_wp2_with fail
   refine (hp _).mono ?_
   rintro e w' ⟨rfl,rfl⟩
   go_wp2_with fail
   go_ret
   exact ⟨rfl,Below.refl _ _⟩
  ·rw [hs] at hp hm
   go_enter Tryz.func63,Tryz.ntmps63
   go_wp2_with fail
   refine (h18 _).mono ?_
   rintro e w' ⟨rfl,rfl⟩
   go_wp2_with fail
   refine (h29 _).mono ?_
   rintro e w' ⟨rfl,rfl⟩
   go_wp2_with fail
   refine (hp _).mono ?_
   rintro e w' ⟨rfl,rfl⟩
   go_wp2_with fail
   refine (hm _).mono ?_
   rintro e w' ⟨rfl,rfl⟩
   go_wp2_with fail
   go_ret
   exact ⟨rfl,Below.refl _ _⟩
 ·rw [if_neg hi]
  rw [decide_eq_false hi,Bool.and_false] at hp hm
  have hD := hD (by omega)
  generalize txtL (negOf x) (gF x) (nF x) (XF x) = L at *
  go_enter Tryz.func63,Tryz.ntmps63
  go_wp2_with fail
  refine (h18 _).mono ?_
  rintro e w' ⟨rfl,rfl⟩
  go_wp2_with fail
  refine (h29 _).mono ?_
  rintro e w' ⟨rfl,rfl⟩
  go_wp2_with fail
  refine (hp _).mono ?_
  rintro e w' ⟨rfl,rfl⟩
  go_wp2_with fail
  refine (hm _).mono ?_
  rintro e w' ⟨rfl,rfl⟩
  go_wp2_with fail
  refine hD.mono ?_
  rintro e w2 ⟨rfl,hb⟩
  go_wp2_with fail
  go_ret
  exact ⟨rfl,hb⟩
end Go.Proofs.YtalaajniammggaaGreatDoor

/- Numbers in hexadecimal digits. -/
namespace Go.Proofs.YtalaajniammggaaGreatDoor
open Go.RowKit
def hx (k : Nat) : UInt8 := UInt8.ofNat (if k < 10 then 48 + k else 87 + k)
def hexL (u : Nat) : List UInt8 := if _h : u < 16 then [hx u] else hexL (u / 16) ++ [hx (u % 16)]
termination_by u
decreasing_by omega
theorem hexL_small {u : Nat} (h : u < 16) : hexL u = [hx u] := by rw [hexL,dif_pos h]
theorem hexL_big {u : Nat} (h : ¬ u < 16) : hexL u = hexL (u / 16) ++ [hx (u % 16)] := by rw [hexL,dif_neg h]
theorem hexL_len : ∀ (n u : Nat),u < 16 ^ (n + 1) → (hexL u).length ≤ n + 1
 | 0,u,h => by rw [hexL_small (by simpa using h)]; simp
 | n + 1,u,h => by
  by_cases hu : u < 16
  ·rw [hexL_small hu]; simp
  ·rw [hexL_big hu]
   have := hexL_len n (u / 16) (by rw [Nat.pow_succ] at h; omega)
   simp
   omega
theorem hexL_pos (u : Nat) : 1 ≤ (hexL u).length := by
 by_cases hu : u < 16
 ·rw [hexL_small hu]; simp
 ·rw [hexL_big hu]; simp
theorem and15 (n : Nat) (h : n < 18446744073709551616) : bits .and .u64 (n : Int) 15 = ((n % 16 : Nat) : Int) := by
 have := u64_and_nat n 15 h (by omega)
 rw [show (15 : Nat) = 2 ^ 4 - 1 from rfl,Nat.and_two_pow_sub_one_eq_mod] at this
 exact this
theorem pow2_16 (w : World) : Calls Tryz.prog 101 #[.int .i64 16] w fun e w' => e = .returned (.bool true) ∧ w' = w := by
 have hb : bits .and .i64 16 15 = 0 := by kernel_rfl
 go_enter Tryz.func101,Tryz.ntmps101
 go_wp2
 go_ret
 exact ⟨rfl,rfl⟩
def Zer (w : World) : Prop := w.cell? ⟨6,15,none⟩ = some (.int .u8 4)
theorem Zer.kept {w w' : World} (h : Zer w) (hb : Below w.heap.size w w') : Zer w' := (hb.cell (World.block_lt_of_cell? w _ h)).trans h
theorem tz_16 (w : World) (Z : Zer w) : Calls Tryz.prog 102 #[.int .u64 16] w fun e w' => e = .returned (.int .i64 4) ∧ w' = w := by
 have h2 : Calls Tryz.prog 115 #[.int .u64 16] w fun e w' => e = .returned (.int .i64 4) ∧ w' = w := by
  have hc : w.cell? ⟨6,15,none⟩ = some (.int .u8 4) := Z
  have hw : IntKind.u64.wrap (-16) = 18446744073709551600 := by kernel_rfl
  have hb : bits .and .u64 16 18446744073709551600 = 16 := by kernel_rfl
  go_enter Tryz.func115,Tryz.ntmps115
  go_wp2
  go_ret
  exact ⟨rfl,rfl⟩
 go_enter Tryz.func102,Tryz.ntmps102
 go_wp2_with (go_at_call 115; refine h2.mono ?_; rintro e w' ⟨rfl,rfl⟩)
 go_ret
 exact ⟨rfl,rfl⟩
theorem dig_at : ∀ k : Fin 16,((⟨#[48,49,50,51,52,53,54,55,56,57,97,98,99,100,101,102,103,104,105,106,107,108,109,110,111,112,113,114,115,116,117,118,119,120,121,122]⟩ : ByteArray)[k.val]'(by have := k.isLt; show k.val < 36; omega)) = hx k.val := by decide +kernel
theorem addr_plus (b off j : Nat) : (⟨b,off,none⟩ : Addr).add j = ⟨b,off + j,none⟩ := by
 unfold Addr.add
 split
 ·rename_i h; subst h; rfl
 ·rfl
structure Hexed (B q : Nat) (wr : World) (u v i : Nat) (S : List UInt8) (xs : List Value) : Prop where
 own : wr.ownsRow B 133 1 (.slice (some ⟨q,0,none⟩) 65 65) 65 xs
 len : i + S.length = 65
 all : hexL u = hexL v ++ S
 at_ : ∀ t,t < S.length → xs[i + t]? = some (.int .u8 ((S.getD t 0).toNat : Int))
 lt : v < 18446744073709551616
theorem Hexed.bound {B q : Nat} {wr : World} {u v i : Nat} {S : List UInt8} {xs : List Value} (h : Hexed B q wr u v i S xs) (hu : u < 18446744073709551616) : 50 ≤ i ∧ i ≤ 65 := by
 have h1 := congrArg List.length h.all
 have h2 := hexL_len 15 u hu
 have h3 := hexL_pos v
 have h4 := h.len
 rw [List.length_append] at h1
 omega
theorem Hexed.put {B q : Nat} {wr : World} {u v i : Nat} {S : List UInt8} {xs : List Value} (h : Hexed B q wr u v i S xs) (hu : u < 18446744073709551616) (hv : ¬ v < 16) :
  Hexed B q (wr.setCell ⟨q,i - 1,none⟩ (.int .u8 ((hx (v % 16)).toNat : Int))) u (v / 16) (i - 1) (hx (v % 16) :: S) (xs.set (i - 1) (.int .u8 ((hx (v % 16)).toNat : Int))) := by
 have hb := h.bound hu
 have hl := h.len
 have hx1 := h.own.1
 refine ⟨(h.own.stored (i - 1) _).1,by simp; omega,by rw [h.all,hexL_big hv]; simp,?_,by have := h.lt; omega⟩
 intro t ht
 cases t with
 | zero =>
  rw [Nat.add_zero,List.getElem?_set]
  simp
  omega
 | succ t =>
  rw [List.getElem?_set_ne (by omega),show i - 1 + (t + 1) = i + t by omega]
  have := h.at_ t (by simpa using ht)
  simpa using this
set_option maxRecDepth 100000 in
set_option maxHeartbeats 2000000 in
theorem formatBits_any (u : Nat) (hu : u < 18446744073709551616) (w : World) (Z : Zer w) :
  Calls Tryz.prog 84 #[.slice none 0 0,.int .u64 u,.int .i64 16,.bool false,.bool false] w fun e w' => e = .returned (.tuple #[.slice none 0 0,.string ⟨(hexL u).toArray⟩]) ∧ Below w.heap.size w w' := by
 have hp := pow2_16
 have ht := fun W (ZW : Zer W) => tz_16 W ZW
 have HZ := Lib.hid Z
 have HU := Lib.hid hu
 clear Z
 go_enter Tryz.func84,Tryz.ntmps84
 go_wp2_with fail
 refine (hp _).mono ?_
 rintro e w1 ⟨rfl,rfl⟩
 obtain ⟨W,hW⟩ : ∃ W,Hid (W = w.alloc (.cells Tryz.zeroCells133 133)) := ⟨_,rfl⟩
 have bW : Below w.heap.size w W := by rw [hW.out]; exact (Below.refl _ _).alloc (Nat.le_refl _) _
 have ez : Tryz.zeroCells133 = Array.replicate 65 (.int .u8 0) := by kernel_rfl
 have oW : W.ownsRow w.heap.size 133 1 (.slice (some ⟨w.heap.size,0,none⟩) 65 65) 65 (List.replicate 65 (.int .u8 0)) := by
  rw [hW.out,ez]
  have := World.ownsRow_lit (base := w.heap.size) (e := 133) (size := 1) w (Array.replicate 65 (.int .u8 0)) 65 (Nat.le_refl _) (by unfold maxLen; omega) (by simp)
  simpa using this
 rw [← hW.out]
 clear hW
 go_wp2_with fail
 refine (ht W (HZ.out.kept bW)).mono ?_
 rintro e w2 ⟨rfl,rfl⟩
 go_wp2_with fail
 go_loopw [1,13] (fun v1 v13 wr => ∃ (v i : Nat) (S : List UInt8) (xs : List Value),v1 = .int .u64 v ∧ v13 = .int .i64 i ∧ Hid (Hexed w.heap.size w.heap.size wr u v i S xs) ∧ Below w.heap.size w wr) (fun v1 _ _ => (intOf v1).toNat)
 case atStart => exact ⟨u,65,[],_,rfl,rfl,Lib.hid ⟨oW,rfl,by simp,fun t ht => absurd ht (Nat.not_lt_zero t),hu⟩,bW⟩
 case round =>
  obtain ⟨v,i,S,xs,rfl,rfl,HX,hb⟩ := hrel
  have bd := HX.out.bound HU.out
  have vlt := HX.out.lt
  have f0 := HX.out.own.frozenAt (i - 1)
  have c0 : ∃ y,wr.cell? ⟨w.heap.size,i - 1,none⟩ = some y := ⟨xs[i - 1]'(by have := HX.out.own.1; omega),by rw [HX.out.own.cellAt _ (by omega),List.getElem?_eq_getElem (by have := HX.out.own.1; omega)]⟩
  obtain ⟨y,c0⟩ := c0
  obtain ⟨j,hj⟩ : ∃ j,Hid (i - 1 = j) := ⟨_,rfl⟩
  have ej : (i : Int) - 1 = (j : Int) := by have := hj.out; omega
  have jb : j < 65 := by have := hj.out; omega
  rw [hj.out] at f0 c0
  by_cases hv : v < 16
  ·have hge : decide ((16 : Int) ≤ (v : Int)) = false := by simp; omega
   have hlt : (v : Int) < 16 := by omega
   have hd1 := dig_at ⟨v,hv⟩
   simp only at hd1
   have P : hexL u = hx v :: S := by rw [HX.out.all,hexL_small hv]; rfl
   have hl : S.length + 1 = 65 - j := by have := HX.out.len; have := hj.out; omega
   have o2 := (HX.out.own.stored j (.int .u8 ((hx v).toNat : Int))).1
   have hcell : ∀ t,t < (hexL u).length → (wr.setCell ⟨w.heap.size,j,none⟩ (.int .u8 ((hx v).toNat : Int))).cell? ((⟨w.heap.size,j,none⟩ : Addr).add t) = some (.int .u8 (((hexL u).getD t 0).toNat : Int)) := fun t ht => by
    have hxl := HX.out.own.1
    rw [P] at ht ⊢
    simp only [List.length_cons] at ht
    rw [addr_plus]
    rw [o2.cellAt (j + t) (by omega)]
    cases t with
    | zero => rw [Nat.add_zero,List.getElem?_set]; simp; omega
    | succ t =>
     rw [List.getElem?_set_ne (by omega),show j + (t + 1) = i + t by have := hj.out; omega,HX.out.at_ t (by omega)]
     simp
   have ePl : (hexL u).length = 65 - j := by rw [P]; simp; omega
   have hs : ∀ c,(convert 43 9 (.slice (some ⟨w.heap.size,j,none⟩) (65 - j) c)).run Tryz.prog (wr.setCell ⟨w.heap.size,j,none⟩ (.int .u8 ((hx v).toNat : Int))) = .ok (.string ⟨(hexL u).toArray⟩) (wr.setCell ⟨w.heap.size,j,none⟩ (.int .u8 ((hx v).toNat : Int))) := fun c => by
    rw [← ePl]
    refine run_convert_bytes_back _ 43 9 5 _ c (hexL u) Tryz.underlying43 Tryz.underlying5 Tryz.underlying9 ?_
    intro t ht
    rw [hcell t ht]
    simp [List.getD_eq_getElem?_getD,ht]
   have hal : Tryz.prog.arrayLen 133 = 65 := by kernel_rfl
   have hel : Tryz.prog.elem 133 = 5 := by kernel_rfl
   have hsl : ∀ W,(Instr.sliceAt 133 (.pointer (some ⟨w.heap.size,0,none⟩)) (some (.int .i64 (j : Int))) none none).run Tryz.prog W = .ok (.slice (some ⟨w.heap.size,j,none⟩) (65 - j) (65 - j)) W := fun W => by
    rw [run_sliceAt_array_l W 133 ⟨w.heap.size,0,none⟩ (by rw [hal,hel]; exact Tryz.underlying133) .i64 (j : Int) (by omega) (by rw [hal]; omega),hal,hel,Tryz.sizeOf5]
    show Result.ok (slicedAt ⟨w.heap.size,0,none⟩ (j : Int).toNat 65 65 1) W = _
    unfold slicedAt
    rw [Int.toNat_natCast,if_neg (by omega),addr_plus,Nat.zero_add,Nat.mul_one]
   clear hcell o2 P ePl hl HX hal hel
   obtain ⟨L,hL⟩ : ∃ L,Hid (hexL u = L) := ⟨_,rfl⟩
   rw [hL.out] at hs
   go_wp2_with fail
   go_ret2
   exact ⟨by rw [hL.out]; rfl,hb.setCell (Nat.le_refl _) _⟩
  ·have hge : (16 : Int) ≤ (v : Int) := by omega
   have a15 : bits .and .u64 (v : Int) 15 = ((v % 16 : Nat) : Int) := and15 v vlt
   obtain ⟨k,hk⟩ : ∃ k,Hid (v % 16 = k) := ⟨_,rfl⟩
   have kb : k < 16 := by have := hk.out; omega
   rw [hk.out] at a15
   have hd1 := dig_at ⟨k,kb⟩
   simp only at hd1
   go_wp2_with fail
   have P := HX.out.put HU.out hv
   rw [hj.out,hk.out] at P
   refine ⟨⟨v / 16,j,hx k :: S,_,?_,rfl,Lib.hid P,hb.setCell (Nat.le_refl _) _⟩,?_⟩
   ·rw [show ((v / 16 : Nat) : Int) = (v : Int) / 16 by omega]
   ·simp [intOf]; omega
set_option maxRecDepth 100000 in
theorem formatUint_any (u : Nat) (hu : u < 18446744073709551616) (w : World) (Z : Zer w) :
  Calls Tryz.prog 78 #[.int .u64 u,.int .i64 16] w fun e w' => e = .returned (.string ⟨(hexL u).toArray⟩) ∧ Below w.heap.size w w' := by
 have hF := formatBits_any u hu w Z
 generalize hexL u = L at *
 have h2 : Calls Tryz.prog 94 #[.int .u64 u,.int .i64 16] w fun e w' => e = .returned (.string ⟨L.toArray⟩) ∧ Below w.heap.size w w' := by
  go_enter Tryz.func94,Tryz.ntmps94
  go_wp2_with fail
  refine hF.mono ?_
  rintro e w1 ⟨rfl,hb⟩
  go_wp2_with fail
  go_ret
  exact ⟨rfl,hb⟩
 go_enter Tryz.func78,Tryz.ntmps78
 go_wp2_with fail
 refine h2.mono ?_
 rintro e w1 ⟨rfl,hb⟩
 go_wp2_with fail
 go_ret
 exact ⟨rfl,hb⟩
def printL (x : Nat) : List UInt8 := if INF < rungOf x then [110,97,110,58] ++ hexL x else numL x
set_option maxRecDepth 100000 in
set_option maxHeartbeats 1000000 in
theorem print_any (b : Int) (w : World) (T : Tabs w) (R : Rowz w) (Z : Zer w) :
  Calls Tryz.prog 63 #[.int .i64 b] w fun e w' => e = .returned (.string ⟨(printL (wd b)).toArray⟩) ∧ Below w.heap.size w w' := by
 by_cases h : rungOf (wd b) ≤ INF
 ·have := print_num b h w T R
  unfold printL
  rw [if_neg (by omega)]
  exact this
 ·have hx : wd b < 18446744073709551616 := wd_lt b
  have h18 := floatOf_wd b
  have h29 := isNaN_any (wd b)
  rw [decide_eq_true (by omega)] at h29
  have hF := formatUint_any (wd b) hx w Z
  have hw : IntKind.u64.wrap b = (wd b : Int) := wrap_u64_wd b
  unfold printL
  rw [if_pos (by omega)]
  have hl := hexL_len 15 (wd b) hx
  generalize wd b = x at *
  generalize hexL x = L at *
  obtain ⟨sL,hsL⟩ : ∃ s : ByteArray,Hid (s = ⟨L.toArray⟩) := ⟨_,Lib.hid rfl⟩
  have e1 : (⟨([110,97,110,58] ++ L).toArray⟩ : ByteArray) = ⟨#[110,97,110,58]⟩ ++ sL := by
   rw [hsL.out]
   apply ba_ext
   simp
  rw [e1]
  rw [← hsL.out] at hF
  have ad1 : ∀ W,(Op.stringOp .add ⟨#[110,97,110,58]⟩ sL).run Tryz.prog W = .ok (.string (⟨#[110,97,110,58]⟩ ++ sL)) W := fun W => run_string_add_sum W _ sL (by rw [hsL.out]; show 4 + L.toArray.size ≤ _; simp; omega)
  clear e1 h hx
  go_enter Tryz.func63,Tryz.ntmps63
  go_wp2_with fail
  refine (h18 _).mono ?_
  rintro e w' ⟨rfl,rfl⟩
  go_wp2_with fail
  refine (h29 _).mono ?_
  rintro e w' ⟨rfl,rfl⟩
  go_wp2_with fail
  refine hF.mono ?_
  rintro e w1 ⟨rfl,hb⟩
  go_wp2_with fail
  go_ret
  exact ⟨rfl,hb⟩
end Go.Proofs.YtalaajniammggaaGreatDoor
