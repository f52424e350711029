/- flt.Parse, over what atof64 answers. -/
import Derived.Test.YtalaajniammggaaGreatDoorXXh
import Derived.Test.YtalaajniammggaaGreatDoorXEb
import Derived.Test.YtalaajniammggaaGreatDoorXEc
namespace Go.Proofs.YtalaajniammggaaGreatDoor
open Go.RowKit
structure All (w : World) : Prop where
 tabs : Tabs w
 rowz : Rowz w
 zer : Zer w
 powz : Powz w
 errz : Errz w
 slow : Slow w
 blk : Blk w
theorem All.kept {w w' : World} (h : All w) (hb : Below w.heap.size w w') : All w' := ⟨h.tabs.kept hb,h.rowz.kept hb,h.zer.kept hb,h.powz.kept hb,h.errz.kept hb,h.slow.kept hb,h.blk.kept (World.block_lt_of_cell? w _ h.slow.i0) hb⟩
def AtofTotal : Prop := ∀ (s : ByteArray),s.size ≤ 140737488355328 → ∀ w,All w → Calls Tryz.prog 171 #[.string s] w fun e w' => ∃ f n k : Nat,n ≤ s.size ∧ k ≤ 2 ∧ e = .returned (.tuple #[.float .f64 f,.int .i64 n,errV k]) ∧ Below w.heap.size w w'
def AtofRight : Prop := ∀ x,x < 18446744073709551616 → rungOf x ≤ INF → ∀ w,All w → Calls Tryz.prog 171 #[.string ⟨(numL x).toArray⟩] w fun e w' => e = .returned (.tuple #[.float .f64 x,.int .i64 (numL x).length,.nilIface]) ∧ Below w.heap.size w w'
set_option maxRecDepth 100000 in
theorem pfloat_total (H : AtofTotal) (s : ByteArray) (hs : s.size ≤ 140737488355328) (w : World) (A : All w) :
  Calls Tryz.prog 124 #[.string s,.int .i64 64] w fun e w' => ∃ f k err,e = .returned (.tuple #[.float .f64 f,err]) ∧ ErrIs k err ∧ Below w.heap.size w w' := by
 have h1 : Calls Tryz.prog 151 #[.string s,.int .i64 64] w fun e w' => ∃ f n k : Nat,n ≤ s.size ∧ k ≤ 2 ∧ e = .returned (.tuple #[.float .f64 f,.int .i64 n,errV k]) ∧ Below w.heap.size w w' := by
  have h0 := H s hs w A
  go_enter Tryz.func151,Tryz.ntmps151
  go_wp2_with fail
  refine h0.mono ?_
  rintro e w1 ⟨f,n,k,hn,hk,rfl,b1⟩
  go_wp2_with fail
  go_ret3
  exact ⟨f,n,k,hn,hk,rfl,b1⟩
 have h2 : Calls Tryz.prog 134 #[.string s,.int .i64 64] w fun e w' => ∃ f k : Nat,k ≤ 2 ∧ e = .returned (.tuple #[.float .f64 f,errV k]) ∧ Below w.heap.size w w' := by
  go_enter Tryz.func134,Tryz.ntmps134
  go_wp2_with fail
  refine h1.mono ?_
  rintro e w1 ⟨f,n,k,hn,hk,rfl,b1⟩
  obtain ⟨v,hv⟩ : ∃ v,Hid (errV k = v) := ⟨_,rfl⟩
  rw [hv.out]
  by_cases hns : n = s.size
  ·have d1 : ((n : Int) == (s.size : Int)) = true := by rw [beq_iff_eq]; omega
   have hns' := Lib.hid hns
   clear hns
   go_wp2_with fail
   go_ret2
   exact ⟨f,k,hk,by rw [hv.out]; rfl,b1⟩
  ·have d1 : ((n : Int) == (s.size : Int)) = false := by rw [beq_eq_false_iff_ne]; omega
   go_wp2_with fail
   go_ret2
   exact ⟨0,2,by omega,rfl,b1⟩
 go_enter Tryz.func124,Tryz.ntmps124
 go_wp2_with fail
 refine h2.mono ?_
 rintro e w1 ⟨f,k,hk,rfl,b1⟩
 by_cases h0 : k = 0
 ·subst h0
  have e0 : errV 0 = .nilIface := rfl
  rw [e0]
  go_wp2_with fail
  go_ret2
  exact ⟨f,0,_,rfl,rfl,b1⟩
 ·have ek : errV k = .iface 153 (.int .i64 k) := by unfold errV; rw [if_neg h0]
  rw [ek]
  have hT := toErr ⟨#[80,97,114,115,101,70,108,111,97,116]⟩ s 0 64 k (by omega) hs w1 (A.kept b1).errz
  go_wp2_with fail
  refine hT.mono ?_
  rintro e w2 ⟨N,rfl,b2⟩
  go_wp2_with fail
  go_ret2
  refine ⟨f,k,_,rfl,?_,b1.trans (b2.mono b1.size)⟩
  unfold ErrIs
  rw [if_neg h0]
  exact ⟨N,rfl⟩
set_option maxRecDepth 100000 in
theorem pfloat_right (H : AtofRight) (x : Nat) (hx : x < 18446744073709551616) (hr : rungOf x ≤ INF) (w : World) (A : All w) :
  Calls Tryz.prog 124 #[.string ⟨(numL x).toArray⟩,.int .i64 64] w fun e w' => e = .returned (.tuple #[.float .f64 x,.nilIface]) ∧ Below w.heap.size w w' := by
 have h0 := H x hx hr w A
 obtain ⟨s,hs⟩ : ∃ s : ByteArray,Hid (s = ⟨(numL x).toArray⟩) := ⟨_,Lib.hid rfl⟩
 have hsz : s.size = (numL x).length := by rw [hs.out]; show (numL x).toArray.size = _; simp
 rw [← hs.out,← hsz] at h0
 rw [← hs.out]
 clear hs hsz
 have h1 : Calls Tryz.prog 151 #[.string s,.int .i64 64] w fun e w' => e = .returned (.tuple #[.float .f64 x,.int .i64 s.size,.nilIface]) ∧ Below w.heap.size w w' := by
  go_enter Tryz.func151,Tryz.ntmps151
  go_wp2_with fail
  refine h0.mono ?_
  rintro e w1 ⟨rfl,b1⟩
  go_wp2_with fail
  go_ret3
  exact ⟨rfl,b1⟩
 have h2 : Calls Tryz.prog 134 #[.string s,.int .i64 64] w fun e w' => e = .returned (.tuple #[.float .f64 x,.nilIface]) ∧ Below w.heap.size w w' := by
  go_enter Tryz.func134,Tryz.ntmps134
  go_wp2_with fail
  refine h1.mono ?_
  rintro e w1 ⟨rfl,b1⟩
  go_wp2_with fail
  go_ret2
  exact ⟨rfl,b1⟩
 go_enter Tryz.func124,Tryz.ntmps124
 go_wp2_with fail
 refine h2.mono ?_
 rintro e w1 ⟨rfl,b1⟩
 go_wp2_with fail
 go_ret2
 exact ⟨rfl,b1⟩
set_option maxRecDepth 100000 in
theorem guess_total (H : AtofTotal) (s : ByteArray) (hs : s.size ≤ 140737488355328) (w : World) (A : All w) :
  Calls Tryz.prog 106 #[.string s] w fun e w' => ∃ (b : Int) (ok : Bool),-9223372036854775808 ≤ b ∧ b ≤ 9223372036854775807 ∧ e = .returned (.tuple #[.int .i64 b,.bool ok]) ∧ Below w.heap.size w w' := by
 have h1 := Tryz.strings_CutPrefix s ⟨#[110,97,110,58]⟩
 obtain ⟨t,ht⟩ : ∃ t : ByteArray,Hid (t = ⟨(Lib.trimPrefix s.data.toList (⟨#[110,97,110,58]⟩ : ByteArray).data.toList).toArray⟩) := ⟨_,Lib.hid rfl⟩
 have hts : t.size ≤ 140737488355328 := by
  rw [ht.out]
  show (Lib.trimPrefix s.data.toList _).toArray.size ≤ _
  have := size_list s
  unfold Lib.trimPrefix
  split <;> simp <;> omega
 rw [← ht.out] at h1
 have hU := parseUint_any t hts w A.errz
 have hP := pfloat_total H s hs w A
 have hbo := fun x W => bitsOf_any x W
 cases hb : Lib.hasPrefix s.data.toList (⟨#[110,97,110,58]⟩ : ByteArray).data.toList with
 | true =>
  rw [hb] at h1
  generalize puR t.data.toList = R at *
  obtain ⟨v,k⟩ := R
  simp only at hU
  clear hP ht
  go_enter Tryz.func106,Tryz.ntmps106
  go_wp2_with fail
  refine (h1 _).mono ?_
  rintro e w1 ⟨rfl,rfl⟩
  go_wp2_with fail
  refine hU.mono ?_
  rintro e w2 ⟨err,rfl,he,b2⟩
  have wb : -9223372036854775808 ≤ wrap64 (v : Int) ∧ wrap64 (v : Int) ≤ 9223372036854775807 := by unfold wrap64; omega
  unfold ErrIs at he
  by_cases h0 : k = 0
  ·rw [if_pos h0] at he
   subst he
   go_wp2_with fail
   go_quiet (fail)
   go_wp2_with fail
   go_ret2
   exact ⟨_,_,wb.1,wb.2,rfl,below_drewN b2 _⟩
  ·rw [if_neg h0] at he
   obtain ⟨N,rfl⟩ := he
   go_wp2_with fail
   go_quiet (fail)
   go_wp2_with fail
   go_ret2
   exact ⟨_,_,wb.1,wb.2,rfl,below_drewN b2 _⟩
 | false =>
  rw [hb] at h1
  clear hU ht
  go_enter Tryz.func106,Tryz.ntmps106
  go_wp2_with fail
  refine (h1 _).mono ?_
  rintro e w1 ⟨rfl,rfl⟩
  go_wp2_with fail
  refine hP.mono ?_
  rintro e w2 ⟨f,k,err,rfl,he,b2⟩
  have hbf := hbo f
  have wb : -9223372036854775808 ≤ wrap64 (f : Int) ∧ wrap64 (f : Int) ≤ 9223372036854775807 := by unfold wrap64; omega
  obtain ⟨z,hz⟩ : ∃ z,Hid (wrap64 (f : Int) = z) := ⟨_,rfl⟩
  rw [hz.out] at hbf wb
  unfold ErrIs at he
  by_cases h0 : k = 0
  ·rw [if_pos h0] at he
   subst he
   go_wp2_with fail
   go_quiet (with_reducible exact Calls.quiet_of_same (hbf _))
   go_wp2_with fail
   go_ret2
   exact ⟨_,_,wb.1,wb.2,rfl,below_drewN b2 _⟩
  ·rw [if_neg h0] at he
   obtain ⟨N,rfl⟩ := he
   go_wp2_with fail
   go_quiet (with_reducible exact Calls.quiet_of_same (hbf _))
   go_wp2_with fail
   go_ret2
   exact ⟨_,_,wb.1,wb.2,rfl,below_drewN b2 _⟩
end Go.Proofs.YtalaajniammggaaGreatDoor

/- flt.Parse: whatever text comes in; what was printed. -/
namespace Go.Proofs.YtalaajniammggaaGreatDoor
open Go.RowKit
theorem ba_toList (l : List UInt8) : (⟨l.toArray⟩ : ByteArray).toList = l := by rw [Lib.toList_data]
set_option maxRecDepth 100000 in
theorem parse_total (H : AtofTotal) (s : ByteArray) (hs : s.size ≤ 140737488355328) (w : World) (A : All w) :
  Calls Tryz.prog 90 #[.string s] w fun e w' => ∃ b k : Int,((b = 0 ∧ k = 4) ∨ (-9223372036854775808 ≤ b ∧ b ≤ 9223372036854775807 ∧ k = 0 ∧ printL (wd b) = s.data.toList)) ∧ e = .returned (.tuple #[.int .i64 b,.int .i64 k]) ∧ Below w.heap.size w w' := by
 have hG := guess_total H s hs w A
 go_enter Tryz.func90,Tryz.ntmps90
 go_wp2_with fail
 refine hG.mono ?_
 rintro e w1 ⟨b,ok,hb1,hb2,rfl,b1⟩
 cases ok with
 | false =>
  go_wp2_with fail
  go_ret2
  exact ⟨0,4,.inl ⟨rfl,rfl⟩,rfl,b1⟩
 | true =>
  have A1 := A.kept b1
  have hP := print_any b w1 A1.tabs A1.rowz A1.zer
  obtain ⟨sP,hsP⟩ : ∃ s : ByteArray,Hid (s = ⟨(printL (wd b)).toArray⟩) := ⟨_,Lib.hid rfl⟩
  rw [← hsP.out] at hP
  have eL : sP.toList = printL (wd b) := by rw [hsP.out,ba_toList]
  have eS : s.toList = s.data.toList := Lib.toList_data s
  by_cases h : printL (wd b) = s.data.toList
  ·have d1 : (sP.toList == s.toList) = true := by rw [eL,eS,h]; simp
   have HH := Lib.hid h
   clear h eL eS A1
   go_wp2_with fail
   refine hP.mono ?_
   rintro e w2 ⟨rfl,b2⟩
   go_wp2_with fail
   go_ret2
   exact ⟨b,0,.inr ⟨hb1,hb2,rfl,HH.out⟩,rfl,b1.trans (b2.mono b1.size)⟩
  ·have d1 : (sP.toList == s.toList) = false := by rw [eL,eS]; simpa using h
   clear h eL eS A1
   go_wp2_with fail
   refine hP.mono ?_
   rintro e w2 ⟨rfl,b2⟩
   go_wp2_with fail
   go_ret2
   exact ⟨0,4,.inl ⟨rfl,rfl⟩,rfl,b1.trans (b2.mono b1.size)⟩
theorem numL_head (x : Nat) : ∃ c r,numL x = c :: r ∧ c ≠ 110 := by
 unfold numL
 split
 ·split
  ·exact ⟨45,_,rfl,by decide⟩
  ·exact ⟨105,_,rfl,by decide⟩
 ·unfold txtL prefL
  cases negOf x
  ·obtain ⟨k,hk,e⟩ := gF_digit x 0
   refine ⟨gF x 0,_,by simp; rfl,?_⟩
   rw [e]
   intro h
   have := congrArg UInt8.toNat h
   simp at this
   omega
  ·exact ⟨45,_,by simp; rfl,by decide⟩
theorem numL_no (x : Nat) : Lib.hasPrefix (numL x) [110,97,110,58] = false := by
 obtain ⟨c,r,e,hc⟩ := numL_head x
 rw [e]
 unfold Lib.hasPrefix
 simp [List.isPrefixOf,Ne.symm hc]
theorem nan_yes (x : Nat) : Lib.hasPrefix ([110,97,110,58] ++ hexL x) [110,97,110,58] = true ∧ Lib.trimPrefix ([110,97,110,58] ++ hexL x) [110,97,110,58] = hexL x := by
 have h : Lib.hasPrefix ([110,97,110,58] ++ hexL x) [110,97,110,58] = true := by
  unfold Lib.hasPrefix
  simp [List.isPrefixOf]
 refine ⟨h,?_⟩
 unfold Lib.trimPrefix
 rw [if_pos h]
 rfl
theorem cut_nan (L : List UInt8) (w : World) : Calls Tryz.prog 89 #[.string ⟨L.toArray⟩,.string ⟨#[110,97,110,58]⟩] w fun e w' => e = .returned (.tuple #[.string ⟨(Lib.trimPrefix L [110,97,110,58]).toArray⟩,.bool (Lib.hasPrefix L [110,97,110,58])]) ∧ w' = w :=
 Tryz.strings_CutPrefix ⟨L.toArray⟩ ⟨#[110,97,110,58]⟩ w
set_option maxRecDepth 100000 in
theorem guess_right (H : AtofRight) (x : Nat) (hx : x < 18446744073709551616) (w : World) (A : All w) :
  Calls Tryz.prog 106 #[.string ⟨(printL x).toArray⟩] w fun e w' => e = .returned (.tuple #[.int .i64 (wrap64 x),.bool true]) ∧ Below w.heap.size w w' := by
 have hbo := fun W => bitsOf_any x W
 by_cases h : INF < rungOf x
 ·have e : printL x = [110,97,110,58] ++ hexL x := by unfold printL; rw [if_pos h]
  rw [e]
  obtain ⟨hy,ht⟩ := nan_yes x
  have h1 := cut_nan ([110,97,110,58] ++ hexL x)
  rw [hy,ht] at h1
  have hU := parseUint_any ⟨(hexL x).toArray⟩ (by show (hexL x).toArray.size ≤ _; have := hexL_len 15 x hx; simp; omega) w A.errz
  have e3 : puR (⟨(hexL x).toArray⟩ : ByteArray).data.toList = (x,0) := puR_hex x hx
  rw [e3] at hU
  simp only at hU
  obtain ⟨s,hs⟩ : ∃ s : ByteArray,Hid (s = ⟨([110,97,110,58] ++ hexL x).toArray⟩) := ⟨_,Lib.hid rfl⟩
  obtain ⟨t,hts⟩ : ∃ s : ByteArray,Hid (s = ⟨(hexL x).toArray⟩) := ⟨_,Lib.hid rfl⟩
  rw [← hs.out,← hts.out] at h1
  rw [← hts.out] at hU
  rw [← hs.out]
  clear hs hts hy ht e h
  go_enter Tryz.func106,Tryz.ntmps106
  go_wp2_with fail
  refine (h1 _).mono ?_
  rintro e w1 ⟨rfl,rfl⟩
  go_wp2_with fail
  refine hU.mono ?_
  rintro e w2 ⟨err,rfl,he,b2⟩
  have he : err = .nilIface := he
  subst he
  go_wp2_with fail
  go_quiet (fail)
  go_wp2_with fail
  go_ret2
  exact ⟨rfl,below_drewN b2 _⟩
 ·have e : printL x = numL x := by unfold printL; rw [if_neg h]
  rw [e]
  have h1 := cut_nan (numL x)
  rw [numL_no x] at h1
  have hP := pfloat_right H x hx (by omega) w A
  obtain ⟨s,hs⟩ : ∃ s : ByteArray,Hid (s = ⟨(numL x).toArray⟩) := ⟨_,Lib.hid rfl⟩
  rw [← hs.out] at h1 hP ⊢
  obtain ⟨z,hz⟩ : ∃ z,Hid (wrap64 (x : Int) = z) := ⟨_,rfl⟩
  rw [hz.out] at hbo ⊢
  clear hs e h
  go_enter Tryz.func106,Tryz.ntmps106
  go_wp2_with fail
  refine (h1 _).mono ?_
  rintro e w1 ⟨rfl,rfl⟩
  go_wp2_with fail
  refine hP.mono ?_
  rintro e w2 ⟨rfl,b2⟩
  go_wp2_with fail
  go_quiet (with_reducible exact Calls.quiet_of_same (hbo _))
  go_wp2_with fail
  go_ret2
  exact ⟨rfl,below_drewN b2 _⟩
set_option maxRecDepth 100000 in
theorem parse_right' (H : AtofRight) (x : Nat) (hx : x < 18446744073709551616) (w : World) (A : All w) :
  Calls Tryz.prog 90 #[.string ⟨(printL x).toArray⟩] w fun e w' => e = .returned (.tuple #[.int .i64 (wrap64 x),.int .i64 0]) ∧ Below w.heap.size w w' := by
 have hG := guess_right H x hx w A
 have ew : wd (wrap64 (x : Int)) = x := wd_wrap x hx
 have hP := fun W (AW : All W) => print_any (wrap64 (x : Int)) W AW.tabs AW.rowz AW.zer
 rw [ew] at hP
 obtain ⟨s,hs⟩ : ∃ s : ByteArray,Hid (s = ⟨(printL x).toArray⟩) := ⟨_,Lib.hid rfl⟩
 rw [← hs.out] at hG hP ⊢
 obtain ⟨z,hz⟩ : ∃ z,Hid (wrap64 (x : Int) = z) := ⟨_,rfl⟩
 rw [hz.out] at hG hP ⊢
 clear hs ew
 go_enter Tryz.func90,Tryz.ntmps90
 go_wp2_with fail
 refine hG.mono ?_
 rintro e w1 ⟨rfl,b1⟩
 go_wp2_with fail
 refine (hP w1 (A.kept b1)).mono ?_
 rintro e w2 ⟨rfl,b2⟩
 go_wp2_with fail
 go_ret2
 exact ⟨rfl,b1.trans (b2.mono b1.size)⟩
end Go.Proofs.YtalaajniammggaaGreatDoor

/- The digits as a whole number; unlike bits have unlike texts. -/
namespace Go.Proofs.YtalaajniammggaaGreatDoor
open Go.RowKit
def valD (l : List UInt8) : Nat := l.foldl (fun n c => n * 10 + (c.toNat - 48)) 0
theorem valD_snoc (l : List UInt8) (c : UInt8) : valD (l ++ [c]) = valD l * 10 + (c.toNat - 48) := by simp [valD]
def digL (g : Nat → UInt8) (n : Nat) : List UInt8 := (List.range n).map g
theorem digL_succ (g : Nat → UInt8) (n : Nat) : digL g (n + 1) = digL g n ++ [g n] := by simp [digL,List.range_succ]
theorem digL_more (g : Nat → UInt8) (n : Nat) (h : 1 ≤ n) : digL g n = g 0 :: moreD g n := by
 obtain ⟨m,rfl⟩ : ∃ m,n = m + 1 := ⟨n - 1,by omega⟩
 unfold digL moreD
 rw [List.range_succ_eq_map]
 simp [Function.comp_def]
theorem dg_val (d j : Nat) : (Lib.dg d j).toNat - 48 = d / 10 ^ j % 10 := by
 have := dg_toNat d j
 rw [this]
 unfold dgt
 omega
theorem val_first (d : Nat) : ∀ n,n ≤ Lib.nDigits d → valD (digL (gOfD d) n) = d / 10 ^ (Lib.nDigits d - n)
 | 0,_ => by
  rw [Nat.sub_zero,Nat.div_eq_of_lt (Lib.lt_pow_nDigits d)]
  rfl
 | n + 1,h => by
  rw [digL_succ,valD_snoc,val_first d n (by omega)]
  unfold gOfD
  rw [dg_val,show Lib.nDigits d - 1 - n = Lib.nDigits d - (n + 1) by omega]
  obtain ⟨j,hj⟩ : ∃ j,Lib.nDigits d - (n + 1) = j := ⟨_,rfl⟩
  rw [show Lib.nDigits d - n = j + 1 by omega,hj,Nat.pow_succ,← Nat.div_div_eq_div_mul]
  omega
def dF (x : Nat) : Nat := valD (digL (gF x) (nF x))
def pF (x : Nat) : Int := XF x - (nF x : Int) + 1
theorem read_F {x : Nat} (h0 : rungOf x ≠ 0) (hf : rungOf x < INF) : Reads (magOf (rungOf x)) ((expOf (rungOf x) : Int) - 1074) (skewOf (magOf (rungOf x)) ((expOf (rungOf x) : Int) - 1074)) (dF x) (pF x) ∧ 1 ≤ dF x ∧ dF x < 100000000000000000 ∧ -324 ≤ pF x ∧ pF x ≤ 309 := by
 have FL := flo_of h0 hf
 have hR := shortM_reads FL
 obtain ⟨f1,f2,f3,f4⟩ := shortM_bounds FL
 have e : shortOf x = shortM (magOf (rungOf x)) ((expOf (rungOf x) : Int) - 1074) := by unfold shortOf; rw [if_neg h0]
 rw [← e] at hR f1 f2 f3 f4
 have n1 := Lib.nDigits_pos (shortOf x).1
 have n2 := digits17 f2
 have z1 := nzd_pos _ (shortOf x).1 f1 (Lib.lt_pow_nDigits _)
 have z2 := nzd_le (Lib.nDigits (shortOf x).1) (shortOf x).1
 have en : nF x = nzd (shortOf x).1 (Lib.nDigits (shortOf x).1) := by unfold nF; rw [if_neg h0]
 have eX : XF x = (Lib.nDigits (shortOf x).1 : Int) + (shortOf x).2 - 1 := by unfold XF; rw [if_neg h0]
 have eg : gF x = gOfD (shortOf x).1 := by unfold gF; rw [if_neg h0]
 have ed : dF x = (shortOf x).1 / 10 ^ (Lib.nDigits (shortOf x).1 - nF x) := by
  unfold dF
  rw [eg]
  exact val_first _ _ (by omega)
 have hs := nzd_spec (Lib.nDigits (shortOf x).1) (shortOf x).1
 rw [← en] at hs z1 z2
 rw [← ed] at hs
 have hd1 : 1 ≤ dF x := by
  rcases Nat.eq_zero_or_pos (dF x) with h | h
  ·rw [h] at hs; omega
  ·exact h
 have hd2 : dF x ≤ (shortOf x).1 := by rw [ed]; exact Nat.div_le_self _ _
 have ep : pF x = (shortOf x).2 + ((Lib.nDigits (shortOf x).1 - nF x : Nat) : Int) := by unfold pF; rw [eX]; omega
 refine ⟨?_,hd1,by omega,by rw [ep]; omega,by rw [ep]; omega⟩
 rw [ep]
 refine (reads_ten _ _ _ (dF x) _ _).1 ?_
 rw [← hs]
 exact hR
theorem dF_zero {x : Nat} (h0 : rungOf x = 0) : dF x = 0 := by
 unfold dF gF nF
 rw [if_pos h0,if_pos h0]
 rfl
theorem rung_eq {x y : Nat} (h1 : magOf (rungOf x) = magOf (rungOf y)) (h2 : expOf (rungOf x) = expOf (rungOf y)) : rungOf x = rungOf y := by
 rw [(rung_pack (rungOf x)).1,(rung_pack (rungOf y)).1,h1,h2]
theorem bits_eq {x y : Nat} (hx : x < 18446744073709551616) (hy : y < 18446744073709551616) (h1 : negOf x = negOf y) (h2 : rungOf x = rungOf y) : x = y := by
 rw [← word_of x hx,← word_of y hy,h1,h2]
theorem same_float {x y : Nat} (hx : x < 18446744073709551616) (hy : y < 18446744073709551616) (fx : rungOf x < INF) (fy : rungOf y < INF) (hn : negOf x = negOf y) (hd : dF x = dF y) (hp : pF x = pF y) : x = y := by
 by_cases zx : rungOf x = 0
 ·by_cases zy : rungOf y = 0
  ·exact bits_eq hx hy hn (by rw [zx,zy])
  ·have := (read_F zy fy).2.1
   rw [dF_zero zx] at hd
   omega
 ·by_cases zy : rungOf y = 0
  ·have := (read_F zx fx).2.1
   rw [dF_zero zy] at hd
   omega
  ·obtain ⟨rx,d1,d2,p1,p2⟩ := read_F zx fx
   obtain ⟨ry,_⟩ := read_F zy fy
   rw [← hd,← hp] at ry
   obtain ⟨i,hi⟩ : ∃ i : Nat,pF x = (i : Int) - 348 := ⟨(pF x + 348).toNat,by omega⟩
   rw [hi] at rx ry
   have a := parse_right (flo_of zx fx) d1 d2 (by omega) rx
   have b := parse_right (flo_of zy fy) d1 d2 (by omega) ry
   have key : magOf (rungOf x) = magOf (rungOf y) ∧ ((expOf (rungOf x) : Int) - 1074) = ((expOf (rungOf y) : Int) - 1074) := by
    rcases a.2.2 with ⟨a1,a2,a3⟩ | ⟨a1,a2,a3⟩ <;> rcases b.2.2 with ⟨b1,b2,b3⟩ | ⟨b1,b2,b3⟩
    ·exact ⟨by rw [← a2,← b2],by omega⟩
    ·omega
    ·omega
    ·exact ⟨by rw [← a2,← b2],by omega⟩
   exact bits_eq hx hy hn (rung_eq key.1 (by have := key.2; omega))
end Go.Proofs.YtalaajniammggaaGreatDoor
