/- What readFloat makes of a text, as plain functions. -/
import Derived.ProofKit
namespace Go.Proofs.YtalaajniammggaaGreatDoor
structure StR where
 m : Nat
 nd : Nat
 nm : Nat
 dp : Int
 sd : Bool
 sg : Bool
 tr : Bool
 us : Bool
def bsX (hx : Bool) : Nat := if hx then 16 else 10
def mxX (hx : Bool) : Nat := if hx then 16 else 19
def ecX (hx : Bool) : Nat := if hx then 112 else 101
inductive Out where
 | bad : Out
 | good (m : Nat) (e : Int) (neg tr hx : Bool) (n : Nat) : Out
def stepS (hx : Bool) (c : Nat) (s : StR) : Option StR :=
 if c = 95 then some { s with us := true }
 else if c = 46 then (if s.sd then none else some { s with sd := true,dp := (s.nd : Int) })
 else if 48 ≤ c ∧ c ≤ 57 then
  (if c = 48 ∧ s.nd = 0 then some { s with sg := true,dp := s.dp - 1 }
  else if s.nm < mxX hx then some { s with sg := true,nd := s.nd + 1,nm := s.nm + 1,m := s.m * bsX hx + (c - 48) }
  else if c = 48 then some { s with sg := true,nd := s.nd + 1 }
  else some { s with sg := true,nd := s.nd + 1,tr := true })
 else if hx = true ∧ 97 ≤ c ||| 32 ∧ c ||| 32 ≤ 102 then
  (if s.nm < 16 then some { s with sg := true,nd := s.nd + 1,nm := s.nm + 1,m := s.m * 16 + ((c ||| 32) - 97 + 10) }
  else some { s with sg := true,nd := s.nd + 1,tr := true })
 else none
def endL (u neg hx : Bool) (m : Nat) (tr us : Bool) (i : Nat) (x : Int) : Out :=
 if us = true ∧ u = false then .bad else .good m (if m = 0 then 0 else x) neg tr hx i
def eL (u neg hx : Bool) (m : Nat) (tr : Bool) (dp : Int) (nm : Nat) (es : Int) : List UInt8 → Nat → Nat → Bool → Out
 | [],i,e,us => endL u neg hx m tr us i (dp + (e : Int) * es - (nm : Int))
 | c :: l,i,e,us =>
  if c.toNat = 95 then eL u neg hx m tr dp nm es l (i + 1) e true
  else if 48 ≤ c.toNat ∧ c.toNat ≤ 57 then eL u neg hx m tr dp nm es l (i + 1) (if e < 10000 then e * 10 + c.toNat - 48 else e) us
  else endL u neg hx m tr us i (dp + (e : Int) * es - (nm : Int))
def fL (u neg hx : Bool) (m : Nat) (tr : Bool) (dp : Int) (nm : Nat) (us : Bool) (es : Int) (L : List UInt8) (k : Nat) : Out :=
 match L.drop k with
 | [] => .bad
 | c :: _ => if c.toNat < 48 ∨ 57 < c.toNat then .bad else eL u neg hx m tr dp nm es (L.drop k) k 0 us
def gL (u neg hx : Bool) (m : Nat) (tr : Bool) (dp : Int) (nm : Nat) (us : Bool) (L : List UInt8) (j : Nat) : Out :=
 match L.drop j with
 | [] => .bad
 | c :: _ => if c.toNat = 43 then fL u neg hx m tr dp nm us 1 L (j + 1) else if c.toNat = 45 then fL u neg hx m tr dp nm us (-1) L (j + 1) else fL u neg hx m tr dp nm us 1 L j
def xL (u neg hx : Bool) (m : Nat) (tr : Bool) (dp : Int) (nm : Nat) (us : Bool) (L : List UInt8) (i : Nat) : Out :=
 match L.drop i with
 | [] => if hx then .bad else endL u neg hx m tr us i (dp - (nm : Int))
 | c :: _ => if c.toNat ||| 32 = ecX hx then gL u neg hx m tr dp nm us L (i + 1) else if hx then .bad else endL u neg hx m tr us i (dp - (nm : Int))
def midL (u neg hx : Bool) (L : List UInt8) (i : Nat) (s : StR) : Out :=
 if s.sg then xL u neg hx s.m s.tr ((if s.sd then s.dp else (s.nd : Int)) * (if hx then 4 else 1)) (s.nm * (if hx then 4 else 1)) s.us L i else .bad
def loopL (u neg hx : Bool) (L : List UInt8) : List UInt8 → Nat → StR → Out
 | [],i,s => midL u neg hx L i s
 | c :: l,i,s => match stepS hx c.toNat s with
  | none => midL u neg hx L i s
  | some t => loopL u neg hx L l (i + 1) t
def s0 : StR := ⟨0,0,0,0,false,false,false,false⟩
def hxL (u neg : Bool) (L : List UInt8) (i : Nat) : Out :=
 if i + 2 < L.length ∧ (L.getD i 0).toNat = 48 ∧ (L.getD (i + 1) 0).toNat ||| 32 = 120 then loopL u neg true L (L.drop (i + 2)) (i + 2) s0 else loopL u neg false L (L.drop i) i s0
def readL (u : Bool) (L : List UInt8) : Out :=
 match L with
 | [] => .bad
 | c :: _ => if c.toNat = 43 then hxL u false L 1 else if c.toNat = 45 then hxL u true L 1 else hxL u false L 0
theorem drop_in (s : ByteArray) (i : Nat) (hi : i < s.size) : s.data.toList.drop i = s[i] :: s.data.toList.drop (i + 1) := by
 rw [List.drop_eq_getElem_cons (by simpa using hi)]
 rfl
theorem drop_out (s : ByteArray) (i : Nat) (hi : s.size ≤ i) : s.data.toList.drop i = [] := by
 rw [List.drop_eq_nil_iff]
 simpa using hi
theorem getD_in (s : ByteArray) (i : Nat) (hi : i < s.size) : s.data.toList.getD i 0 = s[i] := by
 have h : i < s.data.toList.length := by simpa using hi
 rw [List.getD_eq_getElem?_getD,List.getElem?_eq_getElem h]
 rfl
theorem len_in (s : ByteArray) : s.data.toList.length = s.size := by simp
theorem loop_some {u neg hx : Bool} {s : ByteArray} {i : Nat} {t r : StR} {R : Out} (hi : i < s.size) (hs : stepS hx s[i].toNat t = some r) (h : R = loopL u neg hx s.data.toList (s.data.toList.drop i) i t) : R = loopL u neg hx s.data.toList (s.data.toList.drop (i + 1)) (i + 1) r := by
 rw [h,drop_in s i hi]
 simp only [loopL,hs]
theorem loop_none {u neg hx : Bool} {s : ByteArray} {i : Nat} {t : StR} {R : Out} (hi : i < s.size) (hs : stepS hx s[i].toNat t = none) (h : R = loopL u neg hx s.data.toList (s.data.toList.drop i) i t) : R = midL u neg hx s.data.toList i t := by
 rw [h,drop_in s i hi]
 simp only [loopL,hs]
theorem loop_over {u neg hx : Bool} {s : ByteArray} {i : Nat} {t : StR} {R : Out} (hi : s.size ≤ i) (h : R = loopL u neg hx s.data.toList (s.data.toList.drop i) i t) : R = midL u neg hx s.data.toList i t := by
 rw [h,drop_out s i hi]
 simp only [loopL]
end Go.Proofs.YtalaajniammggaaGreatDoor

/- The steps of readFloat's digits. -/
namespace Go.Proofs.YtalaajniammggaaGreatDoor
theorem st_us (hx : Bool) {c m nd nm : Nat} {dp : Int} {sd sg tr us : Bool} (h : c = 95) : stepS hx c ⟨m,nd,nm,dp,sd,sg,tr,us⟩ = some ⟨m,nd,nm,dp,sd,sg,tr,true⟩ := by
 unfold stepS; rw [if_pos h]
theorem st_dotno (hx : Bool) {c m nd nm : Nat} {dp : Int} {sg tr us : Bool} (h : c = 46) : stepS hx c ⟨m,nd,nm,dp,true,sg,tr,us⟩ = none := by
 unfold stepS; rw [if_neg (by omega),if_pos h]; rfl
theorem st_dot (hx : Bool) {c m nd nm : Nat} {dp : Int} {sg tr us : Bool} (h : c = 46) : stepS hx c ⟨m,nd,nm,dp,false,sg,tr,us⟩ = some ⟨m,nd,nm,(nd : Int),true,sg,tr,us⟩ := by
 unfold stepS; rw [if_neg (by omega),if_pos h]; rfl
theorem st_zero (hx : Bool) {c m nd nm : Nat} {dp : Int} {sd sg tr us : Bool} (h : c = 48) (h0 : nd = 0) : stepS hx c ⟨m,nd,nm,dp,sd,sg,tr,us⟩ = some ⟨m,nd,nm,dp - 1,sd,true,tr,us⟩ := by
 unfold stepS; rw [if_neg (by omega),if_neg (by omega),if_pos (by omega),if_pos ⟨h,h0⟩]
theorem st_dig (hx : Bool) {c m nd nm : Nat} {dp : Int} {sd sg tr us : Bool} (h1 : 48 ≤ c) (h2 : c ≤ 57) (h0 : ¬ (c = 48 ∧ nd = 0)) (hm : nm < mxX hx) : stepS hx c ⟨m,nd,nm,dp,sd,sg,tr,us⟩ = some ⟨m * bsX hx + (c - 48),nd + 1,nm + 1,dp,sd,true,tr,us⟩ := by
 unfold stepS; rw [if_neg (by omega),if_neg (by omega),if_pos ⟨h1,h2⟩,if_neg h0,if_pos hm]
theorem st_full0 (hx : Bool) {c m nd nm : Nat} {dp : Int} {sd sg tr us : Bool} (h : c = 48) (h0 : nd ≠ 0) (hm : ¬ nm < mxX hx) : stepS hx c ⟨m,nd,nm,dp,sd,sg,tr,us⟩ = some ⟨m,nd + 1,nm,dp,sd,true,tr,us⟩ := by
 unfold stepS; rw [if_neg (by omega),if_neg (by omega),if_pos (by omega),if_neg (by rintro ⟨_,h⟩; exact h0 h),if_neg hm,if_pos h]
theorem st_full1 (hx : Bool) {c m nd nm : Nat} {dp : Int} {sd sg tr us : Bool} (h1 : 48 ≤ c) (h2 : c ≤ 57) (h : c ≠ 48) (hm : ¬ nm < mxX hx) : stepS hx c ⟨m,nd,nm,dp,sd,sg,tr,us⟩ = some ⟨m,nd + 1,nm,dp,sd,true,true,us⟩ := by
 unfold stepS; rw [if_neg (by omega),if_neg (by omega),if_pos ⟨h1,h2⟩,if_neg (by rintro ⟨h',_⟩; exact h h'),if_neg hm,if_neg h]
theorem st_no (hx : Bool) {c : Nat} {s : StR} (h1 : c ≠ 95) (h2 : c ≠ 46) (h3 : ¬ (48 ≤ c ∧ c ≤ 57)) (h4 : ¬ (hx = true ∧ 97 ≤ c ||| 32 ∧ c ||| 32 ≤ 102)) : stepS hx c s = none := by
 unfold stepS; rw [if_neg h1,if_neg h2,if_neg h3,if_neg h4]
theorem st_hex {c m nd nm : Nat} {dp : Int} {sd sg tr us : Bool} {d : Nat} (hd : c ||| 32 = d) (h1 : c ≠ 95) (h2 : c ≠ 46) (h3 : ¬ (48 ≤ c ∧ c ≤ 57)) (h4 : 97 ≤ d) (h5 : d ≤ 102) (hm : nm < mxX true) : stepS true c ⟨m,nd,nm,dp,sd,sg,tr,us⟩ = some ⟨m * bsX true + (d - 97 + 10),nd + 1,nm + 1,dp,sd,true,tr,us⟩ := by
 subst hd
 unfold stepS; rw [if_neg h1,if_neg h2,if_neg h3,if_pos ⟨rfl,h4,h5⟩,if_pos (show nm < 16 from hm)]; rfl
theorem st_hexfull {c m nd nm : Nat} {dp : Int} {sd sg tr us : Bool} {d : Nat} (hd : c ||| 32 = d) (h1 : c ≠ 95) (h2 : c ≠ 46) (h3 : ¬ (48 ≤ c ∧ c ≤ 57)) (h4 : 97 ≤ d) (h5 : d ≤ 102) (hm : ¬ nm < mxX true) : stepS true c ⟨m,nd,nm,dp,sd,sg,tr,us⟩ = some ⟨m,nd + 1,nm,dp,sd,true,true,us⟩ := by
 subst hd
 unfold stepS; rw [if_neg h1,if_neg h2,if_neg h3,if_pos ⟨rfl,h4,h5⟩,if_neg (show ¬ nm < 16 from hm)]
theorem mant_step {hx : Bool} {m nm d : Nat} (h : m < bsX hx ^ nm) (hn : nm < mxX hx) (hd : d < bsX hx) : m * bsX hx + d < bsX hx ^ (nm + 1) ∧ m * bsX hx + d < 18446744073709551616 := by
 have e : bsX hx ^ (nm + 1) = bsX hx ^ nm * bsX hx := Nat.pow_succ ..
 have h1 : m * bsX hx + d < bsX hx ^ (nm + 1) := by
  rw [e]
  have := Nat.mul_le_mul_right (bsX hx) (show m + 1 ≤ bsX hx ^ nm by omega)
  rw [Nat.add_mul] at this
  omega
 refine ⟨h1,Nat.lt_of_lt_of_le h1 ?_⟩
 cases hx with
 | true => exact Nat.pow_le_pow_right (n := 16) (by decide) (j := 16) (by exact hn)
 | false => exact Nat.le_trans (Nat.pow_le_pow_right (n := 10) (by decide) (j := 19) (by exact hn)) (by decide)
theorem mant_end {hx : Bool} {m nm : Nat} (h : m < bsX hx ^ nm) (hn : nm ≤ mxX hx) : m < 18446744073709551616 ∧ (hx = false → m < 10000000000000000000) := by
 cases hx with
 | true => exact ⟨Nat.lt_of_lt_of_le h (Nat.pow_le_pow_right (n := 16) (by decide) (j := 16) (by exact hn)),fun h => absurd h (by decide)⟩
 | false =>
  have := Nat.lt_of_lt_of_le h (Nat.pow_le_pow_right (n := 10) (by decide) (j := 19) (by exact hn))
  have e : (10 : Nat) ^ 19 = 10000000000000000000 := by decide
  rw [e] at this
  exact ⟨by omega,fun _ => this⟩
theorem loop_go {neg hx : Bool} {s : ByteArray} {i : Nat} {t r : StR} {R : Bool → Out} {c : UInt8} (hi : i < s.size) (hc : s[i] = c) (h : ∀ u,R u = loopL u neg hx s.data.toList (s.data.toList.drop i) i t) (hs : stepS hx c.toNat t = some r) : ∀ u,R u = loopL u neg hx s.data.toList (s.data.toList.drop (i + 1)) (i + 1) r :=
 fun u => loop_some hi (by rw [hc]; exact hs) (h u)
theorem loop_no {neg hx : Bool} {s : ByteArray} {i : Nat} {t : StR} {R : Bool → Out} {c : UInt8} (hi : i < s.size) (hc : s[i] = c) (h : ∀ u,R u = loopL u neg hx s.data.toList (s.data.toList.drop i) i t) (hs : stepS hx c.toNat t = none) : ∀ u,R u = midL u neg hx s.data.toList i t :=
 fun u => loop_none hi (by rw [hc]; exact hs) (h u)
theorem loop_end {neg hx : Bool} {s : ByteArray} {i : Nat} {t : StR} {R : Bool → Out} (hi : s.size ≤ i) (h : ∀ u,R u = loopL u neg hx s.data.toList (s.data.toList.drop i) i t) : ∀ u,R u = midL u neg hx s.data.toList i t :=
 fun u => loop_over hi (h u)
theorem e_us {u neg hx : Bool} {m : Nat} {tr : Bool} {dp : Int} {nm : Nat} {es : Int} {s : ByteArray} {i e : Nat} {us : Bool} {c : UInt8} (hi : i < s.size) (hc : s[i] = c) (h : c.toNat = 95) : eL u neg hx m tr dp nm es (s.data.toList.drop i) i e us = eL u neg hx m tr dp nm es (s.data.toList.drop (i + 1)) (i + 1) e true := by
 rw [drop_in s i hi,hc,eL,if_pos h]
theorem e_dig {u neg hx : Bool} {m : Nat} {tr : Bool} {dp : Int} {nm : Nat} {es : Int} {s : ByteArray} {i e : Nat} {us : Bool} {c : UInt8} (hi : i < s.size) (hc : s[i] = c) (h1 : 48 ≤ c.toNat) (h2 : c.toNat ≤ 57) : eL u neg hx m tr dp nm es (s.data.toList.drop i) i e us = eL u neg hx m tr dp nm es (s.data.toList.drop (i + 1)) (i + 1) (if e < 10000 then e * 10 + c.toNat - 48 else e) us := by
 rw [drop_in s i hi,hc,eL,if_neg (by omega),if_pos ⟨h1,h2⟩]
theorem e_no {u neg hx : Bool} {m : Nat} {tr : Bool} {dp : Int} {nm : Nat} {es : Int} {s : ByteArray} {i e : Nat} {us : Bool} {c : UInt8} (hi : i < s.size) (hc : s[i] = c) (h0 : c.toNat ≠ 95) (h1 : ¬ (48 ≤ c.toNat ∧ c.toNat ≤ 57)) : eL u neg hx m tr dp nm es (s.data.toList.drop i) i e us = endL u neg hx m tr us i (dp + (e : Int) * es - (nm : Int)) := by
 rw [drop_in s i hi,hc,eL,if_neg h0,if_neg h1]
theorem e_end {u neg hx : Bool} {m : Nat} {tr : Bool} {dp : Int} {nm : Nat} {es : Int} {s : ByteArray} {i e : Nat} {us : Bool} (hi : s.size ≤ i) : eL u neg hx m tr dp nm es (s.data.toList.drop i) i e us = endL u neg hx m tr us i (dp + (e : Int) * es - (nm : Int)) := by
 rw [drop_out s i hi,eL]
theorem f_bad1 {u neg hx : Bool} {m : Nat} {tr : Bool} {dp : Int} {nm : Nat} {us : Bool} {es : Int} {s : ByteArray} {k : Nat} (hi : s.size ≤ k) : fL u neg hx m tr dp nm us es s.data.toList k = .bad := by
 unfold fL; rw [drop_out s k hi]
theorem f_bad2 {u neg hx : Bool} {m : Nat} {tr : Bool} {dp : Int} {nm : Nat} {us : Bool} {es : Int} {s : ByteArray} {k : Nat} {c : UInt8} (hi : k < s.size) (hc : s[k] = c) (h : c.toNat < 48 ∨ 57 < c.toNat) : fL u neg hx m tr dp nm us es s.data.toList k = .bad := by
 unfold fL; rw [drop_in s k hi,hc]; simp only; rw [if_pos h]
theorem f_ok {u neg hx : Bool} {m : Nat} {tr : Bool} {dp : Int} {nm : Nat} {us : Bool} {es : Int} {s : ByteArray} {k : Nat} {c : UInt8} (hi : k < s.size) (hc : s[k] = c) (h : ¬ (c.toNat < 48 ∨ 57 < c.toNat)) : fL u neg hx m tr dp nm us es s.data.toList k = eL u neg hx m tr dp nm es (s.data.toList.drop k) k 0 us := by
 unfold fL; rw [drop_in s k hi,hc]; simp only; rw [if_neg h]
theorem g_bad {u neg hx : Bool} {m : Nat} {tr : Bool} {dp : Int} {nm : Nat} {us : Bool} {s : ByteArray} {j : Nat} (hi : s.size ≤ j) : gL u neg hx m tr dp nm us s.data.toList j = .bad := by
 unfold gL; rw [drop_out s j hi]
theorem g_at {u neg hx : Bool} {m : Nat} {tr : Bool} {dp : Int} {nm : Nat} {us : Bool} {s : ByteArray} {j : Nat} {c : UInt8} (hi : j < s.size) (hc : s[j] = c) : gL u neg hx m tr dp nm us s.data.toList j = if c.toNat = 43 then fL u neg hx m tr dp nm us 1 s.data.toList (j + 1) else if c.toNat = 45 then fL u neg hx m tr dp nm us (-1) s.data.toList (j + 1) else fL u neg hx m tr dp nm us 1 s.data.toList j := by
 unfold gL; rw [drop_in s j hi,hc]
theorem x_end {u neg hx : Bool} {m : Nat} {tr : Bool} {dp : Int} {nm : Nat} {us : Bool} {s : ByteArray} {i : Nat} (hi : s.size ≤ i) : xL u neg hx m tr dp nm us s.data.toList i = if hx then .bad else endL u neg hx m tr us i (dp - (nm : Int)) := by
 unfold xL; rw [drop_out s i hi]
theorem x_yes {u neg hx : Bool} {m : Nat} {tr : Bool} {dp : Int} {nm : Nat} {us : Bool} {s : ByteArray} {i : Nat} {c : UInt8} (hi : i < s.size) (hc : s[i] = c) (h : c.toNat ||| 32 = ecX hx) : xL u neg hx m tr dp nm us s.data.toList i = gL u neg hx m tr dp nm us s.data.toList (i + 1) := by
 unfold xL; rw [drop_in s i hi,hc]; simp only; rw [if_pos h]
theorem x_no {u neg hx : Bool} {m : Nat} {tr : Bool} {dp : Int} {nm : Nat} {us : Bool} {s : ByteArray} {i : Nat} {c : UInt8} (hi : i < s.size) (hc : s[i] = c) (h : c.toNat ||| 32 ≠ ecX hx) : xL u neg hx m tr dp nm us s.data.toList i = if hx then .bad else endL u neg hx m tr us i (dp - (nm : Int)) := by
 unfold xL; rw [drop_in s i hi,hc]; simp only; rw [if_neg h]
theorem h_yes {u neg : Bool} {s : ByteArray} {i : Nat} (h : i + 2 < s.size) {c d : UInt8} (hi : i < s.size) (hc : s[i] = c) (hj : i + 1 < s.size) (hd : s[i + 1] = d) (h1 : c.toNat = 48) (h2 : d.toNat ||| 32 = 120) : hxL u neg s.data.toList i = loopL u neg true s.data.toList (s.data.toList.drop (i + 2)) (i + 2) s0 := by
 unfold hxL
 rw [getD_in s i hi,getD_in s (i + 1) hj,hc,hd,len_in,if_pos ⟨h,h1,h2⟩]
theorem h_no1 {u neg : Bool} {s : ByteArray} {i : Nat} (h : ¬ i + 2 < s.size) : hxL u neg s.data.toList i = loopL u neg false s.data.toList (s.data.toList.drop i) i s0 := by
 unfold hxL
 rw [len_in,if_neg (fun hh => h hh.1)]
theorem h_no2 {u neg : Bool} {s : ByteArray} {i : Nat} {c : UInt8} (hi : i < s.size) (hc : s[i] = c) (h1 : c.toNat ≠ 48) : hxL u neg s.data.toList i = loopL u neg false s.data.toList (s.data.toList.drop i) i s0 := by
 unfold hxL
 rw [getD_in s i hi,hc,if_neg (fun hh => h1 hh.2.1)]
theorem h_no3 {u neg : Bool} {s : ByteArray} {i : Nat} {d : UInt8} (hj : i + 1 < s.size) (hd : s[i + 1] = d) (h2 : d.toNat ||| 32 ≠ 120) : hxL u neg s.data.toList i = loopL u neg false s.data.toList (s.data.toList.drop i) i s0 := by
 unfold hxL
 rw [getD_in s (i + 1) hj,hd,if_neg (fun hh => h2 hh.2.2)]
theorem r_bad {u : Bool} {s : ByteArray} (h : s.size = 0) : readL u s.data.toList = .bad := by
 have : s.data.toList = [] := List.eq_nil_of_length_eq_zero (by rw [len_in]; exact h)
 rw [this]; rfl
theorem r_at {u : Bool} {s : ByteArray} (h : 0 < s.size) {c : UInt8} (hc : s[0] = c) : readL u s.data.toList = if c.toNat = 43 then hxL u false s.data.toList 1 else if c.toNat = 45 then hxL u true s.data.toList 1 else hxL u false s.data.toList 0 := by
 have e := drop_in s 0 h
 rw [List.drop_zero,hc] at e
 unfold readL
 rw [e]
theorem mid_bad {u neg hx : Bool} {L : List UInt8} {i : Nat} {m nd nm : Nat} {dp : Int} {sd tr us : Bool} : midL u neg hx L i ⟨m,nd,nm,dp,sd,false,tr,us⟩ = .bad := rfl
theorem mid_at {u neg hx : Bool} {L : List UInt8} {i : Nat} {m nd nm : Nat} {dp : Int} {sd tr us : Bool} : midL u neg hx L i ⟨m,nd,nm,dp,sd,true,tr,us⟩ = xL u neg hx m tr ((if sd then dp else (nd : Int)) * (if hx then 4 else 1)) (nm * (if hx then 4 else 1)) us L i := rfl
end Go.Proofs.YtalaajniammggaaGreatDoor
