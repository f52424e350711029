/- What readFloat makes of a text that was printed. -/
import Derived.Test.YtalaajniammggaaGreatDoorXEa
import Derived.Lib.ItoaLen
import Derived.Test.YtalaajniammggaaGreatDoorXEd
namespace Go.Proofs.YtalaajniammggaaGreatDoor
def vD (n : Nat) (l : List UInt8) : Nat := l.foldl (fun n c => n * 10 + (c.toNat - 48)) n
def IsDig (c : UInt8) : Prop := 48 ≤ c.toNat ∧ c.toNat ≤ 57
theorem vD_cons (n : Nat) (c : UInt8) (l : List UInt8) : vD n (c :: l) = vD (n * 10 + (c.toNat - 48)) l := by
 unfold vD
 rw [List.foldl_cons]
theorem loop_cs {u neg hx : Bool} {L l : List UInt8} {c : UInt8} {i : Nat} {s t : StR} (h : stepS hx c.toNat s = some t) : loopL u neg hx L (c :: l) i s = loopL u neg hx L l (i + 1) t := by
 simp only [loopL,h]
theorem loop_cn {u neg hx : Bool} {L l : List UInt8} {c : UInt8} {i : Nat} {s : StR} (h : stepS hx c.toNat s = none) : loopL u neg hx L (c :: l) i s = midL u neg hx L i s := by
 simp only [loopL,h]
theorem vD_ge (l : List UInt8) : ∀ n,n ≤ vD n l := by
 induction l with
 | nil => intro n; exact Nat.le_refl n
 | cons c l ih => intro n; rw [vD_cons]; have := ih (n * 10 + (c.toNat - 48)); omega
theorem step_dig {c : UInt8} (hc : IsDig c) (m nd : Nat) (dp : Int) (sd sg : Bool) (h0 : c.toNat = 48 → 1 ≤ nd) (h19 : nd < 19) :
  stepS false c.toNat ⟨m,nd,nd,dp,sd,sg,false,false⟩ = some ⟨m * 10 + (c.toNat - 48),nd + 1,nd + 1,dp,sd,true,false,false⟩ := by
 obtain ⟨h1,h2⟩ := hc
 unfold stepS
 rw [if_neg (by omega),if_neg (by omega),if_pos ⟨h1,h2⟩,if_neg (by show ¬ (c.toNat = 48 ∧ nd = 0); omega),if_pos (by show nd < mxX false; exact h19)]
 rfl
theorem loop_digs (u neg : Bool) (L rest : List UInt8) (dp : Int) (sd : Bool) : ∀ (ds : List UInt8) (i m nd : Nat),(∀ c,c ∈ ds → IsDig c) → 1 ≤ nd → nd + ds.length ≤ 19 →
  loopL u neg false L (ds ++ rest) i ⟨m,nd,nd,dp,sd,true,false,false⟩ = loopL u neg false L rest (i + ds.length) ⟨vD m ds,nd + ds.length,nd + ds.length,dp,sd,true,false,false⟩
 | [],i,m,nd,_,_,_ => rfl
 | c :: ds,i,m,nd,hd,h1,h19 => by
  simp only [List.length_cons] at h19
  have hs := step_dig (hd c (by simp)) m nd dp sd true (fun _ => h1) (by omega)
  rw [List.cons_append,loop_cs hs,loop_digs u neg L rest dp sd ds (i + 1) _ (nd + 1) (fun c' hc' => hd c' (by simp [hc'])) (by omega) (by omega)]
  rw [vD_cons,List.length_cons,show i + 1 + ds.length = i + (ds.length + 1) by omega,show nd + 1 + ds.length = nd + (ds.length + 1) by omega]
theorem eL_digs (u neg hx : Bool) (m : Nat) (tr : Bool) (dp : Int) (nm : Nat) (es : Int) (us : Bool) : ∀ (ds : List UInt8) (i e : Nat),(∀ c,c ∈ ds → IsDig c) → vD e ds < 10000 →
  eL u neg hx m tr dp nm es ds i e us = endL u neg hx m tr us (i + ds.length) (dp + (vD e ds : Int) * es - (nm : Int))
 | [],i,e,_,_ => rfl
 | c :: ds,i,e,hd,hv => by
  obtain ⟨h1,h2⟩ := hd c (by simp)
  rw [vD_cons] at hv
  have h3 := vD_ge ds (e * 10 + (c.toNat - 48))
  rw [eL,if_neg (by omega),if_pos ⟨h1,h2⟩,if_pos (by omega),show e * 10 + c.toNat - 48 = e * 10 + (c.toNat - 48) by omega]
  rw [eL_digs u neg hx m tr dp nm es us ds (i + 1) _ (fun c' hc' => hd c' (by simp [hc'])) hv,vD_cons,List.length_cons,show i + 1 + ds.length = i + (ds.length + 1) by omega]
def exL (mi : Bool) (xs : List UInt8) : List UInt8 := (if mi then [45] else []) ++ xs
theorem gL_exL (u neg : Bool) (m : Nat) (dp : Int) (nm : Nat) (P : List UInt8) (mi : Bool) (c : UInt8) (xs : List UInt8) (hd : ∀ d,d ∈ c :: xs → IsDig d) (hv : vD 0 (c :: xs) < 10000) :
  gL u neg false m false dp nm false (P ++ exL mi (c :: xs)) P.length = .good m (if m = 0 then 0 else dp + (if mi then -(vD 0 (c :: xs) : Int) else (vD 0 (c :: xs) : Int)) - (nm : Int)) neg false false (P ++ exL mi (c :: xs)).length := by
 obtain ⟨h1,h2⟩ := hd c (by simp)
 cases mi with
 | true =>
  have e1 : (P ++ exL true (c :: xs)).drop P.length = 45 :: c :: xs := by rw [List.drop_left]; rfl
  have e2 : (P ++ exL true (c :: xs)).drop (P.length + 1) = c :: xs := by rw [← List.drop_drop,e1]; rfl
  unfold gL
  rw [e1]
  show (if (45 : UInt8).toNat = 43 then _ else if (45 : UInt8).toNat = 45 then _ else _) = _
  rw [if_neg (by decide),if_pos (by decide)]
  unfold fL
  rw [e2]
  show (if c.toNat < 48 ∨ 57 < c.toNat then _ else _) = _
  rw [if_neg (by omega),eL_digs u neg false m false dp nm (-1) false (c :: xs) _ 0 hd hv]
  unfold endL
  rw [if_neg (by simp)]
  have e3 : P.length + 1 + (c :: xs).length = (P ++ exL true (c :: xs)).length := by simp [exL]; omega
  rw [e3]
  simp only [if_true]
  rw [show dp + (vD 0 (c :: xs) : Int) * -1 - (nm : Int) = dp + -(vD 0 (c :: xs) : Int) - (nm : Int) by omega]
 | false =>
  have e1 : (P ++ exL false (c :: xs)).drop P.length = c :: xs := by rw [List.drop_left]; rfl
  unfold gL
  rw [e1]
  show (if c.toNat = 43 then _ else if c.toNat = 45 then _ else _) = _
  rw [if_neg (by omega),if_neg (by omega)]
  unfold fL
  rw [e1]
  show (if c.toNat < 48 ∨ 57 < c.toNat then _ else _) = _
  rw [if_neg (by omega),eL_digs u neg false m false dp nm 1 false (c :: xs) _ 0 hd hv]
  unfold endL
  rw [if_neg (by simp)]
  have e3 : P.length + (c :: xs).length = (P ++ exL false (c :: xs)).length := by simp [exL]
  rw [e3]
  rw [show dp + (vD 0 (c :: xs) : Int) * 1 - (nm : Int) = dp + (vD 0 (c :: xs) : Int) - (nm : Int) by omega]
  rfl
theorem mid_e (u neg : Bool) (P : List UInt8) (mi : Bool) (c : UInt8) (xs : List UInt8) (hd : ∀ d,d ∈ c :: xs → IsDig d) (hv : vD 0 (c :: xs) < 10000) (s : StR) (hg : s.sg = true) (ht : s.tr = false) (hu : s.us = false) (DP : Int) (hdp : (if s.sd then s.dp else (s.nd : Int)) = DP) :
  loopL u neg false (P ++ 101 :: exL mi (c :: xs)) (101 :: exL mi (c :: xs)) P.length s = .good s.m (if s.m = 0 then 0 else DP + (if mi then -(vD 0 (c :: xs) : Int) else (vD 0 (c :: xs) : Int)) - (s.nm : Int)) neg false false (P ++ 101 :: exL mi (c :: xs)).length := by
 have hs : stepS false (101 : UInt8).toNat s = none := by
  unfold stepS
  rw [if_neg (by decide),if_neg (by decide),if_neg (by decide),if_neg (by decide)]
 rw [loop_cn hs]
 unfold midL
 rw [hg,if_pos rfl,hdp,ht,hu]
 unfold xL
 rw [List.drop_left]
 show (if (101 : UInt8).toNat ||| 32 = ecX false then gL u neg false s.m false (DP * 1) (s.nm * 1) false (P ++ 101 :: exL mi (c :: xs)) (P.length + 1) else _) = _
 rw [if_pos (by decide),Int.mul_one,Nat.mul_one]
 have e : P ++ 101 :: exL mi (c :: xs) = (P ++ [101]) ++ exL mi (c :: xs) := by simp
 rw [e,show P.length + 1 = (P ++ [101]).length by simp]
 exact gL_exL u neg s.m DP s.nm (P ++ [101]) mi c xs hd hv
theorem drop_app (P Q : List UInt8) : (P ++ Q).drop P.length = Q := List.drop_left ..
theorem hx_no (u neg : Bool) (P : List UInt8) (d e : UInt8) (r : List UInt8) (h : d.toNat = 48 → e.toNat ||| 32 ≠ 120) : hxL u neg (P ++ d :: e :: r) P.length = loopL u neg false (P ++ d :: e :: r) (d :: e :: r) P.length s0 := by
 unfold hxL
 have e1 : (P ++ d :: e :: r).getD P.length 0 = d := by simp [List.getD]
 have e2 : (P ++ d :: e :: r).getD (P.length + 1) 0 = e := by simp [List.getD]
 rw [e1,e2,drop_app,if_neg]
 rintro ⟨_,h1,h2⟩
 exact h h1 h2
theorem read_sign (u neg : Bool) (d : UInt8) (hd : IsDig d) (r : List UInt8) : readL u ((if neg then [45] else []) ++ d :: r) = hxL u neg ((if neg then [45] else []) ++ d :: r) (if neg then [45] else [] : List UInt8).length := by
 obtain ⟨h1,h2⟩ := hd
 cases neg with
 | true =>
  rw [if_pos rfl]
  unfold readL
  rw [List.cons_append]
  simp only
  rw [if_neg (by decide),if_pos (by decide)]
  rfl
 | false =>
  rw [if_neg (by decide)]
  unfold readL
  rw [List.nil_append]
  simp only
  rw [if_neg (by omega),if_neg (by omega)]
  rfl
theorem read_nought (u neg : Bool) (mi : Bool) (c : UInt8) (xs : List UInt8) (hx : ∀ d,d ∈ c :: xs → IsDig d) (hv : vD 0 (c :: xs) < 10000) :
  readL u ((if neg then [45] else []) ++ 48 :: 101 :: exL mi (c :: xs)) = .good 0 0 neg false false ((if neg then [45] else []) ++ 48 :: 101 :: exL mi (c :: xs) : List UInt8).length := by
 rw [read_sign u neg 48 ⟨by decide,by decide⟩]
 generalize (if neg then [45] else [] : List UInt8) = P
 rw [hx_no u neg P 48 101 _ (fun _ => by decide)]
 have hs : stepS false (48 : UInt8).toNat s0 = some ⟨0,0,0,-1,false,true,false,false⟩ := by
  unfold stepS s0
  rw [if_neg (by decide),if_neg (by decide),if_pos (by decide),if_pos (by decide)]
  rfl
 rw [loop_cs hs]
 have e : P ++ 48 :: 101 :: exL mi (c :: xs) = (P ++ [48]) ++ 101 :: exL mi (c :: xs) := by simp
 rw [e,show P.length + 1 = (P ++ [48]).length by simp]
 rw [mid_e u neg (P ++ [48]) mi c xs hx hv ⟨0,0,0,-1,false,true,false,false⟩ rfl rfl rfl 0 rfl]
 rfl
theorem read_digits (u neg : Bool) (d : UInt8) (hd : IsDig d) (h0 : d.toNat ≠ 48) (ds : List UInt8) (hds : ∀ c,c ∈ ds → IsDig c) (hl : ds.length ≤ 18) (mi : Bool) (c : UInt8) (xs : List UInt8) (hx : ∀ d,d ∈ c :: xs → IsDig d) (hv : vD 0 (c :: xs) < 10000) :
  readL u ((if neg then [45] else []) ++ d :: ((if ds = [] then [] else 46 :: ds) ++ 101 :: exL mi (c :: xs))) = .good (vD 0 (d :: ds)) (if vD 0 (d :: ds) = 0 then 0 else 1 + (if mi then -(vD 0 (c :: xs) : Int) else (vD 0 (c :: xs) : Int)) - ((1 + ds.length : Nat) : Int)) neg false false ((if neg then [45] else []) ++ d :: ((if ds = [] then [] else 46 :: ds) ++ 101 :: exL mi (c :: xs)) : List UInt8).length := by
 rw [read_sign u neg d hd]
 generalize (if neg then [45] else [] : List UInt8) = P
 have hs := step_dig hd 0 0 0 false false (fun h => absurd h h0) (by omega)
 by_cases hn : ds = []
 ·subst hn
  rw [if_pos rfl,List.nil_append,hx_no u neg P d 101 _ (fun h => absurd h h0)]
  rw [show s0 = ⟨0,0,0,0,false,false,false,false⟩ from rfl,loop_cs hs]
  have e : P ++ d :: 101 :: exL mi (c :: xs) = (P ++ [d]) ++ 101 :: exL mi (c :: xs) := by simp
  rw [e,show P.length + 1 = (P ++ [d]).length by simp]
  rw [mid_e u neg (P ++ [d]) mi c xs hx hv _ rfl rfl rfl 1 rfl]
  rfl
 ·rw [if_neg hn,List.cons_append,hx_no u neg P d 46 _ (fun h => absurd h h0)]
  rw [show s0 = ⟨0,0,0,0,false,false,false,false⟩ from rfl,loop_cs hs]
  have hp : stepS false (46 : UInt8).toNat ⟨0 * 10 + (d.toNat - 48),0 + 1,0 + 1,0,false,true,false,false⟩ = some ⟨0 * 10 + (d.toNat - 48),1,1,1,true,true,false,false⟩ := by
   unfold stepS
   rw [if_neg (by decide),if_pos (by decide)]
   rfl
  rw [loop_cs hp]
  rw [loop_digs u neg _ _ 1 true ds _ _ 1 hds (by omega) (by omega)]
  have e : P ++ d :: 46 :: (ds ++ 101 :: exL mi (c :: xs)) = (P ++ d :: 46 :: ds) ++ 101 :: exL mi (c :: xs) := by simp
  rw [e,show P.length + 1 + 1 + ds.length = (P ++ d :: 46 :: ds).length by simp; omega]
  rw [mid_e u neg (P ++ d :: 46 :: ds) mi c xs hx hv _ rfl rfl rfl 1 rfl]
  rfl
end Go.Proofs.YtalaajniammggaaGreatDoor

/- Numerals are read as what they are. -/
namespace Go.Proofs.YtalaajniammggaaGreatDoor
theorem vD_app (l k : List UInt8) : ∀ n,vD n (l ++ k) = vD (vD n l) k := by
 intro n
 unfold vD
 rw [List.foldl_append]
theorem dig_of (k : Nat) (h : k < 10) : IsDig (UInt8.ofNat (48 + k)) ∧ (UInt8.ofNat (48 + k)).toNat = 48 + k := by
 have e : (UInt8.ofNat (48 + k)).toNat = 48 + k := by simp; omega
 exact ⟨⟨by omega,by omega⟩,e⟩
theorem dec_spec (u : Nat) : (∀ c,c ∈ Lib.decDigits u → IsDig c) ∧ vD 0 (Lib.decDigits u) = u ∧ Lib.decDigits u ≠ [] := by
 induction u using Nat.strongRecOn with
 | _ u ih =>
  by_cases h : u < 10
  ·rw [Lib.decDigits,dif_pos h]
   obtain ⟨d1,d2⟩ := dig_of u h
   refine ⟨fun c hc => ?_,?_,by simp⟩
   ·rw [List.mem_singleton] at hc; rw [hc]; exact d1
   ·rw [vD_cons,d2]; show 0 * 10 + (48 + u - 48) = u; omega
  ·rw [Lib.decDigits,dif_neg h]
   obtain ⟨i1,i2,i3⟩ := ih (u / 10) (by omega)
   obtain ⟨d1,d2⟩ := dig_of (u % 10) (by omega)
   refine ⟨fun c hc => ?_,?_,by simp⟩
   ·rw [List.mem_append,List.mem_singleton] at hc
    rcases hc with hc | hc
    ·exact i1 c hc
    ·rw [hc]; exact d1
   ·rw [vD_app,i2,vD_cons,d2]
    show u / 10 * 10 + (48 + u % 10 - 48) = u
    omega
theorem itoa_ex (X : Int) : ∃ c xs,Lib.itoa X = exL (decide (X < 0)) (c :: xs) ∧ (∀ d,d ∈ c :: xs → IsDig d) ∧ vD 0 (c :: xs) = X.natAbs := by
 by_cases h : X < 0
 ·obtain ⟨i1,i2,i3⟩ := dec_spec X.natAbs
  obtain ⟨c,xs,e⟩ := List.exists_cons_of_ne_nil i3
  rw [e] at i1 i2
  refine ⟨c,xs,?_,i1,i2⟩
  unfold Lib.itoa exL
  rw [if_pos h,e,decide_eq_true h]
  rfl
 ·obtain ⟨i1,i2,i3⟩ := dec_spec X.toNat
  obtain ⟨c,xs,e⟩ := List.exists_cons_of_ne_nil i3
  rw [e] at i1 i2
  refine ⟨c,xs,?_,i1,by rw [i2]; omega⟩
  unfold Lib.itoa exL
  rw [if_neg h,e,decide_eq_false h]
  rfl
end Go.Proofs.YtalaajniammggaaGreatDoor

/- What was printed is read as its digits and its exponent; unlike bits have unlike texts. -/
namespace Go.Proofs.YtalaajniammggaaGreatDoor
open Go.RowKit
theorem valD_vD (l : List UInt8) : valD l = vD 0 l := rfl
theorem pow_le_n (d : Nat) (h : 1 ≤ d) : 10 ^ (Lib.nDigits d - 1) ≤ d := by
 induction d using Nat.strongRecOn with
 | _ d ih =>
  by_cases h10 : d < 10
  ·rw [Lib.nDigits_small h10]; simpa using h
  ·rw [Lib.nDigits_big h10]
   have h1 := ih (d / 10) (by omega) (by omega)
   have h2 := Lib.nDigits_pos (d / 10)
   rw [show Lib.nDigits (d / 10) + 1 - 1 = (Lib.nDigits (d / 10) - 1) + 1 by omega,Nat.pow_succ]
   omega
theorem dg_first (d : Nat) (h : 1 ≤ d) : (gOfD d 0).toNat ≠ 48 := by
 unfold gOfD
 rw [dg_toNat]
 unfold dgt
 rw [Nat.sub_zero]
 have h1 := pow_le_n d h
 have h2 := Lib.lt_pow_nDigits d
 have h3 := Lib.nDigits_pos d
 have h4 : 1 ≤ d / 10 ^ (Lib.nDigits d - 1) := (Nat.le_div_iff_mul_le (Nat.pow_pos (by decide))).2 (by simpa using h1)
 have h5 : d / 10 ^ (Lib.nDigits d - 1) < 10 := (Nat.div_lt_iff_lt_mul (Nat.pow_pos (by decide))).2 (by
  have e : 10 ^ Lib.nDigits d = 10 ^ (Lib.nDigits d - 1) * 10 := by rw [← Nat.pow_succ]; congr 1; omega
  rw [Nat.mul_comm,← e]; exact h2)
 omega
theorem gF_isDig (x t : Nat) : IsDig (gF x t) := by
 obtain ⟨k,hk,e⟩ := gF_digit x t
 rw [e]
 exact (dig_of k hk).1
theorem gF_first {x : Nat} (h0 : rungOf x ≠ 0) (hf : rungOf x < INF) : (gF x 0).toNat ≠ 48 := by
 unfold gF
 rw [if_neg h0]
 have FL := flo_of h0 hf
 obtain ⟨f1,_⟩ := shortM_bounds FL
 have e : shortOf x = shortM (magOf (rungOf x)) ((expOf (rungOf x) : Int) - 1074) := by unfold shortOf; rw [if_neg h0]
 rw [← e] at f1
 exact dg_first _ f1
theorem moreD_dig (x n : Nat) : ∀ c,c ∈ moreD (gF x) n → IsDig c := by
 intro c hc
 unfold moreD at hc
 rw [List.mem_map] at hc
 obtain ⟨t,_,rfl⟩ := hc
 exact gF_isDig x _
theorem read_txt {x : Nat} (hf : rungOf x < INF) (u : Bool) :
  readL u (txtL (negOf x) (gF x) (nF x) (XF x)) = .good (dF x) (if dF x = 0 then 0 else pF x) (negOf x) false false (txtL (negOf x) (gF x) (nF x) (XF x)).length := by
 obtain ⟨b1,b2,b3,b4⟩ := parts_bounds hf
 obtain ⟨c,xs,e1,e2,e3⟩ := itoa_ex (XF x)
 have hv : vD 0 (c :: xs) < 10000 := by rw [e3]; omega
 have hX : (if decide (XF x < 0) = true then -(vD 0 (c :: xs) : Int) else (vD 0 (c :: xs) : Int)) = XF x := by
  rw [e3]
  by_cases h : XF x < 0
  ·rw [if_pos (decide_eq_true h)]; omega
  ·rw [if_neg (by simpa using h)]; omega
 by_cases h0 : rungOf x = 0
 ·have en : nF x = 1 := by unfold nF; rw [if_pos h0]
  have eg : gF x 0 = 48 := by unfold gF; rw [if_pos h0]
  have et : txtL (negOf x) (gF x) (nF x) (XF x) = (if negOf x then [45] else []) ++ 48 :: 101 :: exL (decide (XF x < 0)) (c :: xs) := by
   unfold txtL prefL
   rw [en,eg,e1]
   simp
  rw [et,read_nought u (negOf x) _ c xs e2 hv,dF_zero h0]
  rfl
 ·have hd := gF_isDig x 0
  have hn := gF_first h0 hf
  have ed : dF x = vD 0 (gF x 0 :: moreD (gF x) (nF x)) := by unfold dF; rw [digL_more _ _ b1,valD_vD]
  have el : (moreD (gF x) (nF x)).length = nF x - 1 := by unfold moreD; simp
  have ei : (if moreD (gF x) (nF x) = [] then [] else 46 :: moreD (gF x) (nF x) : List UInt8) = (if 1 < nF x then 46 :: moreD (gF x) (nF x) else []) := by
   by_cases h : 1 < nF x
   ·rw [if_pos h,if_neg (fun e => by rw [e] at el; simp at el; omega)]
   ·rw [if_neg h,if_pos (List.eq_nil_of_length_eq_zero (by omega))]
  have et : txtL (negOf x) (gF x) (nF x) (XF x) = (if negOf x then [45] else []) ++ gF x 0 :: ((if moreD (gF x) (nF x) = [] then [] else 46 :: moreD (gF x) (nF x)) ++ 101 :: exL (decide (XF x < 0)) (c :: xs)) := by
   rw [ei]
   unfold txtL prefL
   rw [e1]
   simp
  rw [et,read_digits u (negOf x) (gF x 0) hd hn (moreD (gF x) (nF x)) (moreD_dig x _) (by omega) _ c xs e2 hv,hX,← ed,el]
  have ep : (1 : Int) + XF x - ((1 + (nF x - 1) : Nat) : Int) = pF x := by unfold pF; omega
  rw [ep]
theorem txt_inj {x y : Nat} (hx : x < 18446744073709551616) (hy : y < 18446744073709551616) (fx : rungOf x < INF) (fy : rungOf y < INF) (h : txtL (negOf x) (gF x) (nF x) (XF x) = txtL (negOf y) (gF y) (nF y) (XF y)) : x = y := by
 have a := read_txt fx true
 have b := read_txt fy true
 rw [h,b] at a
 simp only [Out.good.injEq] at a
 obtain ⟨ed,ep,en,_⟩ := a
 by_cases z : rungOf x = 0
 ·have z2 : rungOf y = 0 := by
   rcases Nat.eq_zero_or_pos (rungOf y) with h | h
   ·exact h
   ·have := (read_F (by omega) fy).2.1
    rw [ed,dF_zero z] at this
    omega
  exact bits_eq hx hy en.symm (by rw [z,z2])
 ·have d1 := (read_F z fx).2.1
  rw [ed,if_neg (by omega)] at ep
  rw [if_neg (by omega)] at ep
  exact same_float hx hy fx fy en.symm ed.symm ep.symm
theorem num_inj {x y : Nat} (hx : x < 18446744073709551616) (hy : y < 18446744073709551616) (fx : rungOf x ≤ INF) (fy : rungOf y ≤ INF) (h : numL x = numL y) : x = y := by
 have key : ∀ z,rungOf z < INF → ∀ b : Bool,txtL (negOf z) (gF z) (nF z) (XF z) ≠ (if b then [45,105,110,102] else [105,110,102]) := by
  intro z hz b e
  obtain ⟨k,hk,eg⟩ := gF_digit z 0
  have h48 : gF z 0 ≠ 105 ∧ gF z 0 ≠ 45 := by
   rw [eg]
   have := (dig_of k hk).2
   exact ⟨fun h => by have := congrArg UInt8.toNat h; simp at this; omega,fun h => by have := congrArg UInt8.toNat h; simp at this; omega⟩
  unfold txtL prefL at e
  cases hb : negOf z <;> cases b <;> rw [hb] at e <;> simp at e
  ·exact h48.1 e.1
  ·exact h48.2 e.1
  ·exact h48.1 e.1
 unfold numL at h
 by_cases ix : rungOf x = INF
 ·by_cases iy : rungOf y = INF
  ·rw [if_pos ix,if_pos iy] at h
   refine bits_eq hx hy ?_ (by rw [ix,iy])
   cases hnx : negOf x <;> cases hny : negOf y <;> rw [hnx,hny] at h <;> simp at h ⊢
  ·rw [if_pos ix,if_neg iy] at h
   exact absurd h.symm (key y (by omega) (negOf x))
 ·by_cases iy : rungOf y = INF
  ·rw [if_neg ix,if_pos iy] at h
   exact absurd h (key x (by omega) (negOf y))
  ·rw [if_neg ix,if_neg iy] at h
   exact txt_inj hx hy (by omega) (by omega) h
theorem print_inj {x y : Nat} (hx : x < 18446744073709551616) (hy : y < 18446744073709551616) (h : printL x = printL y) : x = y := by
 unfold printL at h
 by_cases nx : INF < rungOf x
 ·by_cases ny : INF < rungOf y
  ·rw [if_pos nx,if_pos ny] at h
   have h2 : hexL x = hexL y := List.append_cancel_left h
   have a := puR_hex x hx
   rw [h2,puR_hex y hy] at a
   simp at a
   omega
  ·rw [if_pos nx,if_neg ny] at h
   obtain ⟨c,r,e,hc⟩ := numL_head y
   rw [e] at h
   simp at h
   exact absurd h.1.symm hc
 ·by_cases ny : INF < rungOf y
  ·rw [if_neg nx,if_pos ny] at h
   obtain ⟨c,r,e,hc⟩ := numL_head x
   rw [e] at h
   simp at h
   exact absurd h.1 hc
  ·rw [if_neg nx,if_neg ny] at h
   exact num_inj hx hy (by omega) (by omega) h
theorem itoa_len (X : Int) (h1 : -400 < X) (h2 : X < 400) : (Lib.itoa X).length ≤ 4 := by
 unfold Lib.itoa
 have key : ∀ u : Nat,u < 400 → (Lib.decDigits u).length ≤ 3 := by
  intro u hu
  rw [Lib.decDigits_length]
  by_cases a : u < 10
  ·rw [Lib.nDigits_small a]; omega
  ·rw [Lib.nDigits_big a]
   by_cases b : u / 10 < 10
   ·rw [Lib.nDigits_small b]; omega
   ·rw [Lib.nDigits_big b,Lib.nDigits_small (by omega)]; omega
 split
 ·have := key X.natAbs (by omega); simp; omega
 ·have := key X.toNat (by omega); omega
theorem print_len (x : Nat) (hx : x < 18446744073709551616) : (printL x).length ≤ 25 := by
 unfold printL
 split
 ·have := hexL_len 15 x hx; simp; omega
 ·unfold numL
  split
  ·cases negOf x <;> simp
  ·rename_i h1 h2
   obtain ⟨b1,b2,b3,b4⟩ := parts_bounds (x := x) (by omega)
   have := prefL_len (negOf x) (gF x) (nF x) b2
   have := itoa_len (XF x) (by omega) (by omega)
   unfold txtL
   simp
   omega
end Go.Proofs.YtalaajniammggaaGreatDoor

/- The exact way of reading tells just the float whose text it is. -/
namespace Go.Proofs.YtalaajniammggaaGreatDoor
open Go.RowKit
theorem scale_le {a b P Q U W t : Nat} (h : a * U * P ≤ b * Q * W) : a * (U * t) * P ≤ b * Q * (W * t) := by
 have := Nat.mul_le_mul_right t h
 have e1 : a * (U * t) * P = a * U * P * t := by grind
 have e2 : b * Q * (W * t) = b * Q * W * t := by grind
 omega
theorem scale_lt {a b P Q U W t : Nat} (ht : 0 < t) (h : a * U * P < b * Q * W) : a * (U * t) * P < b * Q * (W * t) := by
 have := Nat.mul_lt_mul_of_pos_right h ht
 have e1 : a * (U * t) * P = a * U * P * t := by grind
 have e2 : b * Q * (W * t) = b * Q * W * t := by grind
 omega
theorem reads_rn {mant : Nat} {k : Int} (F : Flo mant k) {n : Nat} {q : Int} (h : Reads mant k (skewOf mant k) n q) (kk : Nat) (hkk : (kk : Int) = k + 1074) :
  rn (n * 10 ^ q.toNat * 2 ^ unit) (10 ^ (-q).toNat) = kk * 2 ^ 52 + mant := by
 have lo := F.lo
 obtain ⟨t,ht⟩ : ∃ t,(-k).toNat + t = 1074 := ⟨1074 - (-k).toNat,by omega⟩
 have ek : kk = k.toNat + t := by omega
 have hu : unit = (-k).toNat + t := by unfold unit; omega
 have tp : 0 < 2 ^ t := Nat.pow_pos (by decide)
 refine rn_reads F (Nat.pow_pos (by decide)) kk hkk ?_
 rw [hu,ek,Nat.pow_add,Nat.pow_add]
 obtain ⟨T,hT⟩ : ∃ T,2 ^ t = T := ⟨_,rfl⟩
 obtain ⟨U,hU⟩ : ∃ T,2 ^ k.toNat = T := ⟨_,rfl⟩
 obtain ⟨W,hW⟩ : ∃ T,2 ^ (-k).toNat = T := ⟨_,rfl⟩
 obtain ⟨P,hP⟩ : ∃ T,10 ^ (-q).toNat = T := ⟨_,rfl⟩
 obtain ⟨Q,hQ⟩ : ∃ T,10 ^ q.toNat = T := ⟨_,rfl⟩
 unfold Reads le2 lt2 ge2 gt2 at h
 rw [hU,hW,hP,hQ] at h
 rw [hT,hU,hW,hP,hQ]
 rw [hT] at tp
 clear hT hU hW hP hQ hu ek ht lo F
 have e : 4 * (n * Q * (W * T)) = 4 * n * Q * (W * T) := by grind
 rw [e]
 split at h
 ·rename_i hm
  rw [if_pos hm]
  refine ⟨scale_le h.1,?_⟩
  have := Nat.mul_le_mul_right T h.2
  have e1 : (4 * mant + 2) * (U * T) * P = (4 * mant + 2) * U * P * T := by grind
  have e2 : 4 * n * Q * (W * T) = 4 * n * Q * W * T := by grind
  rw [e1,e2]
  exact this
 ·rename_i hm
  rw [if_neg hm]
  refine ⟨scale_lt tp h.1,?_⟩
  have := Nat.mul_lt_mul_of_pos_right h.2 tp
  have e1 : (4 * mant + 2) * (U * T) * P = (4 * mant + 2) * U * P * T := by grind
  have e2 : 4 * n * Q * (W * T) = 4 * n * Q * W * T := by grind
  rw [e1,e2]
  exact this
theorem exact_x {x : Nat} (hx : x < 18446744073709551616) (h0 : rungOf x ≠ 0) (hf : rungOf x < INF) {f : Nat} {ok : Bool} (R : Right (dF x) (pF x) (negOf x) f ok) (hok : ok = true) : f = x := by
 obtain ⟨_,e⟩ := R hok
 obtain ⟨hR,_⟩ := read_F h0 hf
 rw [e,reads_rn (flo_of h0 hf) hR (expOf (rungOf x)) (by omega),← (rung_pack (rungOf x)).1]
 exact word_of x hx
theorem word_sg (x : Nat) (hx : x < 18446744073709551616) : (if negOf x then 9223372036854775808 else 0) + rungOf x = x := by
 have h := word_of x hx
 unfold negOf rungOf at *
 by_cases hc : x < 9223372036854775808
 ·have h1 : x / 2 ^ 63 = 0 := Nat.div_eq_of_lt hc
  rw [h1]
  have h2 : x % 2 ^ 63 = x := Nat.mod_eq_of_lt hc
  rw [h2]
  show 0 + x = x
  omega
 ·have h1 : x / 2 ^ 63 = 1 := by
   have e63 : (2 : Nat) ^ 63 = 9223372036854775808 := by decide
   rw [e63]; omega
  rw [h1]
  have e63 : (2 : Nat) ^ 63 = 9223372036854775808 := by decide
  rw [e63]
  show 9223372036854775808 + x % 9223372036854775808 = x
  omega
end Go.Proofs.YtalaajniammggaaGreatDoor
