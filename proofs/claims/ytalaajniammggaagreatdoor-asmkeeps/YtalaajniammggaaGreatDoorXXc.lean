/- A float above 0 or below it, printed by the library. -/
import Derived.Test.YtalaajniammggaaGreatDoorXXb
import Derived.Test.YtalaajniammggaaGreatDoorXWc
import Derived.Lib.ItoaLen
import Derived.Lib.AppendIntMem
namespace Go.Proofs.YtalaajniammggaaGreatDoor
open Go.RowKit
theorem and2047 (n : Nat) : bits .and .i64 (n : Int) 2047 = ((n % 2048 : Nat) : Int) := by
 have h1 : (BitVec.ofInt 64 2047).toNat = 2 ^ 11 - 1 := by decide
 have key : (BitVec.ofInt 64 (n : Int) &&& BitVec.ofInt 64 2047).toNat = ((n : Int) % ((2 ^ 64 : Nat) : Int)).toNat % 2 ^ 11 := by
  rw [BitVec.toNat_and,BitVec.toNat_ofInt,h1,Nat.and_two_pow_sub_one_eq_mod]
 show IntKind.i64.wrap ((BitVec.ofInt 64 (n : Int) &&& BitVec.ofInt 64 2047).toNat : Nat) = _
 rw [key,IntKind.wrap_i64]
 omega
theorem and52 (n : Nat) (h : n < 18446744073709551616) : bits .and .u64 (n : Int) 4503599627370495 = ((n % 4503599627370496 : Nat) : Int) := by
 have := u64_and_nat n 4503599627370495 h (by omega)
 rw [show (4503599627370495 : Nat) = 2 ^ 52 - 1 from rfl,Nat.and_two_pow_sub_one_eq_mod] at this
 exact this
theorem or52 (n : Nat) (h : n < 4503599627370496) : bits .or .u64 (n : Int) 4503599627370496 = ((n + 4503599627370496 : Nat) : Int) := by
 have := u64_or_nat n 4503599627370496 (by omega) (by omega)
 have h2 := Nat.two_pow_add_eq_or_of_lt (i := 52) (b := n) h 1
 rw [Nat.mul_one,Nat.or_comm] at h2
 have h3 : n ||| 4503599627370496 = n + 4503599627370496 := by rw [Nat.add_comm n]; exact h2.symm
 rw [h3] at this
 exact this
theorem bitLen_eq {x : Nat} (h1 : 1 ≤ x) (h2 : x < 18446744073709551616) : Lib.bitLen x = x.log2 + 1 := by
 obtain ⟨a,b,c⟩ := Lib.bitLenAux_bounds 64 x h2 (by omega)
 have : x.log2 = Lib.bitLenAux 64 x - 1 := (Nat.log2_eq_iff (by omega)).2 ⟨b,by rw [show Lib.bitLenAux 64 x - 1 + 1 = Lib.bitLenAux 64 x by omega]; exact c⟩
 unfold Lib.bitLen
 omega
theorem flo_of {r : Nat} (h0 : r ≠ 0) (h : r < INF) : Flo (magOf r) ((expOf r : Int) - 1074) := by
 obtain ⟨a,b,c⟩ := rung_pack r
 have hI : INF = 2047 * 2 ^ 52 := rfl
 have ht : (2 : Nat) ^ 52 = 4503599627370496 := by decide
 have ht3 : (2 : Nat) ^ 53 = 9007199254740992 := by decide
 rw [ht] at a c hI
 rw [ht3] at b
 refine ⟨by omega,b,by omega,by omega,?_⟩
 rcases c with c | c
 ·left; omega
 ·right; exact c
theorem nzd_le : ∀ (n d : Nat),nzd d n ≤ n
 | 0,_ => Nat.le_refl _
 | n + 1,d => by
  unfold nzd
  split
  ·have := nzd_le n (d / 10); omega
  ·exact Nat.le_refl _
theorem nzd_pos : ∀ (n d : Nat),1 ≤ d → d < 10 ^ n → 1 ≤ nzd d n
 | 0,d,h1,h2 => by simp at h2; omega
 | n + 1,d,h1,h2 => by
  unfold nzd
  split
  ·exact nzd_pos n (d / 10) (by omega) (by rw [Nat.pow_succ] at h2; omega)
  ·omega
theorem nzd_spec : ∀ (n d : Nat),d = d / 10 ^ (n - nzd d n) * 10 ^ (n - nzd d n)
 | 0,d => by simp
 | n + 1,d => by
  unfold nzd
  split
  ·next h =>
   have ih := nzd_spec n (d / 10)
   have hl := nzd_le n (d / 10)
   rw [show n + 1 - nzd (d / 10) n = (n - nzd (d / 10) n) + 1 by omega,Nat.pow_succ,Nat.mul_comm (10 ^ (n - nzd (d / 10) n)) 10,← Nat.div_div_eq_div_mul,Nat.mul_comm 10,← Nat.mul_assoc,← ih]
   omega
  ·rw [Nat.sub_self,Nat.pow_zero,Nat.div_one,Nat.mul_one]
theorem nDigits_le : ∀ (n d : Nat),1 ≤ n → d < 10 ^ n → Lib.nDigits d ≤ n
 | 0,_,h,_ => by omega
 | n + 1,d,_,h => by
  by_cases hd : d < 10
  ·rw [Lib.nDigits_small hd]; omega
  ·rw [Lib.nDigits_big hd]
   have hn : 1 ≤ n := by
    rcases Nat.eq_zero_or_pos n with h0 | h0
    ·subst h0; simp at h; omega
    ·exact h0
   have := nDigits_le n (d / 10) hn (by rw [Nat.pow_succ] at h; omega)
   omega
theorem digits17 {d : Nat} (h : d < 100000000000000000) : Lib.nDigits d ≤ 17 := nDigits_le 17 d (by omega) h
def gOfD (d : Nat) : Nat → UInt8 := fun t => Lib.dg d (Lib.nDigits d - 1 - t)
set_option maxRecDepth 100000 in
set_option maxHeartbeats 4000000 in
theorem ftoa_any (B q x : Nat) (hx : x < 18446744073709551616) (hf : rungOf x < INF) (h0 : rungOf x ≠ 0) (rd : Nat) (re : Int) (hM : shortM (magOf (rungOf x)) ((expOf (rungOf x) : Int) - 1074) = (rd,re)) (w : World) (T : Tabs w) (R : Rowz w) (hB : Buf B w q 0 []) :
  Calls Tryz.prog 132 #[.slice (some ⟨q,0,none⟩) 0 24,.float .f64 x,.int .u8 101,.int .i64 (-1)] w fun e w' =>
   ∃ N,e = .returned (.slice (some ⟨q,0,none⟩) N 24) ∧ Buf B w' q N (fmtL (negOf x) (gOfD rd) (nzd rd (Lib.nDigits rd)) (decide ((Lib.nDigits rd : Int) + re - 1 < 0)) ((Lib.nDigits rd : Int) + re - 1).natAbs) ∧ Below B w w' := by
 have FL := flo_of h0 hf
 obtain ⟨a1,a2,a3⟩ := rung_pack (rungOf x)
 have ht : (2 : Nat) ^ 52 = 4503599627370496 := by decide
 have ht3 : (2 : Nat) ^ 63 = 9223372036854775808 := by decide
 have hI : INF = 2047 * 2 ^ 52 := rfl
 rw [ht] at a1 a3 hI
 obtain ⟨mant,hmant⟩ : ∃ m,Hid (magOf (rungOf x) = m) := ⟨_,rfl⟩
 obtain ⟨ee,hee⟩ : ∃ m,Hid (expOf (rungOf x) = m) := ⟨_,rfl⟩
 rw [hmant.out,hee.out] at a1 a3 FL hM
 rw [hmant.out] at a2
 obtain ⟨sg,hsg⟩ : ∃ m,Hid (x / 9223372036854775808 = m) := ⟨_,rfl⟩
 obtain ⟨E0,hE0⟩ : ∃ m,Hid (x / 4503599627370496 = m) := ⟨_,rfl⟩
 obtain ⟨ex,hex⟩ : ∃ m,Hid (E0 % 2048 = m) := ⟨_,rfl⟩
 obtain ⟨fr,hfr⟩ : ∃ m,Hid (x % 4503599627370496 = m) := ⟨_,rfl⟩
 have hr : rungOf x = x % 9223372036854775808 := by unfold rungOf; rw [ht3]
 have hn : negOf x = decide (sg = 1) := by
  unfold negOf; rw [ht3]
  have := hsg.out
  have h2 : x / 9223372036854775808 = 0 ∨ x / 9223372036854775808 = 1 := by omega
  rcases h2 with h2 | h2 <;> rw [h2] at this ⊢ <;> subst this <;> rfl
 have FM := shortM_bounds FL
 rw [hM] at FM
 simp only at FM
 obtain ⟨f1,f2,f3,f4⟩ := FM
 have SG := sft_facts FL.one FL.top
 obtain ⟨nd0,hnd0⟩ : ∃ m,Hid (Lib.nDigits rd = m) := ⟨_,rfl⟩
 have nb1 : 1 ≤ nd0 := by rw [← hnd0.out]; exact Lib.nDigits_pos rd
 have nb2 : nd0 ≤ 17 := by rw [← hnd0.out]; exact digits17 f2
 have hdlt : rd < 10 ^ nd0 := by rw [← hnd0.out]; exact Lib.lt_pow_nDigits rd
 obtain ⟨nz,hnz⟩ : ∃ m,Hid (nzd rd nd0 = m) := ⟨_,rfl⟩
 have nz1 : 1 ≤ nz := by rw [← hnz.out]; exact nzd_pos nd0 rd f1 hdlt
 have nz2 : nz ≤ nd0 := by rw [← hnz.out]; exact nzd_le nd0 rd
 rw [hnd0.out,hnz.out,hn]
 obtain ⟨X,hX⟩ : ∃ X : Int,Hid ((nd0 : Int) + re - 1 = X) := ⟨_,rfl⟩
 rw [hX.out]
 have Xb : -400 < X ∧ X < 400 := by rw [← hX.out]; omega
 have hL := fun W => Tryz.bits_Len64 (mant : Int) W (by omega) (by have := FL.top; omega)
 rw [Int.toNat_natCast,bitLen_eq FL.one (by have := FL.top; omega)] at hL
 have sfe : sft mant = 63 - mant.log2 := rfl
 have lg : mant.log2 ≤ 52 := by
  have : mant.log2 < 53 := (Nat.log2_lt (by have := FL.one; omega)).2 (by have := FL.top; omega)
  omega
 obtain ⟨bl,hbl⟩ : ∃ m,Hid (mant.log2 + 1 = m) := ⟨_,rfl⟩
 rw [hbl.out] at hL
 obtain ⟨sf,hsf⟩ : ∃ m,Hid (sft mant = m) := ⟨_,rfl⟩
 have e64 : 64 - (bl : Int) = (sf : Int) := by rw [← hbl.out,← hsf.out,sfe]; omega
 obtain ⟨m,hm⟩ : ∃ m,Hid (mant * 2 ^ sf = m) := ⟨_,rfl⟩
 rw [hsf.out,hm.out] at SG
 have sfb : sf ≤ 63 := SG.2.1
 have esh : IntKind.u64.wrap ((mant : Int) * 2 ^ sf) = (m : Int) := by
  have : ((mant : Int) * 2 ^ sf) = (m : Int) := by rw [← hm.out]; push_cast; rfl
  rw [this,wrap_u64]; omega
 have hmS : m = mant * 2 ^ sft mant := by rw [hsf.out,hm.out]
 have c108 := call108
 have q1 : (x : Int) / 9223372036854775808 = (sg : Int) := by rw [← hsg.out]; omega
 have q2 : (x : Int) / 4503599627370496 = (E0 : Int) := by rw [← hE0.out]; omega
 have q3 : bits .and .i64 (E0 : Int) 2047 = (ex : Int) := by rw [and2047,hex.out]
 have q4 : bits .and .u64 (x : Int) 4503599627370495 = (fr : Int) := by rw [and52 x hx,hfr.out]
 have q5 : bits .or .u64 (fr : Int) 4503599627370496 = ((fr + 4503599627370496 : Nat) : Int) := or52 fr (by rw [← hfr.out]; omega)
 have hxe : ex < 2047 := by rw [← hex.out,← hE0.out]; rw [hr] at hf; omega
 have hd47 : ((ex : Int) == 2047) = false := by simp; omega
 have hsg2 : sg = 0 ∨ sg = 1 := by rw [← hsg.out]; omega
 have hmant0 : ((mant : Int) == 0) = false := by have := FL.one; simp; omega
 have E0b : (E0 : Int) ≤ 4095 := by rw [← hE0.out]; omega
 have hTT := Lib.hid T
 have hRR := Lib.hid R
 have HS := fun W (RW : Rowz W) (e : Int) (he : e = ((ee : Int) - 1074) - (sft mant : Nat)) => short_any mant ((ee : Int) - 1074) FL m e hmS he W RW
 rw [hM] at HS
 simp only at HS
 have HB := Lib.hid hB
 have HN := fun W (TW : Tabs W) => Tryz.internal_strconv_numDigits rd f1 (by omega) W TW.ten
 rw [hnd0.out] at HN
 have HD := fun b W z => setDigits_any b rd nd0 re W nb1 (by omega) hdlt (by omega) (by omega) (by omega) z
 rw [hnz.out] at HD
 have eX : (nd0 : Int) + re = X + 1 := by have := hX.out; omega
 rw [eX] at HD
 obtain ⟨ng,hng⟩ : ∃ b,Hid (decide (sg = 1) = b) := ⟨_,rfl⟩
 rw [hng.out]
 have hneg : (((sg : Int)) != 0) = ng := by
  rw [← hng.out]
  rcases hsg2 with h | h <;> subst h <;> rfl
 have HF := fun b W (hb : Buf B W q 0 []) hne hcc => fmt_any B q b W ng (gOfD rd) nz X nz1 (by omega) Xb.1 Xb.2 hb hne hcc
 have hbq := hB.base
 have nzp : (nz : Int) - 1 = ((nz - 1 : Nat) : Int) := by omega
 have hmax : max ((nz : Int) - 1) 0 = ((nz - 1 : Nat) : Int) := by omega
 obtain ⟨nzm,hnzm⟩ : ∃ m,Hid (nz - 1 = m) := ⟨_,rfl⟩
 simp only [hnzm.out] at HF hmax nzp
 have hmax2 : max (nzm : Int) 0 = (nzm : Int) := by omega
 have nzmb : nzm ≤ 17 := by have := hnzm.out; omega
 have HG : Hid (∀ t,t < nd0 → (gOfD rd t).toNat = dgt rd (nd0 - 1 - t)) := Lib.hid (fun t ht => by unfold gOfD; rw [hnd0.out,dg_toNat])
 have heq : ((mant : Int) = (fr : Int) ∧ ex = 0 ∧ ee = 0) ∨ ((mant : Int) = ((fr + 4503599627370496 : Nat) : Int) ∧ 1 ≤ ex ∧ ee + 1 = ex) := by
  rw [hr] at a1
  have h1 := hfr.out
  have h2 := hex.out
  have h3 := hE0.out
  have h4 := FL.top
  rcases a3 with h | h
  ·rcases Nat.lt_or_ge mant 4503599627370496 with hl | hl
   ·left; omega
   ·right; omega
  ·right; omega
 have xb : (x : Int) ≤ 18446744073709551615 := by omega
 clear a1 a2 a3 ht ht3 hI hr hn hx hf h0 FL SG hM f1 f2 f3 f4 hB T R hX nz1 nz2 nb1 hdlt hmant hee hsg hE0 hex hfr hsg2 hmS sfe lg eX
 rcases heq with ⟨em,rfl,rfl⟩ | ⟨em,hex1,hex2⟩
 ·rw [← em] at q4
  clear em q5
  have q3' : bits .and .i64 (E0 : Int) 2047 = 0 := q3
  clear q3 hd47 hxe
  go_enter Tryz.func132,Tryz.ntmps132
  go_wp2_with fail
  go_quiet (fail)
  go_wp2_with fail
  refine (hL _).mono ?_
  rintro e w' ⟨rfl,rfl⟩
  go_wp2_with fail
  have hb0 : Below w.heap.size w ((w.drewN nq).alloc (.cells (Array.replicate 32 (.int .u8 0)) 160)) := (below_drewN (Below.refl _ w) nq).alloc (by simp) _
  refine (HS _ (hRR.out.kept hb0) _ (by have := hsf.out; omega)).mono ?_
  rintro e w2 ⟨rfl,hb2⟩
  have hs2 : w.heap.size < ((w.drewN nq).alloc (.cells (Array.replicate 32 (.int .u8 0)) 160)).heap.size := by simp
  have hbw : Below w.heap.size w w2 := hb0.trans (hb2.mono (by simp))
  have T2 : Tabs w2 := hTT.out.kept hbw
  have T3 : Tabs w2.drew := T2.kept (Below.refl _ w2).drew
  have hZ : ∀ t,t < 32 → w2.cell? ⟨w.heap.size,t,none⟩ = some (.int .u8 0) ∧ w2.frozen? ⟨w.heap.size,t,none⟩ = false := fun t ht => by
   have h := zeros_new (w.drewN nq) _ rfl t ht
   exact ⟨(hb2.cell hs2).trans h.1,(hb2.frozen hs2).trans h.2⟩
  have hS2 := HD w.heap.size w2 hZ
  have hS3 := HD w.heap.size w2.drew hZ
  clear HS HD hL hRR hTT hb0 hb2 hs2 q1 q2 q3' q4 e64 esh
  go_wp2_with fail
  go_region_with (first | (go_at_call 82; refine (HN _ (by first | exact T2 | exact T3)).mono ?_; rintro e w' ⟨rfl,rfl⟩) | (go_at_call 145; first | (refine hS3.mono ?_; rintro e w3 ⟨rfl,hD,hb3⟩) | (refine hS2.mono ?_; rintro e w3 ⟨rfl,hD,hb3⟩)))
  have hB2 : Buf B w3 q 0 [] := by
   refine ⟨rfl,HB.out.2.1,?_⟩
   have hq3 : w3.heap[q]? = w.heap[q]? := (hb3.block q hbq.2).trans (hbw.block q hbq.2)
   rcases HB.out.2.2 with ⟨h,_⟩ | ⟨g,cap,cur,h,r⟩
   ·simp at h
   ·refine .inr ⟨g,cap,cur,h,?_⟩
    simp only [Value.slice.injEq,Option.some.injEq,Addr.mk.injEq,and_true,true_and] at h
    obtain ⟨rfl,rfl⟩ := h
    rw [hq3]
    exact r
  have hF := HF w.heap.size w3 hB2 (by omega) (fun t ht => by
   have h := hD t (by have := hnz.out; have := nzd_le nd0 rd; omega)
   rw [h,HG.out t (by have := hnz.out; have := nzd_le nd0 rd; omega)])
  have hbl2 : Below B w w3 := (hbw.trans ((Below.refl _ w2).drew.trans hb3)).mono (by omega)
  clear hD hb3 hB2 HN hS2 hS3 hZ HF
  go_wp2_with fail
  refine hF.mono ?_
  rintro e w4 ⟨N,rfl,hB4,hb4⟩
  go_wp2_with fail
  go_ret
  exact ⟨N,rfl,hB4,hbl2.trans hb4⟩
 ·have hexd : ((ex : Int) == 0) = false := by simp; omega
  rw [← em] at q5
  have HE2 := Lib.hid hex2
  clear em hex2
  go_enter Tryz.func132,Tryz.ntmps132
  go_wp2_with fail
  go_quiet (fail)
  go_wp2_with fail
  refine (hL _).mono ?_
  rintro e w' ⟨rfl,rfl⟩
  go_wp2_with fail
  have hb0 : Below w.heap.size w ((w.drewN nq).alloc (.cells (Array.replicate 32 (.int .u8 0)) 160)) := (below_drewN (Below.refl _ w) nq).alloc (by simp) _
  refine (HS _ (hRR.out.kept hb0) _ (by have := hsf.out; have := HE2.out; omega)).mono ?_
  rintro e w2 ⟨rfl,hb2⟩
  have hs2 : w.heap.size < ((w.drewN nq).alloc (.cells (Array.replicate 32 (.int .u8 0)) 160)).heap.size := by simp
  have hbw : Below w.heap.size w w2 := hb0.trans (hb2.mono (by simp))
  have T2 : Tabs w2 := hTT.out.kept hbw
  have T3 : Tabs w2.drew := T2.kept (Below.refl _ w2).drew
  have hZ : ∀ t,t < 32 → w2.cell? ⟨w.heap.size,t,none⟩ = some (.int .u8 0) ∧ w2.frozen? ⟨w.heap.size,t,none⟩ = false := fun t ht => by
   have h := zeros_new (w.drewN nq) _ rfl t ht
   exact ⟨(hb2.cell hs2).trans h.1,(hb2.frozen hs2).trans h.2⟩
  have hS2 := HD w.heap.size w2 hZ
  have hS3 := HD w.heap.size w2.drew hZ
  clear HS HD hL hRR hTT hb0 hb2 hs2 q1 q2 q3 q4 q5 e64 esh
  go_wp2_with fail
  go_region_with (first | (go_at_call 82; refine (HN _ (by first | exact T2 | exact T3)).mono ?_; rintro e w' ⟨rfl,rfl⟩) | (go_at_call 145; first | (refine hS3.mono ?_; rintro e w3 ⟨rfl,hD,hb3⟩) | (refine hS2.mono ?_; rintro e w3 ⟨rfl,hD,hb3⟩)))
  have hB2 : Buf B w3 q 0 [] := by
   refine ⟨rfl,HB.out.2.1,?_⟩
   have hq3 : w3.heap[q]? = w.heap[q]? := (hb3.block q hbq.2).trans (hbw.block q hbq.2)
   rcases HB.out.2.2 with ⟨h,_⟩ | ⟨g,cap,cur,h,r⟩
   ·simp at h
   ·refine .inr ⟨g,cap,cur,h,?_⟩
    simp only [Value.slice.injEq,Option.some.injEq,Addr.mk.injEq,and_true,true_and] at h
    obtain ⟨rfl,rfl⟩ := h
    rw [hq3]
    exact r
  have hF := HF w.heap.size w3 hB2 (by omega) (fun t ht => by
   have h := hD t (by have := hnz.out; have := nzd_le nd0 rd; omega)
   rw [h,HG.out t (by have := hnz.out; have := nzd_le nd0 rd; omega)])
  have hbl2 : Below B w w3 := (hbw.trans ((Below.refl _ w2).drew.trans hb3)).mono (by omega)
  clear hD hb3 hB2 HN hS2 hS3 hZ HF
  go_wp2_with fail
  refine hF.mono ?_
  rintro e w4 ⟨N,rfl,hB4,hb4⟩
  go_wp2_with fail
  go_ret
  exact ⟨N,rfl,hB4,hbl2.trans hb4⟩
end Go.Proofs.YtalaajniammggaaGreatDoor

/- A finite float's text. -/
namespace Go.Proofs.YtalaajniammggaaGreatDoor
open Go.RowKit
set_option maxRecDepth 100000 in
set_option maxHeartbeats 2000000 in
theorem ftoa_zero0 (B q : Nat) (w : World) (hB : Buf B w q 0 []) :
  Calls Tryz.prog 132 #[.slice (some ⟨q,0,none⟩) 0 24,.float .f64 0,.int .u8 101,.int .i64 (-1)] w fun e w' =>
   ∃ N,e = .returned (.slice (some ⟨q,0,none⟩) N 24) ∧ Buf B w' q N (fmtL false (fun _ => 48) 1 false 0) ∧ Below B w w' := by
 have c108 := call108
 have hb1 : bits .and .i64 0 2047 = 0 := by kernel_rfl
 have hb2 : bits .and .u64 0 4503599627370495 = 0 := by kernel_rfl
 have hF := fun n => fmt_zero0 B q (w.drewN n) hB
 go_enter Tryz.func132,Tryz.ntmps132
 go_wp2_with fail
 go_quiet (fail)
 go_wp2_with fail
 refine (hF nq).mono ?_
 rintro e w4 ⟨N,rfl,hB4,hb4⟩
 go_wp2_with fail
 go_ret
 exact ⟨N,rfl,hB4,(below_drewN (Below.refl _ w) nq).trans hb4⟩
set_option maxRecDepth 100000 in
set_option maxHeartbeats 2000000 in
theorem ftoa_zero1 (B q : Nat) (w : World) (hB : Buf B w q 0 []) :
  Calls Tryz.prog 132 #[.slice (some ⟨q,0,none⟩) 0 24,.float .f64 9223372036854775808,.int .u8 101,.int .i64 (-1)] w fun e w' =>
   ∃ N,e = .returned (.slice (some ⟨q,0,none⟩) N 24) ∧ Buf B w' q N (fmtL true (fun _ => 48) 1 false 0) ∧ Below B w w' := by
 have c108 := call108
 have hb1 : bits .and .i64 2048 2047 = 0 := by kernel_rfl
 have hb2 : bits .and .u64 9223372036854775808 4503599627370495 = 0 := by kernel_rfl
 have hF := fun n => fmt_zero1 B q (w.drewN n) hB
 go_enter Tryz.func132,Tryz.ntmps132
 go_wp2_with fail
 go_quiet (fail)
 go_wp2_with fail
 refine (hF nq).mono ?_
 rintro e w4 ⟨N,rfl,hB4,hb4⟩
 go_wp2_with fail
 go_ret
 exact ⟨N,rfl,hB4,(below_drewN (Below.refl _ w) nq).trans hb4⟩
def shortOf (x : Nat) : Nat × Int := if rungOf x = 0 then (0,0) else shortM (magOf (rungOf x)) ((expOf (rungOf x) : Int) - 1074)
def gF (x : Nat) : Nat → UInt8 := if rungOf x = 0 then (fun _ => 48) else gOfD (shortOf x).1
def nF (x : Nat) : Nat := if rungOf x = 0 then 1 else nzd (shortOf x).1 (Lib.nDigits (shortOf x).1)
def XF (x : Nat) : Int := if rungOf x = 0 then 0 else (Lib.nDigits (shortOf x).1 : Int) + (shortOf x).2 - 1
theorem ftoa_all (B q x : Nat) (hx : x < 18446744073709551616) (hf : rungOf x < INF) (w : World) (T : Tabs w) (R : Rowz w) (hB : Buf B w q 0 []) :
  Calls Tryz.prog 132 #[.slice (some ⟨q,0,none⟩) 0 24,.float .f64 x,.int .u8 101,.int .i64 (-1)] w fun e w' =>
   ∃ N,e = .returned (.slice (some ⟨q,0,none⟩) N 24) ∧ Buf B w' q N (fmtL (negOf x) (gF x) (nF x) (decide (XF x < 0)) (XF x).natAbs) ∧ Below B w w' := by
 by_cases h0 : rungOf x = 0
 ·have hx2 : x = 0 ∨ x = 9223372036854775808 := by
   unfold rungOf at h0
   rw [show (2 : Nat) ^ 63 = 9223372036854775808 from rfl] at h0
   omega
  have e1 : gF x = fun _ => 48 := by unfold gF; rw [if_pos h0]
  have e2 : nF x = 1 := by unfold nF; rw [if_pos h0]
  have e3 : XF x = 0 := by unfold XF; rw [if_pos h0]
  rw [e1,e2,e3]
  rcases hx2 with rfl | rfl
  ·exact ftoa_zero0 B q w hB
  ·exact ftoa_zero1 B q w hB
 ·have := ftoa_any B q x hx hf h0 (shortOf x).1 (shortOf x).2 (by unfold shortOf; rw [if_neg h0]) w T R hB
  unfold gF nF XF
  rw [if_neg h0,if_neg h0,if_neg h0]
  exact this
theorem parts_bounds {x : Nat} (hf : rungOf x < INF) : 1 ≤ nF x ∧ nF x ≤ 17 ∧ -400 < XF x ∧ XF x < 400 := by
 by_cases h0 : rungOf x = 0
 ·unfold nF XF; rw [if_pos h0,if_pos h0]; omega
 ·have FL := flo_of h0 hf
  obtain ⟨f1,f2,f3,f4⟩ := shortM_bounds FL
  have e : shortOf x = shortM (magOf (rungOf x)) ((expOf (rungOf x) : Int) - 1074) := by unfold shortOf; rw [if_neg h0]
  rw [← e] at f1 f2 f3 f4
  have n1 := Lib.nDigits_pos (shortOf x).1
  have n2 := digits17 f2
  have z1 := nzd_pos _ (shortOf x).1 f1 (Lib.lt_pow_nDigits _)
  have z2 := nzd_le (Lib.nDigits (shortOf x).1) (shortOf x).1
  unfold nF XF; rw [if_neg h0,if_neg h0]; omega
theorem gF_digit (x t : Nat) : ∃ k,k < 10 ∧ gF x t = UInt8.ofNat (48 + k) := by
 unfold gF
 split
 ·exact ⟨0,by omega,rfl⟩
 ·exact ⟨_,Nat.mod_lt _ (by decide),rfl⟩
set_option maxRecDepth 100000 in
theorem format_any (x : Nat) (hx : x < 18446744073709551616) (hf : rungOf x < INF) (w : World) (T : Tabs w) (R : Rowz w) :
  Calls Tryz.prog 112 #[.float .f64 x,.int .u8 101,.int .i64 (-1),.int .i64 64] w fun e w' => e = .returned (.string ⟨(fmtL (negOf x) (gF x) (nF x) (decide (XF x < 0)) (XF x).natAbs).toArray⟩) ∧ Below w.heap.size w w' := by
 have hm : max (3 : Int) 24 = 24 := by decide
 have hmk := make24
 have hb1 : Below w.heap.size w (w.alloc (.cells (Array.replicate 24 (.int .u8 0)) 5)) := (Below.refl _ w).alloc (Nat.le_refl _) _
 have hF := ftoa_all _ _ x hx hf _ (T.kept hb1) (R.kept hb1) (Buf.made w)
 generalize fmtL (negOf x) (gF x) (nF x) (decide (XF x < 0)) (XF x).natAbs = L at *
 go_enter Tryz.func112,Tryz.ntmps112
 go_wp2_with fail
 refine hF.mono ?_
 rintro e w1 ⟨N,rfl,hB,hb⟩
 have hs := buf_string hB
 go_wp2_with fail
 go_ret
 exact ⟨rfl,hb1.trans hb⟩
set_option maxRecDepth 100000 in
theorem formatFloat_any (x : Nat) (hx : x < 18446744073709551616) (hf : rungOf x < INF) (w : World) (T : Tabs w) (R : Rowz w) :
  Calls Tryz.prog 96 #[.float .f64 x,.int .u8 101,.int .i64 (-1),.int .i64 64] w fun e w' => e = .returned (.string ⟨(fmtL (negOf x) (gF x) (nF x) (decide (XF x < 0)) (XF x).natAbs).toArray⟩) ∧ Below w.heap.size w w' := by
 have hF := format_any x hx hf w T R
 generalize fmtL (negOf x) (gF x) (nF x) (decide (XF x < 0)) (XF x).natAbs = L at *
 go_enter Tryz.func96,Tryz.ntmps96
 go_wp2_with fail
 refine hF.mono ?_
 rintro e w1 ⟨rfl,hb⟩
 go_wp2_with fail
 go_ret
 exact ⟨rfl,hb⟩
def prefL (neg : Bool) (g : Nat → UInt8) (nd : Nat) : List UInt8 := (if neg then [45] else []) ++ [g 0] ++ (if 1 < nd then 46 :: moreD g nd else [])
def txtL (neg : Bool) (g : Nat → UInt8) (nd : Nat) (X : Int) : List UInt8 := prefL neg g nd ++ [101] ++ Lib.itoa X
theorem fmtL_eq (neg : Bool) (g : Nat → UInt8) (nd : Nat) (mi : Bool) (M : Nat) : fmtL neg g nd mi M = prefL neg g nd ++ 101 :: ((if mi then 45 else 43) :: expD M) := by
 unfold fmtL prefL
 simp
theorem indexByte_at : ∀ (P Q : List UInt8) (c : UInt8),c ∉ P → Lib.indexByte (P ++ c :: Q) c = (P.length : Int)
 | [],Q,c,_ => by simp [Lib.indexByte]
 | b :: P,Q,c,h => by
  have hb : (b == c) = false := by
   have : b ≠ c := fun e => h (by simp [e])
   simpa using this
  have ih := indexByte_at P Q c (fun hc => h (by simp [hc]))
  show (if b == c then (0 : Int) else if Lib.indexByte (P ++ c :: Q) c == -1 then -1 else Lib.indexByte (P ++ c :: Q) c + 1) = _
  rw [hb,ih]
  have : ((P.length : Int) == -1) = false := by simp
  rw [this]
  simp
theorem prefL_no_e (neg : Bool) (g : Nat → UInt8) (nd : Nat) (hg : ∀ t,∃ k,k < 10 ∧ g t = UInt8.ofNat (48 + k)) : (101 : UInt8) ∉ prefL neg g nd := by
 have hd : ∀ t,g t ≠ 101 := fun t => by
  obtain ⟨k,hk,e⟩ := hg t
  rw [e]
  intro h
  have := congrArg UInt8.toNat h
  simp at this
  omega
 unfold prefL
 intro h
 simp only [List.mem_append,List.mem_cons,List.not_mem_nil,or_false] at h
 rcases h with (h | h) | h
 ·split at h
  ·simp at h
  ·simp at h
 ·exact hd 0 h.symm
 ·split at h
  ·simp only [List.mem_cons,moreD,List.mem_map] at h
   rcases h with h | ⟨t,_,h⟩
   ·simp at h
   ·exact hd _ h
  ·simp at h
theorem prefL_len (neg : Bool) (g : Nat → UInt8) (nd : Nat) (h : nd ≤ 17) : (prefL neg g nd).length ≤ 19 ∧ 1 ≤ (prefL neg g nd).length := by
 unfold prefL moreD
 cases neg <;> by_cases h1 : 1 < nd <;> simp [h1] <;> omega
theorem atoi_exp : ∀ M : Fin 400,Lib.atoi (43 :: expD M.val) = some (M.val : Int) ∧ Lib.atoi (45 :: expD M.val) = some (-(M.val : Int)) := by decide +kernel
theorem expD_len : ∀ M : Fin 400,(expD M.val).length ≤ 3 := by decide +kernel
theorem atoi_X (X : Int) (h1 : -400 < X) (h2 : X < 400) : Lib.atoi ((if decide (X < 0) = true then 45 else 43) :: expD X.natAbs) = some X := by
 by_cases h : X < 0
 ·rw [if_pos (decide_eq_true h)]
  have := (atoi_exp ⟨X.natAbs,by omega⟩).2
  rw [this]
  congr 1
  show -((X.natAbs : Nat) : Int) = X
  omega
 ·rw [if_neg (by simpa using h)]
  have := (atoi_exp ⟨X.natAbs,by omega⟩).1
  rw [this]
  congr 1
  show ((X.natAbs : Nat) : Int) = X
  omega
theorem ba_ext {a b : ByteArray} (h : a.data.toList = b.data.toList) : a = b := by
 obtain ⟨⟨x⟩⟩ := a
 obtain ⟨⟨y⟩⟩ := b
 simp only at h
 rw [h]
theorem ext_head (P Q : List UInt8) : (⟨(P ++ Q).toArray⟩ : ByteArray).extract 0 P.length = ⟨P.toArray⟩ := by
 apply ba_ext
 rw [Lib.extract_data]
 simp
theorem ext_tail (P Q : List UInt8) (c : UInt8) : (⟨(P ++ c :: Q).toArray⟩ : ByteArray).extract (P.length + 1) (⟨(P ++ c :: Q).toArray⟩ : ByteArray).size = ⟨Q.toArray⟩ := by
 apply ba_ext
 rw [Lib.extract_data]
 have hs : (⟨(P ++ c :: Q).toArray⟩ : ByteArray).size = P.length + (Q.length + 1) := by
  show (P ++ c :: Q).toArray.size = _
  simp
 rw [hs]
 show (List.drop (P.length + 1) (P ++ c :: Q)).take _ = Q
 rw [show P ++ c :: Q = (P ++ [c]) ++ Q by simp,show P.length + 1 = (P ++ [c]).length by simp,List.drop_left' rfl,List.take_of_length_le (by simp; omega)]
set_option maxRecDepth 100000 in
set_option maxHeartbeats 1000000 in
theorem decimal_any (x : Nat) (hx : x < 18446744073709551616) (hf : rungOf x < INF) (w : World) (T : Tabs w) (R : Rowz w) :
  Calls Tryz.prog 80 #[.float .f64 x] w fun e w' => e = .returned (.string ⟨(txtL (negOf x) (gF x) (nF x) (XF x)).toArray⟩) ∧ Below w.heap.size w w' := by
 obtain ⟨b1,b2,b3,b4⟩ := parts_bounds hf
 have hF := formatFloat_any x hx hf w T R
 rw [fmtL_eq] at hF
 unfold txtL
 have hne := prefL_no_e (negOf x) (gF x) (nF x) (gF_digit x)
 have hpl := prefL_len (negOf x) (gF x) (nF x) b2
 have hat := atoi_X (XF x) b3 b4
 have hel : (expD (XF x).natAbs).length ≤ 3 := expD_len ⟨(XF x).natAbs,by omega⟩
 have HT := Lib.hid T
 generalize prefL (negOf x) (gF x) (nF x) = P at *
 obtain ⟨Q,hQ⟩ : ∃ Q,Q = (if decide (XF x < 0) = true then 45 else 43) :: expD (XF x).natAbs := ⟨_,rfl⟩
 have hQl : Q.length ≤ 4 := by rw [hQ]; simp; omega
 rw [← hQ] at hF hat
 clear hQ hel
 generalize XF x = X at *
 obtain ⟨s,hs⟩ : ∃ s : ByteArray,s = ⟨(P ++ 101 :: Q).toArray⟩ := ⟨_,rfl⟩
 have hss : s.size = P.length + (Q.length + 1) := by rw [hs]; show (P ++ 101 :: Q).toArray.size = _; simp
 have hC := fun W => cut_e s P.length W (by rw [hs]; exact indexByte_at P Q 101 hne) (by omega) (by omega)
 have e1 : s.extract 0 P.length = ⟨P.toArray⟩ := by rw [hs]; exact ext_head P _
 have e2 : s.extract (P.length + 1) s.size = ⟨Q.toArray⟩ := by rw [hs]; exact ext_tail P Q 101
 rw [e1,e2] at hC
 rw [← hs] at hF
 have hA := fun W => Tryz.strconv_Atoi ⟨Q.toArray⟩ X (by show Q.toArray.size ≤ 18; simp; omega) hat W
 have hI := fun W (TW : Tabs W) => Tryz.strconv_Itoa X (by omega) (by omega) W TW.ten
 clear e1 e2 hs hss hne hat T
 obtain ⟨sP,hsP⟩ : ∃ s : ByteArray,Hid (s = ⟨P.toArray⟩) := ⟨_,Lib.hid rfl⟩
 obtain ⟨sQ,hsQ⟩ : ∃ s : ByteArray,Hid (s = ⟨Q.toArray⟩) := ⟨_,Lib.hid rfl⟩
 obtain ⟨sI,hsI⟩ : ∃ s : ByteArray,Hid (s = ⟨(Lib.itoa X).toArray⟩) := ⟨_,Lib.hid rfl⟩
 rw [← hsP.out,← hsQ.out] at hC
 rw [← hsQ.out] at hA
 rw [← hsI.out] at hI
 have efin : sP ++ ⟨#[101]⟩ ++ sI = ⟨(P ++ [101] ++ Lib.itoa X).toArray⟩ := by
  rw [hsP.out,hsI.out]
  apply ba_ext
  simp
 rw [← efin]
 clear efin
 have szP : sP.size ≤ 19 := by rw [hsP.out]; show P.toArray.size ≤ 19; simp; omega
 have szI : sI.size ≤ 21 := by rw [hsI.out]; show (Lib.itoa X).toArray.size ≤ 21; have := Lib.itoa_length_le X (by omega) (by omega); simpa using this
 have sz1 : (sP ++ (⟨#[101]⟩ : ByteArray)).size ≤ 20 := by
  rw [ByteArray.size_append]
  show sP.size + 1 ≤ 20
  omega
 have ad1 : ∀ W,(Op.stringOp .add sP ⟨#[101]⟩).run Tryz.prog W = .ok (.string (sP ++ ⟨#[101]⟩)) W := fun W => run_string_add_sum W sP ⟨#[101]⟩ (by show sP.size + 1 ≤ _; omega)
 have ad2 : ∀ W,(Op.stringOp .add (sP ++ ⟨#[101]⟩) sI).run Tryz.prog W = .ok (.string (sP ++ ⟨#[101]⟩ ++ sI)) W := fun W => run_string_add_sum W _ sI (by omega)
 go_enter Tryz.func80,Tryz.ntmps80
 go_wp2_with fail
 refine hF.mono ?_
 rintro e w1 ⟨rfl,hb⟩
 go_wp2_with fail
 refine (hC _).mono ?_
 rintro e w2 ⟨rfl,n,rfl⟩
 have h2 : Below w.heap.size w (w1.drewN n) := below_drewN hb n
 go_wp2_with fail
 refine (hA _).mono ?_
 rintro e w3 ⟨rfl,t,rfl⟩
 have h3 := h2.trans ((Lib.bytesWorld_below _ 5 t).mono h2.size)
 go_wp2_with fail
 refine (hI _ (HT.out.kept h3)).mono ?_
 rintro e w4 ⟨rfl,k,os,rfl⟩
 go_wp2_with fail
 go_ret
 exact ⟨rfl,h3.trans ((Lib.below_grow _ _ (Nat.le_refl _) k os).mono h3.size)⟩
end Go.Proofs.YtalaajniammggaaGreatDoor
