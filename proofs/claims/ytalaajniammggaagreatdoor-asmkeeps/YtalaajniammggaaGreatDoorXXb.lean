/- The shortest digits, of the smallest floats. -/
import Derived.Test.YtalaajniammggaaGreatDoorXXa
import Derived.Test.YtalaajniammggaaGreatDoorXWd
namespace Go.Proofs.YtalaajniammggaaGreatDoor
open Go.RowKit
set_option maxRecDepth 100000 in
set_option maxHeartbeats 2000000 in
theorem short_C0 (mant : Nat) (k : Int) (h : Flo mant k) (m : Nat) (e : Int) (hm : m = mant * 2 ^ sft mant) (he : e = k - sft mant) (hne : m ≠ 9223372036854775808) (hlt : e < -1085) (w : World) (T : Rowz w) :
    Calls Tryz.prog 150 #[.int .u64 m,.int .i64 e] w fun e w' => e = .returned (.tuple #[.int .u64 (shortM mant k).1,.int .i64 (shortM mant k).2]) ∧ Below w.heap.size w w' := by
  have hk1 := h.lo
  have hk2 := h.hi
  have F := k_facts (skewOf mant k) k h.lo h.hi
  have G := sft_facts h.one h.top
  have SF := s_facts h
  obtain ⟨i,hi⟩ : ∃ i,Hid (ix (skewOf mant k) k = i) := ⟨_,rfl⟩
  obtain ⟨pp,hpp⟩ : ∃ p : Int,Hid (p = (i : Int) - 348) := ⟨_,rfl⟩
  obtain ⟨lp,hlp⟩ : ∃ p : Int,Hid (pp * 108853 / 32768 = p) := ⟨_,rfl⟩
  obtain ⟨S,hS⟩ : ∃ S,Hid (sOf mant k = S) := ⟨_,rfl⟩
  have i1 : 56 ≤ i ∧ i ≤ 672 := by rw [← hi.out]; exact ⟨F.lo,F.hi⟩
  have pb : -292 ≤ pp ∧ pp ≤ 324 := by have := hpp.out; omega
  have lb : -1000 ≤ lp ∧ lp ≤ 1080 := by have := hlp.out; omega
  have elp : lpOf i = lp := by
    obtain ⟨r,hr,_⟩ := T i (by omega)
    rw [(row_facts hr).lp,← hlp.out,hpp.out]
  have eS : (S : Int) = -(e + lp + 3) := by
    have s3 := SF.2.2.1
    have s4 := SF.2.2.2
    rw [hi.out,elp] at s4
    rw [hS.out] at s3
    omega
  have ipos := F.pos
  have eix : (i : Int) = (bif skewOf mant k then ixS k else ixN k) := by
    rw [← hi.out]; unfold ix; omega
  obtain ⟨r,hr,_⟩ := T i (by omega)
  rw [← hi.out] at hr
  have m64 : m < 18446744073709551616 := by rw [hm]; exact G.2.2.2
  have eT : mant * 2 ^ sft mant = 4 * mant * 2 ^ (sft mant - 2) := by
    rw [show sft mant = 2 + (sft mant - 2) by omega,Nat.pow_add,show 2 + (sft mant - 2) - 2 = sft mant - 2 by omega]
    generalize 2 ^ (sft mant - 2) = Z
    grind
  have z12 : 12 ≤ sft mant := by
    rcases Nat.lt_or_ge mant 4503599627370496 with hx | hx
    · exact sft_sub h.one hx
    · have := sft_norm hx h.top; omega
  have hk74 : k = -1074 := by
    rcases h.norm with hn | hn
    · exact hn
    · have := sft_norm hn h.top; omega
  obtain ⟨z,hz⟩ : ∃ x,Hid (sft mant = x) := ⟨_,rfl⟩
  rw [hz.out] at z12
  have z63 : z ≤ 63 := by rw [← hz.out]; exact G.2.1
  have ek : e + (z : Int) = k := by rw [← hz.out]; omega
  have ez : 11 + (-1085 - e) = (z : Int) := by rw [← hz.out]; omega
  have hns : skewOf mant k = false := by unfold skewOf; simp [hk74]
  have epp : -(k * 78913 / 262144) = pp := by
    have := hpp.out
    rw [hns] at eix
    simp only [cond_false] at eix
    unfold ixN at eix
    omega
  obtain ⟨zz,hzz⟩ : ∃ x,Hid (z - 1 = x) := ⟨_,rfl⟩
  have ezz : (z : Int) - 1 = (zz : Int) := by have := hzz.out; omega
  have zzb : zz ≤ 62 := by have := hzz.out; omega
  obtain ⟨Z,hZ⟩ : ∃ x : Nat,Hid ((2 : Nat) ^ zz = x) := ⟨_,rfl⟩
  have Zb : 1 ≤ Z ∧ Z ≤ 4611686018427387904 := by
    rw [← hZ.out]
    exact ⟨Nat.one_le_two_pow,(Nat.pow_le_pow_right (by decide) zzb : 2 ^ zz ≤ 2 ^ 62)⟩
  have eZ : (2 : Int) ^ zz = (Z : Int) := by rw [← hZ.out]; push_cast; rfl
  have p1 : IntKind.u64.wrap (1 * 2 ^ zz) = (Z : Int) := by rw [Int.one_mul,eZ,wrap_u64]; omega
  have p2 : IntKind.u64.wrap (2 ^ zz) = (Z : Int) := by rw [eZ,wrap_u64]; omega
  have mZ : m = 2 * mant * Z := by
    rw [hm,hz.out,← hZ.out,show z = zz + 1 by have := hzz.out; omega,Nat.pow_succ]
    generalize 2 ^ zz = Y
    grind
  have eZ4 : Z = 2 * 2 ^ (sft mant - 2) := by
    rw [← hZ.out,hz.out,show zz = 1 + (z - 2) by have := hzz.out; omega,Nat.pow_add,Nat.pow_one]
  have mant1 := h.one
  have mantt := h.top
  have mZ2 : 2 * Z ≤ m := by
    rw [mZ,Nat.mul_comm 2 mant,Nat.mul_assoc]
    have := Nat.mul_le_mul_right (2 * Z) mant1
    omega
  have msub : mant < 4503599627370496 := by
    rcases Nat.lt_or_ge mant 4503599627370496 with hx | hx
    · exact hx
    · have := sft_norm hx h.top; have := hz.out; omega
  have mmx : m + Z < 18446744073709551616 := by
    -- m and Z are whole times Z
    have hb : mant * 2 ^ sft mant + 2 ^ sft mant ≤ 18446744073709551616 := by
      have := Nat.lt_log2_self (n := mant)
      have h2 := Nat.mul_le_mul_right (2 ^ sft mant) (show mant + 1 ≤ 2 ^ (mant.log2 + 1) by omega)
      rw [← Nat.pow_add,show mant.log2 + 1 + sft mant = 64 by
        have a : mant.log2 < 53 := (Nat.log2_lt (by omega)).2 (by omega)
        unfold sft; omega,Nat.add_mul,Nat.one_mul] at h2
      exact h2
    have h2 : 2 ^ sft mant = 2 * Z := by
      rw [hz.out,← hZ.out,show z = zz + 1 by have := hzz.out; omega,Nat.pow_succ,Nat.mul_comm]
    rw [hm]
    omega
  obtain ⟨mn,hmn⟩ : ∃ x,Hid (m - Z = x) := ⟨_,rfl⟩
  obtain ⟨mx,hmx⟩ : ∃ x,Hid (m + Z = x) := ⟨_,rfl⟩
  have emnI : (m : Int) - (Z : Int) = (mn : Int) := by have := hmn.out; omega
  have emxI : (m : Int) + (Z : Int) = (mx : Int) := by have := hmx.out; omega
  have mx64 : mx < 18446744073709551616 := by have := hmx.out; omega
  have emn' : mn = cl mant (skewOf mant k) * 2 ^ (sft mant - 2) := by
    rw [← hmn.out,hns,mZ,eZ4]
    unfold cl
    simp only [cond_false]
    obtain ⟨c,hc⟩ : ∃ c,mant = c + 1 := ⟨mant - 1,by omega⟩
    subst hc
    generalize 2 ^ (sft (c + 1) - 2) = Y
    rw [show 4 * (c + 1) - 2 = 4 * c + 2 by omega]
    have : 2 * (c + 1) * (2 * Y) = (4 * c + 2) * Y + 2 * Y := by grind
    omega
  have emx' : mx = (4 * mant + 2) * 2 ^ (sft mant - 2) := by
    rw [← hmx.out,mZ,eZ4]
    generalize 2 ^ (sft mant - 2) = Y
    grind
  have esh : (m : Int) / 2 ^ z = (mant : Int) := by
    rw [div_pow,hm,hz.out,Nat.mul_div_cancel _ (two_pos z)]
  have UL := fun q W c0 c1 c2 => us_at h hr q W c0 c1 c2 (cl mant (skewOf mant k)) mn (cl_pos _ h.one) emn' (by omega)
  have UR := fun q W c0 c1 c2 => us_at h hr q W c0 c1 c2 (4 * mant + 2) mx (by omega) emx' mx64
  have UX := fun q W c0 c1 c2 => us_at h hr q W c0 c1 c2 (4 * mant) m (by have := h.one; omega) (by rw [hm,eT]) m64
  have bL := us_lt h hr (cl mant (skewOf mant k)) mn (cl_pos _ h.one) emn' (by omega)
  have bR := us_lt h hr (4 * mant + 2) mx (by omega) emx' mx64
  have bX := us_lt h hr (4 * mant) m (by have := h.one; omega) (by rw [hm,eT]) m64
  have hD0 := (fits_of h).pos
  have hg0 := (fits_of h).gpos
  have pR := unr_pos ((4 * mant + 2) * gOf mant k) (DOf mant k) (Nat.mul_pos (by omega) hg0)
  have HM : Hid (shortM mant k = ((shortD mant (skewOf mant k) (gOf mant k) (DOf mant k)).1,-pp + (if (shortD mant (skewOf mant k) (gOf mant k) (DOf mant k)).2 = true then 1 else 0))) := Lib.hid (by
    unfold shortM
    rw [hi.out,hpp.out,show -((i : Int) - 348) = 348 - (i : Int) by omega])
  have HL : Hid (lowD mant (skewOf mant k) (gOf mant k) (DOf mant k) = lowU (unr (cl mant (skewOf mant k) * gOf mant k) (DOf mant k)) (mant % 2)) := Lib.hid rfl
  have HR : Hid (topD mant (gOf mant k) (DOf mant k) = topU (unr ((4 * mant + 2) * gOf mant k) (DOf mant k)) (mant % 2)) := Lib.hid rfl
  have HX : Hid (midD mant (gOf mant k) (DOf mant k) = rndU (unr (4 * mant * gOf mant k) (DOf mant k))) := Lib.hid rfl
  rw [hS.out] at UL UR UX
  generalize unr (cl mant (skewOf mant k) * gOf mant k) (DOf mant k) = uL at *
  generalize unr ((4 * mant + 2) * gOf mant k) (DOf mant k) = uR at *
  generalize unr (4 * mant * gOf mant k) (DOf mant k) = uX at *
  obtain ⟨od,hod⟩ : ∃ o,Hid (mant % 2 = o) := ⟨_,rfl⟩
  have odb : od ≤ 1 := by have := hod.out; omega
  obtain ⟨dmin,hdmin⟩ : ∃ d,Hid (lowD mant (skewOf mant k) (gOf mant k) (DOf mant k) = d) := ⟨_,rfl⟩
  obtain ⟨dmax,hdmax⟩ : ∃ d,Hid (topD mant (gOf mant k) (DOf mant k) = d) := ⟨_,rfl⟩
  obtain ⟨dmid,hdmid⟩ : ∃ d,Hid (midD mant (gOf mant k) (DOf mant k) = d) := ⟨_,rfl⟩
  have HD : Hid (shortD mant (skewOf mant k) (gOf mant k) (DOf mant k) = if dmin ≤ dmax / 10 * 10 then (dmax / 10,true) else if dmin < dmax then (dmid,false) else (dmin,false)) := Lib.hid (by
    unfold shortD; rw [hdmin.out,hdmax.out,hdmid.out])
  have edmin : (uL + od + 3) / 4 = dmin := by rw [← hdmin.out,HL.out,hod.out]; rfl
  have edmax : (uR - od) / 4 = dmax := by rw [← hdmax.out,HR.out,hod.out]; rfl
  have edmid : rndU uX = dmid := by rw [← hdmid.out,HX.out]
  have nU : ∀ W,_ := fun W => nudge_up uL od W (by omega) odb
  have nD : ∀ W,_ := fun W => nudge_down uR od W (by omega) odb pR
  have cU : ∀ W,_ := fun W => ceil_any (uL + od) W (by omega)
  have fD : ∀ W,_ := fun W => floor_any (uR - od) W (by omega)
  have rX : ∀ W,_ := fun W => round_any uX W (by omega)
  rw [edmin] at cU
  rw [edmax] at fD
  rw [edmid] at rX
  have L10 : ∀ W,_ := fun W => log10_any k W (by omega) (by omega)
  have L2 : ∀ W,_ := fun W => log2_any pp W (by omega) (by omega)
  rw [hlp.out] at L2
  have T' := Lib.hid T
  have hrow := Lib.hid hr
  have hi' := hi
  rw [hi.out] at hr
  have SC := fun W (TW : Rowz W) => scaler_any W TW i (by omega) e pp lp S hpp.out (by omega) (by omega) (by omega) (by omega) eS
  have i696 : i < 696 := by omega
  obtain ⟨ud,hud⟩ : ∃ u,Hid (uL + od = u) := ⟨_,rfl⟩
  obtain ⟨vd,hvd⟩ : ∃ u,Hid (uR - od = u) := ⟨_,rfl⟩
  rw [hud.out] at nU cU
  rw [hvd.out] at nD fD
  have hud64 : ud < 4611686018427387904 := by have := hud.out; omega
  have hdb : dmax < 1000000000000000000 ∧ dmin < 1000000000000000000 := by omega
  have oo : bits .and .i64 (mant : Int) 1 = (od : Int) := by rw [and1 mant,hod.out]
  have dm : ((m : Int) == 9223372036854775808) = false := by simp; omega
  have ng : decide (-1085 < e) = false := by simp; omega
  have ng2 : decide (-1085 ≤ e) = false := by simp; omega
  have lt85 : e < -1085 := by omega
  clear hm he eT eS elp eix F G SF ipos i1 bL bR bX pR hD0 hg0 edmin edmax edmid hk1 hk2 hpp hlp hi hi' hrow hS emn' emx' hns hmn hmx hz hk74 hzz hZ eZ mZ eZ4 mZ2 msub mmx hlt hne
  obtain ⟨rd,hrd⟩ : ∃ x,Hid ((shortM mant k).1 = x) := ⟨_,rfl⟩
  obtain ⟨re,hre⟩ : ∃ x,Hid ((shortM mant k).2 = x) := ⟨_,rfl⟩
  rw [hrd.out,hre.out]
  go_enter Tryz.func150,Tryz.ntmps150
  go_wp2_with fail
  refine (L10 _).mono ?_
  rintro e' w1 ⟨rfl,rfl⟩
  go_wp2_with fail
  refine (L2 _).mono ?_
  rintro e' w2 ⟨rfl,rfl⟩
  go_wp2_with fail
  obtain ⟨W,r',hr',bW,c0,c1,c2,hP⟩ := SC w1 T'.out
  obtain rfl : r = r' := Option.some.inj (hr.symm.trans hr')
  refine hP.mono ?_
  rintro e' w3 ⟨rfl,rfl⟩
  clear hP L10 L2 SC T'
  have u1 := UL _ w3 c0 c1 c2
  go_wp2_with fail
  refine u1.mono ?_
  rintro e' w4 ⟨rfl,n1,rfl⟩
  obtain ⟨W4,hW4⟩ : ∃ W,Hid (W = w3.drewN n1) := ⟨_,rfl⟩
  have b4 : Below w1.heap.size w1 W4 := by rw [hW4.out]; exact below_drewN bW n1
  have u2 := UR w1.heap.size W4 (by rw [hW4.out]; exact c0) (by rw [hW4.out]; exact c1) (by rw [hW4.out]; exact c2)
  have u3 := fun n => UX w1.heap.size (W4.drewN n) (by rw [hW4.out]; exact c0) (by rw [hW4.out]; exact c1) (by rw [hW4.out]; exact c2)
  rw [← hW4.out]
  clear hW4 u1 c0 c1 c2 bW UL UR UX
  go_wp2_with fail
  refine (nU _).mono ?_
  rintro e' w5 ⟨rfl,rfl⟩
  go_wp2_with fail
  refine (cU _).mono ?_
  rintro e' w5 ⟨rfl,rfl⟩
  go_wp2_with fail
  refine u2.mono ?_
  rintro e' w6 ⟨rfl,n2,rfl⟩
  have u3 := u3 n2
  obtain ⟨W6,hW6⟩ : ∃ W,Hid (W = w5.drewN n2) := ⟨_,rfl⟩
  have b6 : Below w1.heap.size w1 W6 := by rw [hW6.out]; exact below_drewN b4 n2
  rw [← hW6.out] at u3 ⊢
  clear hW6 u2 b4 nU cU
  go_wp2_with fail
  refine (nD _).mono ?_
  rintro e' w7 ⟨rfl,rfl⟩
  go_wp2_with fail
  refine (fD _).mono ?_
  rintro e' w7 ⟨rfl,rfl⟩
  clear nD fD
  obtain ⟨dt,hdt⟩ : ∃ d,Hid (dmax / 10 = d) := ⟨_,rfl⟩
  have edt : (dmax : Int) / 10 = (dt : Int) := by have := hdt.out; omega
  have dtb : dt ≤ dmax := by have := hdt.out; omega
  have hdb1 := hdb.1
  have hdb2 := hdb.2
  clear hdb
  by_cases t1 : dmin ≤ dt * 10
  · have HDD : Hid (shortM mant k = (dt,-pp + 1)) := Lib.hid (by rw [HM.out,HD.out,hdt.out,if_pos t1]; simp)
    have t1' : (dmin : Int) ≤ (dt : Int) * 10 := by omega
    have g1 : rd = dt := by rw [← hrd.out,HDD.out]
    have g2 : re = -(pp - 1) := by rw [← hre.out,HDD.out]; show -pp + 1 = -(pp - 1); omega
    have G1 := Lib.hid g1
    have G2 := Lib.hid g2
    clear HDD HD HM HL HR HX g1 g2
    go_wp2_with fail
    go_ret2
    rw [G1.out,G2.out]
    exact ⟨by simp,b6⟩
  · have t1' : decide ((dmin : Int) ≤ (dt : Int) * 10) = false := by simp; omega
    by_cases t2 : dmin < dmax
    · have HDD : Hid (shortM mant k = (dmid,-pp)) := Lib.hid (by rw [HM.out,HD.out,hdt.out,if_neg t1,if_pos t2]; simp)
      have t2' : (dmin : Int) < (dmax : Int) := by omega
      have G1 : Hid (rd = dmid) := Lib.hid (by rw [← hrd.out,HDD.out])
      have G2 : Hid (re = -pp) := Lib.hid (by rw [← hre.out,HDD.out])
      clear HDD HD HM HL HR HX
      go_wp2_with fail
      refine u3.mono ?_
      rintro e' w8 ⟨rfl,n3,rfl⟩
      go_wp2_with fail
      refine (rX _).mono ?_
      rintro e' w9 ⟨rfl,rfl⟩
      go_wp2_with fail
      go_ret2
      rw [G1.out,G2.out]
      exact ⟨rfl,below_drewN b6 n3⟩
    · have HDD : Hid (shortM mant k = (dmin,-pp)) := Lib.hid (by rw [HM.out,HD.out,hdt.out,if_neg t1,if_neg t2]; simp)
      have t2' : decide ((dmin : Int) < (dmax : Int)) = false := by simp; omega
      have G1 : Hid (rd = dmin) := Lib.hid (by rw [← hrd.out,HDD.out])
      have G2 : Hid (re = -pp) := Lib.hid (by rw [← hre.out,HDD.out])
      clear HDD HD HM HL HR HX
      go_wp2_with fail
      go_ret2
      rw [G1.out,G2.out]
      exact ⟨rfl,b6⟩
set_option maxRecDepth 100000 in
set_option maxHeartbeats 2000000 in
theorem short_C1 (mant : Nat) (k : Int) (h : Flo mant k) (m : Nat) (e : Int) (hm : m = mant * 2 ^ sft mant) (he : e = k - sft mant) (hne : m = 9223372036854775808) (hlt : e < -1085) (w : World) (T : Rowz w) :
    Calls Tryz.prog 150 #[.int .u64 m,.int .i64 e] w fun e w' => e = .returned (.tuple #[.int .u64 (shortM mant k).1,.int .i64 (shortM mant k).2]) ∧ Below w.heap.size w w' := by
  have hk1 := h.lo
  have hk2 := h.hi
  have F := k_facts (skewOf mant k) k h.lo h.hi
  have G := sft_facts h.one h.top
  have SF := s_facts h
  obtain ⟨i,hi⟩ : ∃ i,Hid (ix (skewOf mant k) k = i) := ⟨_,rfl⟩
  obtain ⟨pp,hpp⟩ : ∃ p : Int,Hid (p = (i : Int) - 348) := ⟨_,rfl⟩
  obtain ⟨lp,hlp⟩ : ∃ p : Int,Hid (pp * 108853 / 32768 = p) := ⟨_,rfl⟩
  obtain ⟨S,hS⟩ : ∃ S,Hid (sOf mant k = S) := ⟨_,rfl⟩
  have i1 : 56 ≤ i ∧ i ≤ 672 := by rw [← hi.out]; exact ⟨F.lo,F.hi⟩
  have pb : -292 ≤ pp ∧ pp ≤ 324 := by have := hpp.out; omega
  have lb : -1000 ≤ lp ∧ lp ≤ 1080 := by have := hlp.out; omega
  have elp : lpOf i = lp := by
    obtain ⟨r,hr,_⟩ := T i (by omega)
    rw [(row_facts hr).lp,← hlp.out,hpp.out]
  have eS : (S : Int) = -(e + lp + 3) := by
    have s3 := SF.2.2.1
    have s4 := SF.2.2.2
    rw [hi.out,elp] at s4
    rw [hS.out] at s3
    omega
  have ipos := F.pos
  have eix : (i : Int) = (bif skewOf mant k then ixS k else ixN k) := by
    rw [← hi.out]; unfold ix; omega
  obtain ⟨r,hr,_⟩ := T i (by omega)
  rw [← hi.out] at hr
  have m64 : m < 18446744073709551616 := by rw [hm]; exact G.2.2.2
  have eT : mant * 2 ^ sft mant = 4 * mant * 2 ^ (sft mant - 2) := by
    rw [show sft mant = 2 + (sft mant - 2) by omega,Nat.pow_add,show 2 + (sft mant - 2) - 2 = sft mant - 2 by omega]
    generalize 2 ^ (sft mant - 2) = Z
    grind
  have z12 : 12 ≤ sft mant := by
    rcases Nat.lt_or_ge mant 4503599627370496 with hx | hx
    · exact sft_sub h.one hx
    · have := sft_norm hx h.top; omega
  have hk74 : k = -1074 := by
    rcases h.norm with hn | hn
    · exact hn
    · have := sft_norm hn h.top; omega
  obtain ⟨z,hz⟩ : ∃ x,Hid (sft mant = x) := ⟨_,rfl⟩
  rw [hz.out] at z12
  have z63 : z ≤ 63 := by rw [← hz.out]; exact G.2.1
  have ek : e + (z : Int) = k := by rw [← hz.out]; omega
  have ez : 11 + (-1085 - e) = (z : Int) := by rw [← hz.out]; omega
  have hns : skewOf mant k = false := by unfold skewOf; simp [hk74]
  have epp : -(k * 78913 / 262144) = pp := by
    have := hpp.out
    rw [hns] at eix
    simp only [cond_false] at eix
    unfold ixN at eix
    omega
  obtain ⟨zz,hzz⟩ : ∃ x,Hid (z - 1 = x) := ⟨_,rfl⟩
  have ezz : (z : Int) - 1 = (zz : Int) := by have := hzz.out; omega
  have zzb : zz ≤ 62 := by have := hzz.out; omega
  obtain ⟨Z,hZ⟩ : ∃ x : Nat,Hid ((2 : Nat) ^ zz = x) := ⟨_,rfl⟩
  have Zb : 1 ≤ Z ∧ Z ≤ 4611686018427387904 := by
    rw [← hZ.out]
    exact ⟨Nat.one_le_two_pow,(Nat.pow_le_pow_right (by decide) zzb : 2 ^ zz ≤ 2 ^ 62)⟩
  have eZ : (2 : Int) ^ zz = (Z : Int) := by rw [← hZ.out]; push_cast; rfl
  have p1 : IntKind.u64.wrap (1 * 2 ^ zz) = (Z : Int) := by rw [Int.one_mul,eZ,wrap_u64]; omega
  have p2 : IntKind.u64.wrap (2 ^ zz) = (Z : Int) := by rw [eZ,wrap_u64]; omega
  have mZ : m = 2 * mant * Z := by
    rw [hm,hz.out,← hZ.out,show z = zz + 1 by have := hzz.out; omega,Nat.pow_succ]
    generalize 2 ^ zz = Y
    grind
  have eZ4 : Z = 2 * 2 ^ (sft mant - 2) := by
    rw [← hZ.out,hz.out,show zz = 1 + (z - 2) by have := hzz.out; omega,Nat.pow_add,Nat.pow_one]
  have mant1 := h.one
  have mantt := h.top
  have mZ2 : 2 * Z ≤ m := by
    rw [mZ,Nat.mul_comm 2 mant,Nat.mul_assoc]
    have := Nat.mul_le_mul_right (2 * Z) mant1
    omega
  have msub : mant < 4503599627370496 := by
    rcases Nat.lt_or_ge mant 4503599627370496 with hx | hx
    · exact hx
    · have := sft_norm hx h.top; have := hz.out; omega
  have mmx : m + Z < 18446744073709551616 := by
    -- m and Z are whole times Z
    have hb : mant * 2 ^ sft mant + 2 ^ sft mant ≤ 18446744073709551616 := by
      have := Nat.lt_log2_self (n := mant)
      have h2 := Nat.mul_le_mul_right (2 ^ sft mant) (show mant + 1 ≤ 2 ^ (mant.log2 + 1) by omega)
      rw [← Nat.pow_add,show mant.log2 + 1 + sft mant = 64 by
        have a : mant.log2 < 53 := (Nat.log2_lt (by omega)).2 (by omega)
        unfold sft; omega,Nat.add_mul,Nat.one_mul] at h2
      exact h2
    have h2 : 2 ^ sft mant = 2 * Z := by
      rw [hz.out,← hZ.out,show z = zz + 1 by have := hzz.out; omega,Nat.pow_succ,Nat.mul_comm]
    rw [hm]
    omega
  obtain ⟨mn,hmn⟩ : ∃ x,Hid (m - Z = x) := ⟨_,rfl⟩
  obtain ⟨mx,hmx⟩ : ∃ x,Hid (m + Z = x) := ⟨_,rfl⟩
  have emnI : (m : Int) - (Z : Int) = (mn : Int) := by have := hmn.out; omega
  have emxI : (m : Int) + (Z : Int) = (mx : Int) := by have := hmx.out; omega
  have mx64 : mx < 18446744073709551616 := by have := hmx.out; omega
  have emn' : mn = cl mant (skewOf mant k) * 2 ^ (sft mant - 2) := by
    rw [← hmn.out,hns,mZ,eZ4]
    unfold cl
    simp only [cond_false]
    obtain ⟨c,hc⟩ : ∃ c,mant = c + 1 := ⟨mant - 1,by omega⟩
    subst hc
    generalize 2 ^ (sft (c + 1) - 2) = Y
    rw [show 4 * (c + 1) - 2 = 4 * c + 2 by omega]
    have : 2 * (c + 1) * (2 * Y) = (4 * c + 2) * Y + 2 * Y := by grind
    omega
  have emx' : mx = (4 * mant + 2) * 2 ^ (sft mant - 2) := by
    rw [← hmx.out,mZ,eZ4]
    generalize 2 ^ (sft mant - 2) = Y
    grind
  have esh : (m : Int) / 2 ^ z = (mant : Int) := by
    rw [div_pow,hm,hz.out,Nat.mul_div_cancel _ (two_pos z)]
  have UL := fun q W c0 c1 c2 => us_at h hr q W c0 c1 c2 (cl mant (skewOf mant k)) mn (cl_pos _ h.one) emn' (by omega)
  have UR := fun q W c0 c1 c2 => us_at h hr q W c0 c1 c2 (4 * mant + 2) mx (by omega) emx' mx64
  have UX := fun q W c0 c1 c2 => us_at h hr q W c0 c1 c2 (4 * mant) m (by have := h.one; omega) (by rw [hm,eT]) m64
  have bL := us_lt h hr (cl mant (skewOf mant k)) mn (cl_pos _ h.one) emn' (by omega)
  have bR := us_lt h hr (4 * mant + 2) mx (by omega) emx' mx64
  have bX := us_lt h hr (4 * mant) m (by have := h.one; omega) (by rw [hm,eT]) m64
  have hD0 := (fits_of h).pos
  have hg0 := (fits_of h).gpos
  have pR := unr_pos ((4 * mant + 2) * gOf mant k) (DOf mant k) (Nat.mul_pos (by omega) hg0)
  have HM : Hid (shortM mant k = ((shortD mant (skewOf mant k) (gOf mant k) (DOf mant k)).1,-pp + (if (shortD mant (skewOf mant k) (gOf mant k) (DOf mant k)).2 = true then 1 else 0))) := Lib.hid (by
    unfold shortM
    rw [hi.out,hpp.out,show -((i : Int) - 348) = 348 - (i : Int) by omega])
  have HL : Hid (lowD mant (skewOf mant k) (gOf mant k) (DOf mant k) = lowU (unr (cl mant (skewOf mant k) * gOf mant k) (DOf mant k)) (mant % 2)) := Lib.hid rfl
  have HR : Hid (topD mant (gOf mant k) (DOf mant k) = topU (unr ((4 * mant + 2) * gOf mant k) (DOf mant k)) (mant % 2)) := Lib.hid rfl
  have HX : Hid (midD mant (gOf mant k) (DOf mant k) = rndU (unr (4 * mant * gOf mant k) (DOf mant k))) := Lib.hid rfl
  rw [hS.out] at UL UR UX
  generalize unr (cl mant (skewOf mant k) * gOf mant k) (DOf mant k) = uL at *
  generalize unr ((4 * mant + 2) * gOf mant k) (DOf mant k) = uR at *
  generalize unr (4 * mant * gOf mant k) (DOf mant k) = uX at *
  obtain ⟨od,hod⟩ : ∃ o,Hid (mant % 2 = o) := ⟨_,rfl⟩
  have odb : od ≤ 1 := by have := hod.out; omega
  obtain ⟨dmin,hdmin⟩ : ∃ d,Hid (lowD mant (skewOf mant k) (gOf mant k) (DOf mant k) = d) := ⟨_,rfl⟩
  obtain ⟨dmax,hdmax⟩ : ∃ d,Hid (topD mant (gOf mant k) (DOf mant k) = d) := ⟨_,rfl⟩
  obtain ⟨dmid,hdmid⟩ : ∃ d,Hid (midD mant (gOf mant k) (DOf mant k) = d) := ⟨_,rfl⟩
  have HD : Hid (shortD mant (skewOf mant k) (gOf mant k) (DOf mant k) = if dmin ≤ dmax / 10 * 10 then (dmax / 10,true) else if dmin < dmax then (dmid,false) else (dmin,false)) := Lib.hid (by
    unfold shortD; rw [hdmin.out,hdmax.out,hdmid.out])
  have edmin : (uL + od + 3) / 4 = dmin := by rw [← hdmin.out,HL.out,hod.out]; rfl
  have edmax : (uR - od) / 4 = dmax := by rw [← hdmax.out,HR.out,hod.out]; rfl
  have edmid : rndU uX = dmid := by rw [← hdmid.out,HX.out]
  have nU : ∀ W,_ := fun W => nudge_up uL od W (by omega) odb
  have nD : ∀ W,_ := fun W => nudge_down uR od W (by omega) odb pR
  have cU : ∀ W,_ := fun W => ceil_any (uL + od) W (by omega)
  have fD : ∀ W,_ := fun W => floor_any (uR - od) W (by omega)
  have rX : ∀ W,_ := fun W => round_any uX W (by omega)
  rw [edmin] at cU
  rw [edmax] at fD
  rw [edmid] at rX
  have L10 : ∀ W,_ := fun W => log10_any k W (by omega) (by omega)
  have L2 : ∀ W,_ := fun W => log2_any pp W (by omega) (by omega)
  rw [hlp.out] at L2
  have T' := Lib.hid T
  have hrow := Lib.hid hr
  have hi' := hi
  rw [hi.out] at hr
  have SC := fun W (TW : Rowz W) => scaler_any W TW i (by omega) e pp lp S hpp.out (by omega) (by omega) (by omega) (by omega) eS
  have i696 : i < 696 := by omega
  obtain ⟨ud,hud⟩ : ∃ u,Hid (uL + od = u) := ⟨_,rfl⟩
  obtain ⟨vd,hvd⟩ : ∃ u,Hid (uR - od = u) := ⟨_,rfl⟩
  rw [hud.out] at nU cU
  rw [hvd.out] at nD fD
  have hud64 : ud < 4611686018427387904 := by have := hud.out; omega
  have hdb : dmax < 1000000000000000000 ∧ dmin < 1000000000000000000 := by omega
  have oo : bits .and .i64 (mant : Int) 1 = (od : Int) := by rw [and1 mant,hod.out]
  have dm : ((m : Int) == 9223372036854775808) = true := by simp; omega
  have ng : decide (-1085 < e) = false := by simp; omega
  have ng2 : decide (-1085 ≤ e) = false := by simp; omega
  have lt85 : e < -1085 := by omega
  clear hm he eT eS elp eix F G SF ipos i1 bL bR bX pR hD0 hg0 edmin edmax edmid hk1 hk2 hpp hlp hi hi' hrow hS emn' emx' hns hmn hmx hz hk74 hzz hZ eZ mZ eZ4 mZ2 msub mmx hlt hne
  obtain ⟨rd,hrd⟩ : ∃ x,Hid ((shortM mant k).1 = x) := ⟨_,rfl⟩
  obtain ⟨re,hre⟩ : ∃ x,Hid ((shortM mant k).2 = x) := ⟨_,rfl⟩
  rw [hrd.out,hre.out]
  go_enter Tryz.func150,Tryz.ntmps150
  go_wp2_with fail
  refine (L10 _).mono ?_
  rintro e' w1 ⟨rfl,rfl⟩
  go_wp2_with fail
  refine (L2 _).mono ?_
  rintro e' w2 ⟨rfl,rfl⟩
  go_wp2_with fail
  obtain ⟨W,r',hr',bW,c0,c1,c2,hP⟩ := SC w1 T'.out
  obtain rfl : r = r' := Option.some.inj (hr.symm.trans hr')
  refine hP.mono ?_
  rintro e' w3 ⟨rfl,rfl⟩
  clear hP L10 L2 SC T'
  have u1 := UL _ w3 c0 c1 c2
  go_wp2_with fail
  refine u1.mono ?_
  rintro e' w4 ⟨rfl,n1,rfl⟩
  obtain ⟨W4,hW4⟩ : ∃ W,Hid (W = w3.drewN n1) := ⟨_,rfl⟩
  have b4 : Below w1.heap.size w1 W4 := by rw [hW4.out]; exact below_drewN bW n1
  have u2 := UR w1.heap.size W4 (by rw [hW4.out]; exact c0) (by rw [hW4.out]; exact c1) (by rw [hW4.out]; exact c2)
  have u3 := fun n => UX w1.heap.size (W4.drewN n) (by rw [hW4.out]; exact c0) (by rw [hW4.out]; exact c1) (by rw [hW4.out]; exact c2)
  rw [← hW4.out]
  clear hW4 u1 c0 c1 c2 bW UL UR UX
  go_wp2_with fail
  refine (nU _).mono ?_
  rintro e' w5 ⟨rfl,rfl⟩
  go_wp2_with fail
  refine (cU _).mono ?_
  rintro e' w5 ⟨rfl,rfl⟩
  go_wp2_with fail
  refine u2.mono ?_
  rintro e' w6 ⟨rfl,n2,rfl⟩
  have u3 := u3 n2
  obtain ⟨W6,hW6⟩ : ∃ W,Hid (W = w5.drewN n2) := ⟨_,rfl⟩
  have b6 : Below w1.heap.size w1 W6 := by rw [hW6.out]; exact below_drewN b4 n2
  rw [← hW6.out] at u3 ⊢
  clear hW6 u2 b4 nU cU
  go_wp2_with fail
  refine (nD _).mono ?_
  rintro e' w7 ⟨rfl,rfl⟩
  go_wp2_with fail
  refine (fD _).mono ?_
  rintro e' w7 ⟨rfl,rfl⟩
  clear nD fD
  obtain ⟨dt,hdt⟩ : ∃ d,Hid (dmax / 10 = d) := ⟨_,rfl⟩
  have edt : (dmax : Int) / 10 = (dt : Int) := by have := hdt.out; omega
  have dtb : dt ≤ dmax := by have := hdt.out; omega
  have hdb1 := hdb.1
  have hdb2 := hdb.2
  clear hdb
  by_cases t1 : dmin ≤ dt * 10
  · have HDD : Hid (shortM mant k = (dt,-pp + 1)) := Lib.hid (by rw [HM.out,HD.out,hdt.out,if_pos t1]; simp)
    have t1' : (dmin : Int) ≤ (dt : Int) * 10 := by omega
    have g1 : rd = dt := by rw [← hrd.out,HDD.out]
    have g2 : re = -(pp - 1) := by rw [← hre.out,HDD.out]; show -pp + 1 = -(pp - 1); omega
    have G1 := Lib.hid g1
    have G2 := Lib.hid g2
    clear HDD HD HM HL HR HX g1 g2
    go_wp2_with fail
    go_ret2
    rw [G1.out,G2.out]
    exact ⟨by simp,b6⟩
  · have t1' : decide ((dmin : Int) ≤ (dt : Int) * 10) = false := by simp; omega
    by_cases t2 : dmin < dmax
    · have HDD : Hid (shortM mant k = (dmid,-pp)) := Lib.hid (by rw [HM.out,HD.out,hdt.out,if_neg t1,if_pos t2]; simp)
      have t2' : (dmin : Int) < (dmax : Int) := by omega
      have G1 : Hid (rd = dmid) := Lib.hid (by rw [← hrd.out,HDD.out])
      have G2 : Hid (re = -pp) := Lib.hid (by rw [← hre.out,HDD.out])
      clear HDD HD HM HL HR HX
      go_wp2_with fail
      refine u3.mono ?_
      rintro e' w8 ⟨rfl,n3,rfl⟩
      go_wp2_with fail
      refine (rX _).mono ?_
      rintro e' w9 ⟨rfl,rfl⟩
      go_wp2_with fail
      go_ret2
      rw [G1.out,G2.out]
      exact ⟨rfl,below_drewN b6 n3⟩
    · have HDD : Hid (shortM mant k = (dmin,-pp)) := Lib.hid (by rw [HM.out,HD.out,hdt.out,if_neg t1,if_neg t2]; simp)
      have t2' : decide ((dmin : Int) < (dmax : Int)) = false := by simp; omega
      have G1 : Hid (rd = dmin) := Lib.hid (by rw [← hrd.out,HDD.out])
      have G2 : Hid (re = -pp) := Lib.hid (by rw [← hre.out,HDD.out])
      clear HDD HD HM HL HR HX
      go_wp2_with fail
      go_ret2
      rw [G1.out,G2.out]
      exact ⟨rfl,b6⟩
theorem short_any (mant : Nat) (k : Int) (h : Flo mant k) (m : Nat) (e : Int) (hm : m = mant * 2 ^ sft mant) (he : e = k - sft mant) (w : World) (T : Rowz w) :
  Calls Tryz.prog 150 #[.int .u64 m,.int .i64 e] w fun e w' => e = .returned (.tuple #[.int .u64 (shortM mant k).1,.int .i64 (shortM mant k).2]) ∧ Below w.heap.size w w' := by
 by_cases hlt : e < -1085
 ·by_cases hne : m = 9223372036854775808
  ·exact short_C1 mant k h m e hm he hne hlt w T
  ·exact short_C0 mant k h m e hm he hne hlt w T
 ·cases hsk : skewOf mant k with
  | true => exact short_A mant k h m e hm he hsk w T
  | false =>
   by_cases hne : m = 9223372036854775808
   ·refine short_B0 mant k h m e hm he hsk hne ?_ w T
    have s11 : sft mant = 11 := by
     rcases Nat.lt_or_ge mant 4503599627370496 with hx | hx
     ·have := sft_sub h.one hx
      rcases h.norm with hn | hn <;> omega
     ·exact sft_norm hx h.top
    rw [s11] at hm he
    have hm52 : mant = 4503599627370496 := by omega
    unfold skewOf at hsk
    rw [hm52] at hsk
    simp at hsk
    have := h.lo
    omega
   ·exact short_B mant k h m e hm he hsk hne (by omega) w T
end Go.Proofs.YtalaajniammggaaGreatDoor

/- The form of a float's digits and exponent: all ways. -/
namespace Go.Proofs.YtalaajniammggaaGreatDoor
open Go.RowKit
theorem fmt_any (B q b : Nat) (w : World) (neg : Bool) (g : Nat → UInt8) (nd : Nat) (X : Int) (h1 : 1 ≤ nd) (h17 : nd ≤ 17) (hX1 : -400 < X) (hX2 : X < 400) (hB : Buf B w q 0 []) (hq : b ≠ q)
  (hc : ∀ t,t < nd → w.cell? ⟨b,t,none⟩ = some (.int .u8 ((g t).toNat : Int))) :
  Calls Tryz.prog 143 #[.slice (some ⟨q,0,none⟩) 0 24,.bool neg,.slice (some ⟨b,0,none⟩) 32 32,.int .i64 (X + 1),.int .i64 nd,.int .i64 (nd - 1 : Nat),.int .u8 101,.bool true] w fun e w' =>
   ∃ N,e = .returned (.slice (some ⟨q,0,none⟩) N 24) ∧ Buf B w' q N (fmtL neg g nd (decide (X < 0)) X.natAbs) ∧ Below B w w' := by
 obtain ⟨M,hM⟩ : ∃ M,X.natAbs = M := ⟨_,rfl⟩
 rw [hM]
 have hM4 : M < 400 := by omega
 by_cases hneg : X < 0
 ·have eX : X = -(M : Int) := by omega
  have hm1 : 1 ≤ M := by omega
  rw [decide_eq_true hneg,eX]
  clear hneg eX hM hX1 hX2 X
  by_cases hn1 : nd = 1
  ·subst hn1
   cases neg
   ·by_cases a : M < 10
    ·exact fmtE_0011 B q b w g M a hm1 hB hq hc
    ·by_cases c : M < 100
     ·exact fmtE_0012 B q b w g M (by omega) c hB hq hc
     ·exact fmtE_0013 B q b w g M (by omega) hM4 hB hq hc
   ·by_cases a : M < 10
    ·exact fmtE_1011 B q b w g M a hm1 hB hq hc
    ·by_cases c : M < 100
     ·exact fmtE_1012 B q b w g M (by omega) c hB hq hc
     ·exact fmtE_1013 B q b w g M (by omega) hM4 hB hq hc
  ·obtain ⟨k,rfl⟩ : ∃ k,nd = k + 2 := ⟨nd - 2,by omega⟩
   have hk : k ≤ 15 := by omega
   rw [show k + 2 - 1 = k + 1 by omega]
   cases neg
   ·by_cases a : M < 10
    ·exact fmtE_0111 B q b w g k hk M a hm1 hB hq hc
    ·by_cases c : M < 100
     ·exact fmtE_0112 B q b w g k hk M (by omega) c hB hq hc
     ·exact fmtE_0113 B q b w g k hk M (by omega) hM4 hB hq hc
   ·by_cases a : M < 10
    ·exact fmtE_1111 B q b w g k hk M a hm1 hB hq hc
    ·by_cases c : M < 100
     ·exact fmtE_1112 B q b w g k hk M (by omega) c hB hq hc
     ·exact fmtE_1113 B q b w g k hk M (by omega) hM4 hB hq hc
 ·have eX : X = (M : Int) := by omega
  rw [decide_eq_false hneg,eX]
  clear hneg eX hM hX1 hX2 X
  by_cases hn1 : nd = 1
  ·subst hn1
   cases neg
   ·by_cases a : M < 10
    ·exact fmtE_0001 B q b w g M a hB hq hc
    ·by_cases c : M < 100
     ·exact fmtE_0002 B q b w g M (by omega) c hB hq hc
     ·exact fmtE_0003 B q b w g M (by omega) hM4 hB hq hc
   ·by_cases a : M < 10
    ·exact fmtE_1001 B q b w g M a hB hq hc
    ·by_cases c : M < 100
     ·exact fmtE_1002 B q b w g M (by omega) c hB hq hc
     ·exact fmtE_1003 B q b w g M (by omega) hM4 hB hq hc
  ·obtain ⟨k,rfl⟩ : ∃ k,nd = k + 2 := ⟨nd - 2,by omega⟩
   have hk : k ≤ 15 := by omega
   rw [show k + 2 - 1 = k + 1 by omega]
   cases neg
   ·by_cases a : M < 10
    ·exact fmtE_0101 B q b w g k hk M a hB hq hc
    ·by_cases c : M < 100
     ·exact fmtE_0102 B q b w g k hk M (by omega) c hB hq hc
     ·exact fmtE_0103 B q b w g k hk M (by omega) hM4 hB hq hc
   ·by_cases a : M < 10
    ·exact fmtE_1101 B q b w g k hk M a hB hq hc
    ·by_cases c : M < 100
     ·exact fmtE_1102 B q b w g k hk M (by omega) c hB hq hc
     ·exact fmtE_1103 B q b w g k hk M (by omega) hM4 hB hq hc
set_option maxRecDepth 100000 in
set_option maxHeartbeats 2000000 in
theorem fmt_zero0 (B q : Nat) (w : World) (hB : Buf B w q 0 []) :
  Calls Tryz.prog 143 #[.slice (some ⟨q,0,none⟩) 0 24,.bool false,.slice none 0 0,.int .i64 0,.int .i64 0,.int .i64 (-1),.int .u8 101,.bool true] w fun e w' =>
   ∃ N,e = .returned (.slice (some ⟨q,0,none⟩) N 24) ∧ Buf B w' q N (fmtL false (fun _ => 48) 1 false 0) ∧ Below B w w' := by
 obtain ⟨hBq,hqw⟩ := hB.base
 have hb0 := Below.refl B w
 go_enter Tryz.func143,Tryz.ntmps143
 go_wp2_with (first
  | (at_builtin; refine wp_app _ rfl _ _ rfl B q _ _ [48] 1 _ rfl (Buf.alloc hB _) ⟨_,0,none⟩ rfl rfl (news_new _ _ _ (by first | rfl | (simp [Lib.byteCells]))) (by omega) ?_; intro w1 N1 hN1 hB1 hg1; have hb1 : Below B w w1 := (hb0.alloc (by have := hb0.size; omega) _).grown hg1 (by simp; have := hb0.size; omega) (fun j hj => by cases hj; omega))
  | (at_builtin; refine wp_app _ rfl _ _ rfl B q _ _ [101] 1 _ rfl (Buf.alloc hB1 _) ⟨_,0,none⟩ rfl rfl (news_new _ _ _ (by first | rfl | (simp [Lib.byteCells]))) (by have := hN1.out; omega) ?_; intro w2 N2 hN2 hB2 hg2; have hb2 : Below B w w2 := (hb1.alloc (by have := hb1.size; omega) _).grown hg2 (by simp; have := hb1.size; omega) (fun j hj => by cases hj; omega))
  | (at_builtin; refine wp_app _ rfl _ _ rfl B q _ _ [43] 1 _ rfl (Buf.alloc hB2 _) ⟨_,0,none⟩ rfl rfl (news_new _ _ _ (by first | rfl | (simp [Lib.byteCells]))) (by have := hN1.out; have := hN2.out; omega) ?_; intro w3 N3 hN3 hB3 hg3; have hb3 : Below B w w3 := (hb2.alloc (by have := hb2.size; omega) _).grown hg3 (by simp; have := hb2.size; omega) (fun j hj => by cases hj; omega))
  | (at_builtin; refine wp_app _ rfl _ _ rfl B q _ _ [48,48] 2 _ rfl (Buf.alloc hB3 _) ⟨_,0,none⟩ rfl rfl (news_new _ _ _ (by simp [Lib.byteCells])) (by have := hN1.out; have := hN2.out; have := hN3.out; omega) ?_; intro w4 N4 hN4 hB4 hg4; have hb4 : Below B w w4 := (hb3.alloc (by have := hb3.size; omega) _).grown hg4 (by simp; have := hb3.size; omega) (fun j hj => by cases hj; omega)))
 go_ret
 exact ⟨_,rfl,hB4,hb4⟩
set_option maxRecDepth 100000 in
set_option maxHeartbeats 2000000 in
theorem fmt_zero1 (B q : Nat) (w : World) (hB : Buf B w q 0 []) :
  Calls Tryz.prog 143 #[.slice (some ⟨q,0,none⟩) 0 24,.bool true,.slice none 0 0,.int .i64 0,.int .i64 0,.int .i64 (-1),.int .u8 101,.bool true] w fun e w' =>
   ∃ N,e = .returned (.slice (some ⟨q,0,none⟩) N 24) ∧ Buf B w' q N (fmtL true (fun _ => 48) 1 false 0) ∧ Below B w w' := by
 obtain ⟨hBq,hqw⟩ := hB.base
 have hb0 := Below.refl B w
 go_enter Tryz.func143,Tryz.ntmps143
 go_wp2_with (first
  | (at_builtin; refine wp_app _ rfl _ _ rfl B q _ _ [45] 1 _ rfl (Buf.alloc hB _) ⟨_,0,none⟩ rfl rfl (news_new _ _ _ (by first | rfl | (simp [Lib.byteCells]))) (by omega) ?_; intro w0 N0 hN0 hB0 hg0; have hb0' : Below B w w0 := (hb0.alloc (by have := hb0.size; omega) _).grown hg0 (by simp; have := hb0.size; omega) (fun j hj => by cases hj; omega))
  | (at_builtin; refine wp_app _ rfl _ _ rfl B q _ _ [48] 1 _ rfl (Buf.alloc hB0 _) ⟨_,0,none⟩ rfl rfl (news_new _ _ _ (by first | rfl | (simp [Lib.byteCells]))) (by have := hN0.out; omega) ?_; intro w1 N1 hN1 hB1 hg1; have hb1 : Below B w w1 := (hb0'.alloc (by have := hb0'.size; omega) _).grown hg1 (by simp; have := hb0'.size; omega) (fun j hj => by cases hj; omega))
  | (at_builtin; refine wp_app _ rfl _ _ rfl B q _ _ [101] 1 _ rfl (Buf.alloc hB1 _) ⟨_,0,none⟩ rfl rfl (news_new _ _ _ (by first | rfl | (simp [Lib.byteCells]))) (by have := hN0.out; have := hN1.out; omega) ?_; intro w2 N2 hN2 hB2 hg2; have hb2 : Below B w w2 := (hb1.alloc (by have := hb1.size; omega) _).grown hg2 (by simp; have := hb1.size; omega) (fun j hj => by cases hj; omega))
  | (at_builtin; refine wp_app _ rfl _ _ rfl B q _ _ [43] 1 _ rfl (Buf.alloc hB2 _) ⟨_,0,none⟩ rfl rfl (news_new _ _ _ (by first | rfl | (simp [Lib.byteCells]))) (by have := hN0.out; have := hN1.out; have := hN2.out; omega) ?_; intro w3 N3 hN3 hB3 hg3; have hb3 : Below B w w3 := (hb2.alloc (by have := hb2.size; omega) _).grown hg3 (by simp; have := hb2.size; omega) (fun j hj => by cases hj; omega))
  | (at_builtin; refine wp_app _ rfl _ _ rfl B q _ _ [48,48] 2 _ rfl (Buf.alloc hB3 _) ⟨_,0,none⟩ rfl rfl (news_new _ _ _ (by simp [Lib.byteCells])) (by have := hN0.out; have := hN1.out; have := hN2.out; have := hN3.out; omega) ?_; intro w4 N4 hN4 hB4 hg4; have hb4 : Below B w w4 := (hb3.alloc (by have := hb3.size; omega) _).grown hg4 (by simp; have := hb3.size; omega) (fun j hj => by cases hj; omega)))
 go_ret
 exact ⟨_,rfl,hB4,hb4⟩
end Go.Proofs.YtalaajniammggaaGreatDoor
