/- The document's side: Digits' walk. -/
import Derived.Test.YtalaajniammggaaGreatDoorXPc
import Derived.Test.YtalaajniammggaaGreatDoorXEd
namespace Go.Proofs.YtalaajniammggaaGreatDoor
open Go.RowKit
def Tried (m : Nat) (k e s : Int) (w0 w : World) : Prop := (∀ s',s < s' → s' ≤ e → NoHit m k s') ∧ Below w0.heap.size w0 w
theorem dF_lt {r : Nat} (h0 : 1 ≤ r) (hr : r < INF) : dF r < 18446744073709551616 := by
  have hI : INF = 9218868437227405312 := rfl
  have hr63 : rungOf r = r := by
    unfold rungOf
    exact Nat.mod_eq_of_lt (by have : (2 : Nat) ^ 63 = 9223372036854775808 := by decide
                               omega)
  have := (read_F (x := r) (by omega) (by omega)).2.2.1
  omega
set_option maxRecDepth 100000 in
set_option maxHeartbeats 4000000 in
theorem Digits_any (r : Nat) (h0 : 1 ≤ r) (hr : r < INF) (w : World) :
  Calls Tryz.prog 85 #[.int .u64 r] w fun e w' => e = .returned (.tuple #[.int .u64 (dF r),.int .i64 (XF r)]) ∧ Below w.heap.size w w' := by
 have FL := Lib.hid (flo_of (r := r) (by omega) hr)
 have hTop := top_any r h0 hr w
 have hRat := fun s a b c W => ratio_any r s h0 hr a b c W
 have hSide := fun c s a b d W => Side_any r c s h0 hr a b d W
 have hFound := Lib.hid (fun e s ht hs1 hs2 hno => found (e := e) (s := s) h0 hr ht hs1 hs2 hno)
 have hI : INF = 9218868437227405312 := rfl
 have r64 : r < 18446744073709551616 := by omega
 have HDF := Lib.hid (dF_lt h0 hr)
 obtain ⟨RD,hRD⟩ : ∃ x,Hid (dF r = x) := ⟨_,Lib.hid rfl⟩
 obtain ⟨RX,hRX⟩ : ∃ x,Hid (XF r = x) := ⟨_,Lib.hid rfl⟩
 rw [hRD.out,hRX.out] at hFound ⊢
 rw [hRD.out] at HDF
 obtain ⟨m,hm⟩ : ∃ m,Hid (magOf r = m) := ⟨_,Lib.hid rfl⟩
 obtain ⟨k,hk⟩ : ∃ k : Int,Hid ((expOf r : Int) - 1074 = k) := ⟨_,Lib.hid rfl⟩
 rw [hm.out,hk.out] at FL hTop hFound
 simp only [hm.out,hk.out] at hRat hSide
 clear hm hk hRD hRX
 go_enter Tryz.func85,Tryz.ntmps85
 go_wp2_with fail
 refine hTop.mono ?_
 rintro e w1 ⟨ex,rfl,hT,x1,x2,b1⟩
 have TB := Lib.hid (top_bounds FL.out hT.1 hT.2)
 have HT := Lib.hid hT
 obtain ⟨P,hP⟩ : ∃ P,Hid (PO m k = P) := ⟨_,Lib.hid rfl⟩
 have p1 : P ≤ ex := by rw [← hP.out]; exact TB.out.1
 have p2 : ex ≤ P + 16 := by rw [← hP.out]; exact TB.out.2.1
 have H0 : Hid (Tried m k ex ex w w1) := Lib.hid ⟨fun s' a b => by omega,b1⟩
 clear hT b1 hTop TB
 go_wp2_with fail
 go_loopw [5,6,7,8,9,10,11] (fun s5 _ _ _ _ _ _ wr => ∃ n : Nat,s5 = .int .i64 n ∧ 1 ≤ n ∧ (n : Int) ≤ ex - P + 1 ∧ Hid (Tried m k ex (ex - n + 1) w wr)) (fun s5 _ _ _ _ _ _ _ => 18 - (intOf s5).toNat)
 case atStart => exact ⟨1,rfl,by omega,by omega,by rw [show ex - ((1 : Nat) : Int) + 1 = ex by omega]; exact H0⟩
 case round =>
  clear H0
  obtain ⟨n,rfl,n1,n2,H0⟩ := hrel
  have n17 : n ≤ 17 := by omega
  have n17' : (n : Int) ≤ 17 := by omega
  obtain ⟨s,hs⟩ : ∃ s,Hid (ex - (n : Int) + 1 = s) := ⟨_,Lib.hid rfl⟩
  have es : ex - (n : Int) + 1 = s := hs.out
  rw [hs.out] at H0
  have s1 : P ≤ s := by omega
  have s2 : s ≤ ex := by omega
  obtain ⟨j,hj⟩ : ∃ j : Nat,Hid (s = PO m k + j) := ⟨(s - P).toNat,Lib.hid (by rw [hP.out]; omega)⟩
  have hqs : vX m k s / vY k s < 100000000000000000 := by rw [hj.out]; exact quo_small FL.out j
  have hR := hRat s (by omega) (by omega) (by omega) wr
  obtain ⟨q,hq⟩ : ∃ q,Hid (q = vX m k s / vY k s) := ⟨_,Lib.hid rfl⟩
  obtain ⟨hf,hhf⟩ : ∃ q,Hid (q = cmpN (2 * (vX m k s % vY k s)) (vY k s)) := ⟨_,Lib.hid rfl⟩
  rw [← hq.out,← hhf.out] at hR
  rw [← hq.out] at hqs
  have hS1 := fun W => hSide q s (by omega) (by omega) (by omega) W
  have hS2 := fun W => hSide (q + 1) s (by omega) (by omega) (by omega) W
  obtain ⟨a1,ha1⟩ : ∃ a,Hid (sideN m k q s = a) := ⟨_,Lib.hid rfl⟩
  obtain ⟨a2,ha2⟩ : ∃ a,Hid (sideN m k (q + 1) s = a) := ⟨_,Lib.hid rfl⟩
  obtain ⟨q1,hq1⟩ : ∃ a,Hid (q + 1 = a) := ⟨_,Lib.hid rfl⟩
  simp only [ha1.out] at hS1
  simp only [ha2.out] at hS2
  simp only [hq1.out] at hS2
  have eq1 : (q : Int) + 1 = (q1 : Int) := by have := hq1.out; omega
  obtain ⟨one,d1⟩ : ∃ b,(a1 == 0) = b := ⟨_,rfl⟩
  obtain ⟨two,d2⟩ : ∃ b,(a2 == 0) = b := ⟨_,rfl⟩
  have D1 : Hid (one = true ↔ sideN m k q s = 0) := Lib.hid (by rw [ha1.out,← d1]; simp)
  have D2 : Hid (two = true ↔ sideN m k (q + 1) s = 0) := Lib.hid (by rw [ha2.out,← d2]; simp)
  have hfi : hf = -1 ∨ hf = 0 ∨ hf = 1 := by rw [hhf.out]; exact cmp_is _ _
  clear hRat hSide ha1 ha2
  go_wp2_with fail
  refine hR.mono ?_
  rintro e w2 ⟨rfl,b2⟩
  go_wp2_with fail
  refine (hS1 _).mono ?_
  rintro e w3 ⟨rfl,b3⟩
  replace b2 := b2.trans (b3.mono b2.size)
  go_wp2_with fail
  refine (hS2 _).mono ?_
  rintro e w4 ⟨rfl,b4⟩
  replace b2 := b2.trans (b4.mono b2.size)
  have H1 : Hid (Tried m k ex s w w4) := Lib.hid ⟨H0.out.1,H0.out.2.trans (b2.mono H0.out.2.size)⟩
  clear H0 b2 b3 b4 hR hS1 hS2
  by_cases hit : one = false ∧ two = false
  ·obtain ⟨rfl,rfl⟩ := hit
   have NH : NoHit m k s := ⟨fun hh => by
     have := D1.out.2 ((side_zero m k q s).2 (by rw [hq.out]; exact hh))
     exact absurd this (by decide),fun hh => by
     have := D2.out.2 ((side_zero m k (q + 1) s).2 (by rw [hq.out]; exact hh))
     exact absurd this (by decide)⟩
   have hlt : P < s := by
    rcases Int.lt_or_le P s with hc | hc
    ·exact hc
    ·exfalso
     have e9 : s = PO m k := by rw [hP.out]; omega
     rw [e9] at NH
     exact hit_last FL.out NH
   have H2 : Hid (Tried m k ex (ex - ((n + 1 : Nat) : Int) + 1) w w4) := Lib.hid ⟨fun s' h1 h2 => by
     by_cases e9 : s' = s
     ·rw [e9]; exact NH
     ·exact H1.out.1 s' (by push_cast at h1; omega) h2,H1.out.2⟩
   clear NH H1 D1 D2 hq hhf hs hj
   go_wp2_with fail
   exact ⟨⟨n + 1,rfl,by omega,by push_cast; omega,H2⟩,by simp [intOf] <;> omega⟩
  ·have hit' : one = true ∨ two = true := by cases one <;> cases two <;> simp at hit ⊢
   obtain ⟨up,hup⟩ : ∃ up : Bool,Hid (up = true ↔ 0 < hf ∨ (hf = 0 ∧ q % 2 = 1)) := ⟨decide (0 < hf ∨ (hf = 0 ∧ q % 2 = 1)),Lib.hid (by simp)⟩
   obtain ⟨c,hc⟩ : ∃ c,Hid (c = if one = false ∨ (two = true ∧ up = true) then q + 1 else q) := ⟨_,Lib.hid rfl⟩
   have HF := Lib.hid (hFound.out ex s HT.out (by rw [hP.out]; exact s1) s2 H1.out.1 q hq.out one two up D1.out D2.out hit' hf hhf.out hup.out c hc.out)
   have c1 : 1 ≤ c := HF.out.1
   have c2 : c ≤ q + 1 := by rw [hc.out]; split <;> omega
   have B1 := Lib.hid H1.out.2
   have HIT := Lib.hid hit'
   clear D1 D2 H1 hit hit' hq hhf hs hj hFound
   go_upto_region 9 with fail
   go_cut [44] from 39 to 43 (fun s44 wy => s44 = .bool false ∧ wy = w4)
   case first =>
    cases one with
    | true =>
     go_wp2_with fail
     go_meet
     exact ⟨rfl,by trivial⟩
    | false =>
     cases two with
     | true =>
      go_wp2_with fail
      go_meet
      exact ⟨rfl,by trivial⟩
     | false => exact absurd HIT.out (by decide)
   case rest =>
    obtain ⟨rfl,hwc⟩ := hcut
    obtain rfl : w4 = wc := hwc.symm
    go_upto_region 11 with fail
    go_cut [63] from 46 to 62 (fun s63 wy => ∃ b : Bool,s63 = .bool b ∧ wy = w4 ∧ Hid (b = true ↔ one = false ∨ (two = true ∧ up = true)))
    case first =>
     cases one with
     | false =>
      go_wp2_with fail
      go_meet
      exact ⟨true,rfl,by trivial,Lib.hid (by simp)⟩
     | true =>
      cases two with
      | false =>
       go_wp2_with fail
       go_meet
       exact ⟨false,rfl,by trivial,Lib.hid (by simp)⟩
      | true =>
       rcases hfi with rfl | rfl | rfl
       ·have hu : up = false := by
         cases h : up with
         | false => rfl
         | true => exfalso; have := hup.out.1 h; omega
        subst hu
        clear hup
        go_wp2_with fail
        go_meet
        exact ⟨false,rfl,by trivial,Lib.hid (by simp)⟩
       ·by_cases ho : q % 2 = 1
        ·have ho' : (((q : Int) % 2) == 1) = true := by rw [beq_iff_eq]; omega
         have hu : up = true := hup.out.2 (.inr ⟨rfl,ho⟩)
         subst hu
         clear hup ho
         go_wp2_with fail
         go_meet
         exact ⟨true,rfl,by trivial,Lib.hid (by simp)⟩
        ·have ho' : (((q : Int) % 2) == 1) = false := by rw [beq_eq_false_iff_ne]; omega
         have hu : up = false := by
          cases h : up with
          | false => rfl
          | true => exfalso; have := hup.out.1 h; omega
         subst hu
         clear hup
         go_wp2_with fail
         go_meet
         exact ⟨false,rfl,by trivial,Lib.hid (by simp)⟩
       ·have hu : up = true := hup.out.2 (.inl (by omega))
        subst hu
        clear hup
        go_wp2_with fail
        go_meet
        exact ⟨true,rfl,by trivial,Lib.hid (by simp)⟩
    case rest =>
     obtain ⟨b,rfl,hwc,HB⟩ := hcut
     obtain rfl : w4 = wc := hwc.symm
     go_upto_if 63 with fail
     go_cut [11,63] from 64 to 65 (fun s11 _ wy => s11 = .int .u64 c ∧ wy = w4)
     case first =>
      cases b with
      | true =>
       have e9 : q1 = c := by rw [hc.out,if_pos (HB.out.1 rfl)]; exact hq1.out.symm
       subst e9
       clear hc HF hq1 HB
       go_wp2_with fail
       go_meet
       exact ⟨rfl,by trivial⟩
      | false =>
       have e9 : q = c := by rw [hc.out,if_neg (fun hh => absurd (HB.out.2 hh) (by decide))]
       subst e9
       clear hc HF hq1 HB
       go_wp2_with fail
       go_meet
       exact ⟨rfl,by trivial⟩
     case rest =>
      obtain ⟨rfl,hwc⟩ := hcut
      obtain rfl : w4 = wc := hwc.symm
      have c3 : c < 18446744073709551616 := by omega
      clear hc HB HIT hup hfi hq1 eq1
      go_upto_block 2 with fail
      go_cut [6,11] from 66 to 72 (fun s6 s11 wy => ∃ (a t : Nat),s6 = .int .i64 (s + t) ∧ s11 = .int .u64 a ∧ a < 18446744073709551616 ∧ t ≤ 20 ∧ wy = w4 ∧ Hid (c = a * 10 ^ t ∧ a % 10 ≠ 0))
      case first =>
       go_wp2_with fail
       go_loopw [6,11] (fun s6 s11 wr => ∃ (a t : Nat),s6 = .int .i64 (s + t) ∧ s11 = .int .u64 a ∧ 1 ≤ a ∧ a < 18446744073709551616 ∧ t ≤ 20 ∧ wr = w4 ∧ Hid (c = a * 10 ^ t)) (fun _ s11 _ => (intOf s11).toNat)
       case atStart => exact ⟨c,0,by simp,rfl,c1,c3,by omega,rfl,Lib.hid (by simp)⟩
       case round =>
        obtain ⟨a,t,rfl,rfl,a1',a2',t20,hwr,HA⟩ := hrel
        obtain rfl : w4 = wr := hwr.symm
        by_cases h10 : a % 10 = 0
        ·have h10' : (((a : Int) % 10) == 0) = true := by rw [beq_iff_eq]; omega
         obtain ⟨y,hy⟩ : ∃ y,Hid (a / 10 = y) := ⟨_,Lib.hid rfl⟩
         have ey : (a : Int) / 10 = (y : Int) := by have := hy.out; omega
         have y1 : 1 ≤ y ∧ y < a ∧ y < 18446744073709551616 := by have := hy.out; omega
         obtain ⟨y1,y2,y3⟩ := y1
         have HA' : Hid (c = y * 10 ^ (t + 1)) := Lib.hid (by
          have e10 : a = y * 10 := by have := hy.out; omega
          rw [HA.out,Nat.pow_succ,e10,Nat.mul_assoc,Nat.mul_comm 10])
         have t20' : t + 1 ≤ 20 := by
          rcases Nat.lt_or_ge t 20 with hcc | hcc
          ·omega
          ·exfalso
           have h1 : 1 * 10 ^ 20 ≤ y * 10 ^ (t + 1) := Nat.mul_le_mul y1 (Nat.pow_le_pow_right (by decide) (by omega))
           rw [← HA'.out] at h1
           have e20 : (10 : Nat) ^ 20 = 100000000000000000000 := by decide
           omega
         obtain ⟨z,hz⟩ : ∃ z,Hid (s + ((t + 1 : Nat) : Int) = z) := ⟨_,Lib.hid rfl⟩
         have ez : s + (t : Int) + 1 = z := by rw [← hz.out]; push_cast; omega
         clear h10 hy HA
         go_wp2_with fail
         exact ⟨⟨y,t + 1,by rw [hz.out],rfl,y1,y3,t20',by trivial,HA'⟩,by simp [intOf] <;> omega⟩
        ·have h10' : (((a : Int) % 10) == 0) = false := by rw [beq_eq_false_iff_ne]; omega
         have HA' : Hid (c = a * 10 ^ t ∧ a % 10 ≠ 0) := Lib.hid ⟨HA.out,h10⟩
         clear HA
         go_wp2_with fail
         go_meet
         exact ⟨a,t,rfl,rfl,a2',t20,by trivial,HA'⟩
      case rest =>
       obtain ⟨a,t,rfl,rfl,a2',t20,hwc,HA⟩ := hcut
       obtain rfl : w4 = wc := hwc.symm
       obtain ⟨f1,f2⟩ := HF.out.2 a t HA.out.1 HA.out.2
       have hN := rnumber_any a a2' w4
       obtain ⟨sd,hsd⟩ : ∃ s : ByteArray,Hid (s = ⟨(Lib.decDigits a).toArray⟩) := ⟨_,Lib.hid rfl⟩
       have hsz : Hid (sd.size = Lib.nDigits a) := Lib.hid (by rw [hsd.out]; show (Lib.decDigits a).toArray.size = _; rw [List.size_toArray,Lib.decDigits_length])
       have sz20 : sd.size ≤ 20 := by rw [hsz.out]; exact nd_le a a2'
       rw [← hsd.out] at hN
       obtain ⟨z,hz⟩ : ∃ z,Hid (s + (t : Int) = z) := ⟨_,Lib.hid rfl⟩
       have e9 : z + (sd.size : Int) - 1 = RX := by rw [← f2,← hz.out,hsz.out]
       rw [hz.out]
       have zb : -1000 ≤ z ∧ z ≤ 1000 := by have := hz.out; omega
       obtain ⟨zb1,zb2⟩ := zb
       subst f1
       clear HF HA f2 hsd hsz hz es
       go_wp2_with fail
       refine hN.mono ?_
       rintro e w5 ⟨rfl,b5⟩
       go_wp2_with fail
       go_ret2
       exact ⟨rfl,B1.out.trans (b5.mono B1.out.size)⟩
end Go.Proofs.YtalaajniammggaaGreatDoor

/- The document's side: text. -/
namespace Go.Proofs.YtalaajniammggaaGreatDoor
open Go.RowKit
theorem rung_self {r : Nat} (hr : r < INF) : rungOf r = r := by
  have hI : INF = 9218868437227405312 := rfl
  unfold rungOf
  exact Nat.mod_eq_of_lt (by have : (2 : Nat) ^ 63 = 9223372036854775808 := by decide
                             omega)
theorem dg_div (d M j : Nat) : Lib.dg (d / 10 ^ M) j = Lib.dg d (j + M) := by
 unfold Lib.dg
 rw [Nat.div_div_eq_div_mul,← Nat.pow_add,Nat.add_comm M j]
theorem digits_are {x : Nat} (h0 : rungOf x ≠ 0) (hf : rungOf x < INF) : Lib.decDigits (dF x) = digL (gF x) (nF x) := by
 obtain ⟨_,_,_,_,hn⟩ := dF_facts h0 hf
 have FL := flo_of h0 hf
 obtain ⟨f1,_⟩ := shortM_bounds FL
 have e : shortOf x = shortM (magOf (rungOf x)) ((expOf (rungOf x) : Int) - 1074) := by unfold shortOf; rw [if_neg h0]
 rw [← e] at f1
 have z2 := nzd_le (Lib.nDigits (shortOf x).1) (shortOf x).1
 have en : nF x = nzd (shortOf x).1 (Lib.nDigits (shortOf x).1) := by unfold nF; rw [if_neg h0]
 have eg : gF x = gOfD (shortOf x).1 := by unfold gF; rw [if_neg h0]
 rw [← en] at z2
 have ed : dF x = (shortOf x).1 / 10 ^ (Lib.nDigits (shortOf x).1 - nF x) := by
  unfold dF
  rw [eg]
  exact val_first _ _ z2
 rw [Lib.decDigits_eq,← hn,eg]
 unfold digL
 apply List.map_congr_left
 intro t ht
 have ht := List.mem_range.1 ht
 rw [ed,dg_div]
 unfold gOfD
 congr 1
 omega
theorem txt_parts {x : Nat} (h0 : rungOf x ≠ 0) (hf : rungOf x < INF) : ∃ c r,Lib.decDigits (dF x) = c :: r ∧ txtL false (gF x) (nF x) (XF x) = [c] ++ (if 1 < (Lib.decDigits (dF x)).length then 46 :: r else []) ++ [101] ++ Lib.itoa (XF x) := by
 obtain ⟨b1,_⟩ := parts_bounds hf
 obtain ⟨_,_,_,_,hn⟩ := dF_facts h0 hf
 have hd := digits_are h0 hf
 refine ⟨gF x 0,moreD (gF x) (nF x),by rw [hd,digL_more _ _ b1],?_⟩
 rw [Lib.decDigits_length,← hn]
 rfl
theorem p_ba_app (a b : ByteArray) : (a ++ b).data.toList = a.data.toList ++ b.data.toList := by
 simp [ByteArray.data_append]
theorem ba_same {a b : ByteArray} (h : a.data.toList = b.data.toList) : a = b := by
 cases a; cases b; simp_all
set_option maxRecDepth 100000 in
set_option maxHeartbeats 1000000 in
theorem text_any (r : Nat) (hr : r < INF) (w : World) :
  Calls Tryz.prog 67 #[.int .u64 r] w fun e w' => e = .returned (.string ⟨(txtL false (gF r) (nF r) (XF r)).toArray⟩) ∧ Below w.heap.size w w' := by
 by_cases h0 : r = 0
 ·subst h0
  have e0 : txtL false (gF 0) (nF 0) (XF 0) = [48,101,48] := by
   have z : rungOf 0 = 0 := by decide
   unfold txtL prefL gF nF XF
   rw [if_pos z,if_pos z,if_pos z]
   simp [Lib.itoa,Lib.decDigits]
  rw [e0]
  show Calls Tryz.prog 67 #[.int .u64 0] w _
  clear e0 hr
  go_enter Tryz.func67,Tryz.ntmps67
  go_wp2_with fail
  go_ret
  exact ⟨rfl,Below.refl _ _⟩
 ·have hD := Digits_any r (by omega) hr w
  have hrs := rung_self hr
  obtain ⟨b1,b2,b3,b4⟩ := parts_bounds (x := r) (by rw [hrs]; exact hr)
  obtain ⟨c,rr,ec,et⟩ := txt_parts (x := r) (by rw [hrs]; exact h0) (by rw [hrs]; exact hr)
  have hlt := dF_lt (r := r) (by omega) hr
  have hN := fun W => rnumber_any (dF r) hlt W
  have hlen : (Lib.decDigits (dF r)).length ≤ 20 := by rw [Lib.decDigits_length]; exact nd_le _ hlt
  obtain ⟨d,hd⟩ : ∃ s : ByteArray,Hid (s = ⟨(Lib.decDigits (dF r)).toArray⟩) := ⟨_,Lib.hid rfl⟩
  have hdl : Hid (d.data.toList = c :: rr) := Lib.hid (by rw [hd.out,← ec])
  have hsz : Hid (d.size = (Lib.decDigits (dF r)).length) := Lib.hid (by rw [hd.out]; show (Lib.decDigits (dF r)).toArray.size = _; simp)
  have s1 : 1 ≤ d.size := by rw [hsz.out,ec]; simp
  have s2 : d.size ≤ 20 := by rw [hsz.out]; exact hlen
  have s1' : (1 : Int) ≤ (d.size : Int) := by omega
  simp only [← hd.out] at hN
  obtain ⟨T,hT⟩ : ∃ T,Hid (T = (⟨(txtL false (gF r) (nF r) (XF r)).toArray⟩ : ByteArray)) := ⟨_,Lib.hid rfl⟩
  have HT : Hid (T.data.toList = [c] ++ (if 1 < d.size then 46 :: rr else []) ++ [101] ++ Lib.itoa (XF r)) := Lib.hid (by rw [hT.out,hsz.out,← et])
  rw [← hT.out]
  obtain ⟨X,hX⟩ : ∃ X,Hid (XF r = X) := ⟨_,Lib.hid rfl⟩
  rw [hX.out] at hD HT b3 b4
  have h0' : ((r : Int) == 0) = false := by rw [beq_eq_false_iff_ne]; omega
  obtain ⟨t1,ht1⟩ : ∃ t,Hid (d.extract 0 1 = t) := ⟨_,Lib.hid rfl⟩
  have HT1 : Hid (t1.data.toList = [c]) := Lib.hid (by
   rw [← ht1.out,Lib.extract_data,hdl.out]
   simp)
  have e1 : d.extract 0 1 = t1 := ht1.out
  generalize dF r = D at *
  have hI : INF = 9218868437227405312 := rfl
  have r64 : r < 18446744073709551616 := by omega
  clear hd hT hX ht1 ec et hlen h0 hr hrs hI
  go_enter Tryz.func67,Tryz.ntmps67
  go_wp2_with fail
  refine hD.mono ?_
  rintro e w1 ⟨rfl,bb1⟩
  go_wp2_with fail
  refine (hN _).mono ?_
  rintro e w2 ⟨rfl,bb2⟩
  replace bb1 := bb1.trans (bb2.mono bb1.size)
  clear bb2 hD hN
  go_upto_region 6 with fail
  clear e1
  go_upto_if 20 with fail
  go_cut [6,20] from 21 to 25 (fun s6 _ wy => ∃ t : ByteArray,s6 = .string t ∧ wy = w2 ∧ Hid (t.data.toList = [c] ++ (if 1 < d.size then 46 :: rr else [])))
  case first =>
   by_cases h1 : 1 < d.size
   ·have h1' : (1 : Int) < (d.size : Int) := by omega
    obtain ⟨t2,ht2⟩ : ∃ t,Hid (d.extract 1 d.size = t) := ⟨_,Lib.hid rfl⟩
    have HT2 : Hid (t2.data.toList = rr) := Lib.hid (by
     rw [← ht2.out,Lib.extract_data,hdl.out]
     have h9 : rr.length = d.size - 1 := by
      have := congrArg List.length hdl.out
      simp at this
      omega
     simp only [List.drop_succ_cons,List.drop_zero]
     exact List.take_of_length_le (by omega))
    have z2 : t2.size ≤ 20 := by rw [← ht2.out]; simp; omega
    have z1 : t1.size ≤ 1 := by rw [← size_list,HT1.out]; simp
    have e2 : d.extract 1 d.size = t2 := ht2.out
    clear ht2
    go_wp2_with fail
    go_meet
    exact ⟨_,rfl,by trivial,Lib.hid (by rw [p_ba_app,p_ba_app,HT1.out,HT2.out,if_pos h1]; rfl)⟩
   ·have h1' : decide ((1 : Int) < (d.size : Int)) = false := by simp; omega
    have h1'' : (d.size : Int) ≤ 1 := by omega
    go_wp2_with fail
    go_meet
    exact ⟨t1,rfl,by trivial,Lib.hid (by rw [HT1.out,if_neg h1]; rfl)⟩
  case rest =>
   obtain ⟨t,rfl,hwc,HTT⟩ := hcut
   have zt : t.size ≤ 30 := by
    have h9 : rr.length = d.size - 1 := by
     have := congrArg List.length hdl.out
     simp at this
     omega
    rw [← size_list,HTT.out]
    split <;> simp <;> omega
   obtain rfl : w2 = wc := hwc.symm
   rw [← HTT.out] at HT
   by_cases hx : X < 0
   ·obtain ⟨n,hn⟩ : ∃ n : Nat,X = -(n : Int) := ⟨(-X).toNat,by omega⟩
    have hX : -X = (n : Int) := by omega
    have eW : IntKind.u64.wrap (-X) = (n : Int) := by rw [hX,IntKind.wrap_u64]; omega
    have eit : Lib.itoa X = 45 :: Lib.decDigits n := by rw [hn]; exact Lib.itoa_neg n (by omega)
    have hN2 := rnumber_any n (by omega) w2
    obtain ⟨sn,hsn⟩ : ∃ s : ByteArray,Hid (s = ⟨(Lib.decDigits n).toArray⟩) := ⟨_,Lib.hid rfl⟩
    have zn : sn.size ≤ 20 := by rw [hsn.out]; show (Lib.decDigits n).toArray.size ≤ 20; rw [List.size_toArray,Lib.decDigits_length]; exact nd_le n (by omega)
    have HN : Hid (sn.data.toList = Lib.decDigits n) := Lib.hid (by rw [hsn.out])
    rw [← hsn.out] at hN2
    clear hsn
    rw [eit] at HT
    clear eit hn
    go_wp2_with fail
    refine hN2.mono ?_
    rintro e w3 ⟨rfl,bb2⟩
    go_wp2_with fail
    go_ret
    refine ⟨?_,bb1.trans (bb2.mono bb1.size)⟩
    have eT : t ++ ⟨#[101,45]⟩ ++ sn = T := ba_same (by rw [p_ba_app,p_ba_app,HT.out,HN.out]; simp)
    show Ending.returned (.string (t ++ ⟨#[101,45]⟩ ++ sn)) = _
    rw [eT]
   ·have hx' : decide (X < 0) = false := by simp; omega
    have hx'' : 0 ≤ X := by omega
    obtain ⟨n,hn⟩ : ∃ n : Nat,X = (n : Int) := ⟨X.toNat,by omega⟩
    have eit : Lib.itoa X = Lib.decDigits n := by rw [hn]; exact Lib.itoa_nonneg n
    have hN2 := rnumber_any n (by omega) w2
    obtain ⟨sn,hsn⟩ : ∃ s : ByteArray,Hid (s = ⟨(Lib.decDigits n).toArray⟩) := ⟨_,Lib.hid rfl⟩
    have zn : sn.size ≤ 20 := by rw [hsn.out]; show (Lib.decDigits n).toArray.size ≤ 20; rw [List.size_toArray,Lib.decDigits_length]; exact nd_le n (by omega)
    have HN : Hid (sn.data.toList = Lib.decDigits n) := Lib.hid (by rw [hsn.out])
    rw [← hsn.out] at hN2
    clear hsn
    rw [eit] at HT
    subst hn
    clear eit
    go_wp2_with fail
    refine hN2.mono ?_
    rintro e w3 ⟨rfl,bb2⟩
    go_wp2_with fail
    go_ret
    refine ⟨?_,bb1.trans (bb2.mono bb1.size)⟩
    have eT : t ++ ⟨#[101]⟩ ++ sn = T := ba_same (by rw [p_ba_app,p_ba_app,HT.out,HN.out])
    show Ending.returned (.string (t ++ ⟨#[101]⟩ ++ sn)) = _
    rw [eT]
end Go.Proofs.YtalaajniammggaaGreatDoor

/- The document's side: hex, Print. -/
namespace Go.Proofs.YtalaajniammggaaGreatDoor
open Go.RowKit
def hxs (n : Nat) : Nat → List UInt8
 | 0 => []
 | j + 1 => hx (n / 16 ^ j % 16) :: hxs n j
theorem hxs_snoc (n : Nat) : ∀ j,hxs n (j + 1) = hxs (n / 16) j ++ [hx (n % 16)]
 | 0 => by simp [hxs]
 | j + 1 => by
  rw [hxs,hxs_snoc n j]
  rw [show hxs (n / 16) (j + 1) = hx (n / 16 / 16 ^ j % 16) :: hxs (n / 16) j from rfl]
  rw [Nat.div_div_eq_div_mul,← Nat.pow_succ']
  simp
theorem hexL_hxs : ∀ (j n : Nat),16 ^ j ≤ n → n < 16 ^ (j + 1) → hexL n = hxs n (j + 1)
 | 0,n,_,h2 => by
  rw [hexL_small (by simpa using h2)]
  simp [hxs]
  rw [Nat.mod_eq_of_lt (by simpa using h2)]
 | j + 1,n,h1,h2 => by
  have h16 : ¬ n < 16 := by
   have : 16 ≤ 16 ^ (j + 1) := by rw [Nat.pow_succ]; have : 0 < 16 ^ j := Nat.pow_pos (by decide); omega
   omega
  rw [hexL,dif_neg h16,hxs_snoc n (j + 1),hexL_hxs j (n / 16) (by rw [Nat.pow_succ] at h1; omega) (by rw [Nat.pow_succ] at h2; omega)]
theorem hex_slice (w : World) : ∀ d : Nat,d < 16 → (Instr.slice 9 (.string ⟨#[48,49,50,51,52,53,54,55,56,57,97,98,99,100,101,102]⟩) (some (.int .u64 (d : Int))) (some (.int .u64 ((d : Int) + 1))) none).run Tryz.prog w = .ok (.string ⟨#[hx d]⟩) w
 | 0,_ => by kernel_rfl
 | 1,_ => by kernel_rfl
 | 2,_ => by kernel_rfl
 | 3,_ => by kernel_rfl
 | 4,_ => by kernel_rfl
 | 5,_ => by kernel_rfl
 | 6,_ => by kernel_rfl
 | 7,_ => by kernel_rfl
 | 8,_ => by kernel_rfl
 | 9,_ => by kernel_rfl
 | 10,_ => by kernel_rfl
 | 11,_ => by kernel_rfl
 | 12,_ => by kernel_rfl
 | 13,_ => by kernel_rfl
 | 14,_ => by kernel_rfl
 | 15,_ => by kernel_rfl
 | d + 16,h => absurd h (by omega)
theorem nib (n i : Nat) (hn : n < 18446744073709551616) : bits .and .u64 ((n : Int) / 2 ^ (4 * i)) 15 = ((n / 16 ^ i % 16 : Nat) : Int) := by
 have e : (2 : Nat) ^ (4 * i) = 16 ^ i := by rw [Nat.pow_mul]
 have e1 : (n : Int) / 2 ^ (4 * i) = ((n / 16 ^ i : Nat) : Int) := by
  rw [← e]; push_cast; rfl
 rw [e1]
 have h := u64_and_nat (n / 16 ^ i) 15 (Nat.lt_of_le_of_lt (Nat.div_le_self _ _) hn) (by decide)
 have h2 : n / 16 ^ i &&& 15 = n / 16 ^ i % 16 := Nat.and_two_pow_sub_one_eq_mod _ 4
 rw [h2] at h
 exact h
set_option maxRecDepth 100000 in
set_option maxHeartbeats 1000000 in
theorem hex_any' (n : Nat) (hn : n < 18446744073709551616) (w : World) :
  Calls Tryz.prog 66 #[.int .u64 n] w fun e w' => e = .returned (.string ⟨(hxs n 16).toArray⟩) ∧ w' = w := by
 go_enter Tryz.func66,Tryz.ntmps66
 go_wp2_with fail
 go_loopw [3,4,5] (fun s3 s4 _ wr => ∃ (t : ByteArray) (z : Int) (j : Nat),s3 = .string t ∧ s4 = .int .i64 z ∧ -1 ≤ z ∧ z ≤ 15 ∧ t.size ≤ 16 ∧ wr = w ∧ Hid (z = (j : Int) - 1 ∧ hxs n 16 = t.data.toList ++ hxs n j)) (fun _ s4 _ _ => (intOf s4 + 1).toNat)
 case atStart => exact ⟨⟨#[]⟩,15,16,rfl,rfl,by omega,by omega,by decide,rfl,Lib.hid ⟨by omega,by simp⟩⟩
 case round =>
  obtain ⟨t,z,j,rfl,rfl,z1,z2,ts,hwr,HI⟩ := hrel
  obtain rfl : w = wr := hwr.symm
  by_cases hz : 0 ≤ z
  ·obtain ⟨i,hi⟩ : ∃ i : Nat,z = (i : Int) := ⟨z.toNat,by omega⟩
   subst hi
   have hji : j = i + 1 := by have := HI.out.1; omega
   subst hji
   obtain ⟨d,hd⟩ : ∃ d,Hid (n / 16 ^ i % 16 = d) := ⟨_,Lib.hid rfl⟩
   have e1 := nib n i hn
   rw [hd.out] at e1
   have d16 : d < 16 := by rw [← hd.out]; exact Nat.mod_lt _ (by decide)
   obtain ⟨T,hT⟩ : ∃ T,Hid (T = (⟨#[hx d]⟩ : ByteArray)) := ⟨_,Lib.hid rfl⟩
   have eT := hex_slice w d d16
   rw [← hT.out] at eT
   have sT : T.size = 1 := by rw [hT.out]; rfl
   have ts2 : t.size ≤ 15 := by
    have h9 := congrArg List.length HI.out.2
    have hl : ∀ j,(hxs n j).length = j := fun j => by
     induction j with
     | zero => rfl
     | succ j ih => simp [hxs,ih]
    rw [List.length_append,hl,hl,size_list] at h9
    omega
   have HI' : Hid ((i : Int) - 1 = (i : Int) - 1 ∧ hxs n 16 = (t ++ T).data.toList ++ hxs n i) := Lib.hid ⟨rfl,by
    rw [HI.out.2,p_ba_app,hT.out]
    simp [hxs,hd.out]⟩
   have sz : (t ++ T).size ≤ 16 := by rw [ByteArray.size_append]; omega
   clear HI hd hT
   go_wp2_with fail
   exact ⟨⟨t ++ T,(i : Int) - 1,i,rfl,rfl,by omega,by omega,sz,by trivial,HI'⟩,by simp [intOf] <;> omega⟩
  ·have hz' : decide ((0 : Int) ≤ z) = false := by simp; omega
   have hz'' : z < 0 := by omega
   have hj : j = 0 := by have := HI.out.1; omega
   subst hj
   have e : t = ⟨(hxs n 16).toArray⟩ := ba_same (by rw [HI.out.2]; simp [hxs])
   subst e
   clear HI hz ts
   go_wp2_with fail
   go_ret
   exact ⟨rfl,by trivial⟩
end Go.Proofs.YtalaajniammggaaGreatDoor

/- The document's side: Print. -/
namespace Go.Proofs.YtalaajniammggaaGreatDoor
open Go.RowKit
theorem gF_rung (x : Nat) (h : rungOf x < INF) : gF x = gF (rungOf x) ∧ nF x = nF (rungOf x) ∧ XF x = XF (rungOf x) := by
 have e := rung_self h
 have e2 : shortOf x = shortOf (rungOf x) := by unfold shortOf; rw [e]
 refine ⟨?_,?_,?_⟩
 ·unfold gF; rw [e,e2]
 ·unfold nF; rw [e,e2]
 ·unfold XF; rw [e,e2]
theorem num_text (x : Nat) (h : rungOf x < INF) : numL x = (if negOf x then [45] else []) ++ txtL false (gF (rungOf x)) (nF (rungOf x)) (XF (rungOf x)) := by
 obtain ⟨e1,e2,e3⟩ := gF_rung x h
 unfold numL
 rw [if_neg (by omega),e1,e2,e3]
 unfold txtL prefL
 cases negOf x <;> simp
theorem nan_big {x : Nat} (hx : x < 18446744073709551616) (h : INF < rungOf x) : hxs x 16 = hexL x := by
  have hI : INF = 9218868437227405312 := rfl
  have : 9218868437227405312 < x := by
    have : rungOf x ≤ x := Nat.mod_le _ _
    omega
  exact (hexL_hxs 15 x (by have : (16 : Nat) ^ 15 = 1152921504606846976 := by decide
                           omega) (by have : (16 : Nat) ^ (15 + 1) = 18446744073709551616 := by decide
                                      omega)).symm
set_option maxRecDepth 100000 in
set_option maxHeartbeats 1000000 in
theorem rprint_any (b : Int) (w : World) :
  Calls Tryz.prog 55 #[.int .i64 b] w fun e w' => e = .returned (.string ⟨(printL (wd b)).toArray⟩) ∧ Below w.heap.size w w' := by
 have eb := wrap_u64_wd b
 have hx : wd b < 18446744073709551616 := wd_lt b
 have rA := rung_bits (wd b) hx
 have sA := sgn_bits (wd b) hx
 have hI : INF = 9218868437227405312 := rfl
 have hH := fun W => hex_any' (wd b) hx W
 have hT := fun (h : rungOf (wd b) < INF) W => text_any (rungOf (wd b)) h W
 have hnan := fun (h : INF < rungOf (wd b)) => nan_big hx h
 have hnum := fun (h : rungOf (wd b) < INF) => num_text (wd b) h
 have hlen := print_len (wd b) hx
 obtain ⟨T,hTT⟩ : ∃ T,Hid (T = (⟨(printL (wd b)).toArray⟩ : ByteArray)) := ⟨_,Lib.hid rfl⟩
 have HTL : Hid (T.data.toList = printL (wd b)) := Lib.hid (by rw [hTT.out])
 rw [← hTT.out]
 clear hTT
 have hpn : INF < rungOf (wd b) → T.data.toList = [110,97,110,58] ++ hxs (wd b) 16 := fun h => by rw [HTL.out]; unfold printL; rw [if_pos h,hnan h]
 have hpi : rungOf (wd b) = INF → T.data.toList = (if negOf (wd b) then [45] else []) ++ [105,110,102] := fun h => by
  rw [HTL.out]; unfold printL numL; rw [if_neg (by omega),if_pos h]; cases negOf (wd b) <;> rfl
 have hpf : rungOf (wd b) < INF → T.data.toList = (if negOf (wd b) then [45] else []) ++ txtL false (gF (rungOf (wd b))) (nF (rungOf (wd b))) (XF (rungOf (wd b))) := fun h => by
  rw [HTL.out]; unfold printL; rw [if_neg (by omega)]; exact hnum h
 have HPN := Lib.hid hpn
 have HPI := Lib.hid hpi
 have HPF := Lib.hid hpf
 have zT : T.size ≤ 25 := by rw [← size_list,HTL.out]; exact hlen
 clear hpn hpi hpf hnan hnum hlen HTL
 generalize negOf (wd b) = ng at *
 generalize rungOf (wd b) = r at *
 generalize wd b = x at *
 have es : sgn ng = (if ng then 9223372036854775808 else 0) := by cases ng <;> rfl
 go_enter Tryz.func55,Tryz.ntmps55
 go_upto_region 4 with fail
 go_cut [16] from 10 to 15 (fun s16 wy => ∃ c : Bool,s16 = .bool c ∧ wy = w ∧ Hid (c = (ng && decide (r ≤ INF))))
 case first =>
  cases ng with
  | false =>
   have sA' : bits .and .u64 (x : Int) 9223372036854775808 = 0 := by rw [sA]; rfl
   clear sA es
   go_wp2_with fail
   go_meet
   exact ⟨false,rfl,by trivial,Lib.hid rfl⟩
  | true =>
   have sA' : bits .and .u64 (x : Int) 9223372036854775808 = 9223372036854775808 := by rw [sA]; rfl
   clear sA es
   by_cases h : r ≤ INF
   ·have h' : (r : Int) ≤ 9218868437227405312 := by omega
    go_wp2_with fail
    go_meet
    exact ⟨true,rfl,by trivial,Lib.hid (by simp [h])⟩
   ·have h' : decide ((r : Int) ≤ 9218868437227405312) = false := by simp; omega
    have h'' : (9218868437227405312 : Int) < (r : Int) := by omega
    go_wp2_with fail
    go_meet
    exact ⟨false,rfl,by trivial,Lib.hid (by simp [h])⟩
 case rest =>
  obtain ⟨c,rfl,hwc,HC⟩ := hcut
  obtain rfl : w = wc := hwc.symm
  clear sA es
  go_upto_if 16 with fail
  go_cut [5,16] from 16 to 16 (fun s5 _ wy => ∃ p : ByteArray,s5 = .string p ∧ p.size ≤ 1 ∧ wy = w ∧ Hid (r ≤ INF → p.data.toList = if ng then [45] else []))
  case first =>
   cases c with
   | true =>
    go_wp2_with fail
    go_meet
    refine ⟨⟨#[45]⟩,rfl,by decide,by trivial,Lib.hid (fun h => ?_)⟩
    have := HC.out
    cases ng
    ·simp at this
    ·rfl
   | false =>
    go_wp2_with fail
    go_meet
    refine ⟨⟨#[]⟩,rfl,by decide,by trivial,Lib.hid (fun h => ?_)⟩
    have := HC.out
    cases ng
    ·rfl
    ·simp [h] at this
  case rest =>
   obtain ⟨p,rfl,hp,hwc,HP⟩ := hcut
   obtain rfl : w = wc := hwc.symm
   clear HC
   rcases Nat.lt_trichotomy r INF with h | h | h
   ·have h1 : decide ((9218868437227405312 : Int) < (r : Int)) = false := by simp; omega
    have h1' : (r : Int) ≤ 9218868437227405312 := by omega
    have h2 : ((r : Int) == 9218868437227405312) = false := by rw [beq_eq_false_iff_ne]; omega
    have hT := hT h w
    obtain ⟨s,hs⟩ : ∃ s : ByteArray,Hid (s = ⟨(txtL false (gF r) (nF r) (XF r)).toArray⟩) := ⟨_,Lib.hid rfl⟩
    have eT : p ++ s = T := ba_same (by rw [p_ba_app,HP.out (by omega),HPF.out h,hs.out])
    have zs : s.size ≤ 25 := by
     have := congrArg ByteArray.size eT
     rw [ByteArray.size_append] at this
     omega
    rw [← hs.out] at hT
    clear hs HPN HPI HPF HP hH
    go_wp2_with fail
    refine hT.mono ?_
    rintro e w1 ⟨rfl,b1⟩
    go_wp2_with fail
    go_ret
    exact ⟨rfl,b1⟩
   ·have h1 : decide ((9218868437227405312 : Int) < (r : Int)) = false := by simp; omega
    have h1' : (r : Int) ≤ 9218868437227405312 := by omega
    have h2 : ((r : Int) == 9218868437227405312) = true := by rw [beq_iff_eq]; omega
    have eT : p ++ ⟨#[105,110,102]⟩ = T := ba_same (by rw [p_ba_app,HP.out (by omega),HPI.out h])
    clear HPN HPI HPF HP hH hT h
    go_wp2_with fail
    go_ret
    exact ⟨rfl,Below.refl _ _⟩
   ·have h1 : (9218868437227405312 : Int) < (r : Int) := by omega
    have hH := hH w
    obtain ⟨s,hs⟩ : ∃ s : ByteArray,Hid (s = ⟨(hxs x 16).toArray⟩) := ⟨_,Lib.hid rfl⟩
    have eT : ⟨#[110,97,110,58]⟩ ++ s = T := ba_same (by rw [p_ba_app,HPN.out h,hs.out])
    have zs : s.size ≤ 25 := by
     have := congrArg ByteArray.size eT
     rw [ByteArray.size_append] at this
     omega
    rw [← hs.out] at hH
    clear hs HPN HPI HPF HP hT
    go_wp2_with fail
    refine hH.mono ?_
    rintro e w1 ⟨rfl,rfl⟩
    go_wp2_with fail
    go_ret
    exact ⟨rfl,Below.refl _ _⟩
end Go.Proofs.YtalaajniammggaaGreatDoor
