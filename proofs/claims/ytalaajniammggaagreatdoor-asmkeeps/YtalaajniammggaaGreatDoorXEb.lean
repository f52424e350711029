/- readFloat: what it makes of any text. -/
import Derived.Test.YtalaajniammggaaGreatDoorXDe
import Derived.Test.YtalaajniammggaaGreatDoorXEa
namespace Go.Proofs.YtalaajniammggaaGreatDoor
open Go.RowKit
def OutV (o : Out) (z : Nat) (v : Value) : Prop :=
 match o with
 | .bad => ∃ (m : Nat) (x : Int) (neg tr hx : Bool) (n : Nat),n ≤ z ∧ v = .tuple #[.int .u64 m,.int .i64 x,.bool neg,.bool tr,.bool hx,.int .i64 n,.bool false]
 | .good m x neg tr hx n => v = .tuple #[.int .u64 m,.int .i64 x,.bool neg,.bool tr,.bool hx,.int .i64 n,.bool true] ∧ m < 18446744073709551616 ∧ (hx = false → m < 10000000000000000000) ∧ -1152921504606846976 ≤ x ∧ x ≤ 1152921504606846976 ∧ n ≤ z
def RfV (R : Bool → Out) (z : Nat) (v : Value) : Prop := ∃ u,OutV (R u) z v
theorem rf_bad {R : Bool → Out} {z : Nat} (h : ∀ u,R u = .bad) (m : Nat) (x : Int) (neg tr hx : Bool) (n : Nat) (hn : n ≤ z) : RfV R z (.tuple #[.int .u64 m,.int .i64 x,.bool neg,.bool tr,.bool hx,.int .i64 n,.bool false]) :=
 ⟨true,by rw [h true]; exact ⟨m,x,neg,tr,hx,n,hn,rfl⟩⟩
set_option maxRecDepth 100000 in
set_option maxHeartbeats 8000000 in
theorem readFloat_any (s : ByteArray) (hs : s.size ≤ 140737488355328) (hU : ∀ (t : ByteArray) (w : World),t.size ≤ 140737488355328 → Calls Tryz.prog 136 #[.string t] w fun e w' => ∃ v,e = .returned v ∧ IsB v ∧ w' = w) (w : World) :
    Calls Tryz.prog 177 #[.string s] w fun e w' => ∃ v,e = .returned v ∧ RfV (fun u => readL u s.data.toList) s.size v ∧ w' = w := by
  have hlow := lower_any
  obtain ⟨R,hR⟩ : ∃ R : Bool → Out,Hid ((fun u => readL u s.data.toList) = R) := ⟨_,Lib.hid rfl⟩
  rw [hR.out]
  have HR : Hid (∀ u,R u = readL u s.data.toList) := Lib.hid (fun u => by rw [← hR.out])
  clear hR
  go_enter Tryz.func177,Tryz.ntmps177
  go_wp2
  go_step3
  by_cases h0 : s.size = 0
  · have hE : s = ByteArray.empty := ByteArray.size_eq_zero_iff.1 h0
    have d0 : decide (s = ByteArray.empty) = true := decide_eq_true hE
    have h0' : (s.size : Int) ≤ 0 := by omega
    have HB : Hid (∀ u,R u = .bad) := Lib.hid (fun u => by rw [HR.out u]; exact r_bad h0)
    clear h0 hE HR
    go_wp2_with fail
    try rw [Exit.noGoto_ret]
    refine bodyPost_ret (v := .tuple #[.int .u64 (0 : Nat),.int .i64 0,.bool false,.bool false,.bool false,.int .i64 (0 : Nat),.bool false]) (by simp [results,Tryz.results177,go_sem]) rfl ?_
    exact ⟨_,rfl,rf_bad HB.out 0 0 false false false 0 (by omega),rfl⟩
  · have hE : ¬ s = ByteArray.empty := fun e => h0 (by rw [e]; rfl)
    have d0 : decide (s = ByteArray.empty) = false := decide_eq_false hE
    have d0' : (0 : Int) < (s.size : Int) := by omega
    have hs0 : 0 < s.size := by omega
    go_upto_block 0 with fail
    go_cut [4,7] from 28 to 35 (fun s4 s7 wy => ∃ (i : Nat) (neg : Bool),s4 = .bool neg ∧ s7 = .int .i64 i ∧ i ≤ 1 ∧ wy = w ∧ Hid (∀ u,R u = hxL u neg s.data.toList i))
    case first =>
      obtain ⟨c,hc⟩ : ∃ c,s[0] = c := ⟨_,rfl⟩
      have c255 : c.toNat < 256 := c.toNat_lt
      have hr := fun u => r_at (u := u) hs0 hc
      by_cases a1 : c.toNat = 43
      · have a1' : ((c.toNat : Int) == 43) = true := by rw [beq_iff_eq]; omega
        have H' : Hid (∀ u,R u = hxL u false s.data.toList 1) := Lib.hid (fun u => by rw [HR.out u,hr u,if_pos a1])
        clear a1 HR hr
        go_wp2_with fail
        go_meet
        exact ⟨1,false,rfl,rfl,by omega,rfl,H'⟩
      · have a1' : ((c.toNat : Int) == 43) = false := by rw [beq_eq_false_iff_ne]; omega
        by_cases a2 : c.toNat = 45
        · have a2' : ((c.toNat : Int) == 45) = true := by rw [beq_iff_eq]; omega
          have H' : Hid (∀ u,R u = hxL u true s.data.toList 1) := Lib.hid (fun u => by rw [HR.out u,hr u,if_neg a1,if_pos a2])
          clear a2 HR hr
          go_wp2_with fail
          go_meet
          exact ⟨1,true,rfl,rfl,by omega,rfl,H'⟩
        · have a2' : ((c.toNat : Int) == 45) = false := by rw [beq_eq_false_iff_ne]; omega
          have H' : Hid (∀ u,R u = hxL u false s.data.toList 0) := Lib.hid (fun u => by rw [HR.out u,hr u,if_neg a1,if_neg a2])
          clear HR hr
          go_wp2_with fail
          go_meet
          exact ⟨0,false,rfl,rfl,by omega,rfl,H'⟩
    case rest =>
      clear HR
      obtain ⟨i0,neg,rfl,rfl,hi0,hwc,HR⟩ := hcut
      obtain rfl : w = wc := hwc.symm
      go_upto_region 12 with fail
      go_cut [54] from 36 to 53 (fun s54 wy => ∃ hx : Bool,s54 = .bool hx ∧ wy = w ∧ Hid (hx = true → i0 + 2 < s.size) ∧ Hid (∀ u,R u = loopL u neg hx s.data.toList (s.data.toList.drop (if hx then i0 + 2 else i0)) (if hx then i0 + 2 else i0) s0))
      case first =>
        obtain ⟨j2,hj2⟩ : ∃ j,Hid (i0 + 2 = j) := ⟨_,Lib.hid rfl⟩
        have ej2 : (i0 : Int) + 2 = (j2 : Int) := by have := hj2.out; omega
        by_cases h2 : j2 < s.size
        · have h2' : (j2 : Int) < (s.size : Int) := by omega
          have hi : i0 < s.size := by have := hj2.out; omega
          have hi' : (i0 : Int) < (s.size : Int) := by omega
          have hiL : i0 + 2 < s.size := by have := hj2.out; omega
          obtain ⟨j1,hj1⟩ : ∃ j,Hid (i0 + 1 = j) := ⟨_,Lib.hid rfl⟩
          have ej1 : (i0 : Int) + 1 = (j1 : Int) := by have := hj1.out; omega
          have hj : j1 < s.size := by have := hj2.out; have := hj1.out; omega
          have hjI : (j1 : Int) < (s.size : Int) := by omega
          obtain ⟨c,hc⟩ : ∃ c,s[i0] = c := ⟨_,rfl⟩
          have c255 : c.toNat < 256 := c.toNat_lt
          by_cases a1 : c.toNat = 48
          · have a1' : ((c.toNat : Int) == 48) = true := by rw [beq_iff_eq]; omega
            obtain ⟨d,hd⟩ : ∃ c,s[j1] = c := ⟨_,rfl⟩
            have d255 : d.toNat < 256 := d.toNat_lt
            have hl := hlow d.toNat d255
            have hd' : Hid (∃ hj : i0 + 1 < s.size,s[i0 + 1] = d) := Lib.hid (by have := hj1.out; subst this; exact ⟨hj,hd⟩)
            obtain ⟨x,hx⟩ : ∃ x,Hid (d.toNat ||| 32 = x) := ⟨_,Lib.hid rfl⟩
            rw [hx.out] at hl
            by_cases a2 : x = 120
            · have a2' : ((x : Int) == 120) = true := by rw [beq_iff_eq]; omega
              have H' : Hid (∀ u,R u = loopL u neg true s.data.toList (s.data.toList.drop (i0 + 2)) (i0 + 2) s0) := Lib.hid (fun u => by
                obtain ⟨k1,k2⟩ := hd'.out
                rw [HR.out u,h_yes hiL hi hc k1 k2 a1 (by rw [hx.out,a2])])
              clear a1 a2 HR
              go_wp2_with fail
              refine (hl _).mono ?_
              rintro e w' ⟨rfl,rfl⟩
              go_wp2_with fail
              go_meet
              exact ⟨true,rfl,rfl,Lib.hid (fun _ => hiL),H'⟩
            · have a2' : ((x : Int) == 120) = false := by rw [beq_eq_false_iff_ne]; omega
              have H' : Hid (∀ u,R u = loopL u neg false s.data.toList (s.data.toList.drop i0) i0 s0) := Lib.hid (fun u => by
                obtain ⟨k1,k2⟩ := hd'.out
                rw [HR.out u,h_no3 k1 k2 (by rw [hx.out]; exact a2)])
              clear a1 HR
              go_wp2_with fail
              refine (hl _).mono ?_
              rintro e w' ⟨rfl,rfl⟩
              go_wp2_with fail
              go_meet
              exact ⟨false,rfl,rfl,Lib.hid (fun _ => hiL),H'⟩
          · have a1' : ((c.toNat : Int) == 48) = false := by rw [beq_eq_false_iff_ne]; omega
            have H' : Hid (∀ u,R u = loopL u neg false s.data.toList (s.data.toList.drop i0) i0 s0) := Lib.hid (fun u => by rw [HR.out u,h_no2 hi hc a1])
            clear HR
            go_wp2_with fail
            go_meet
            exact ⟨false,rfl,rfl,Lib.hid (fun _ => hiL),H'⟩
        · have h2' : decide ((j2 : Int) < (s.size : Int)) = false := by simp; omega
          have h2n : s.size ≤ j2 := by omega
          have H' : Hid (∀ u,R u = loopL u neg false s.data.toList (s.data.toList.drop i0) i0 s0) := Lib.hid (fun u => by rw [HR.out u,h_no1 (by have := hj2.out; omega)])
          clear HR
          go_wp2_with fail
          go_meet
          exact ⟨false,rfl,rfl,Lib.hid (fun h => absurd h (by decide)),H'⟩
      case rest =>
        clear HR
        obtain ⟨hx,rfl,hwc,HB,HR⟩ := hcut
        obtain rfl : w = wc := hwc.symm
        go_upto_if 54 with fail
        go_cut [6,7,10,11,12,54] from 55 to 56 (fun s6 s7 s10 s11 s12 _ wy => ∃ (i bs mx ec : Nat),s6 = .bool hx ∧ s7 = .int .i64 i ∧ s10 = .int .u64 bs ∧ s11 = .int .i64 mx ∧ s12 = .int .u8 ec ∧ i ≤ s.size ∧ bs ≤ 16 ∧ mx ≤ 19 ∧ ec < 256 ∧ wy = w ∧ Hid (bs = bsX hx ∧ mx = mxX hx ∧ ec = ecX hx) ∧ Hid (∀ u,R u = loopL u neg hx s.data.toList (s.data.toList.drop i) i s0))
        case first =>
          cases hx with
          | true =>
            have hb := HB.out rfl
            obtain ⟨j2,hj2⟩ : ∃ j,Hid (i0 + 2 = j) := ⟨_,Lib.hid rfl⟩
            have ej2 : (i0 : Int) + 2 = (j2 : Int) := by have := hj2.out; omega
            have hj3 : j2 ≤ s.size := by have := hj2.out; omega
            have H' : Hid (∀ u,R u = loopL u neg true s.data.toList (s.data.toList.drop j2) j2 s0) := Lib.hid (fun u => by rw [HR.out u,← hj2.out]; rfl)
            clear HR HB hb
            go_wp2_with fail
            go_meet
            exact ⟨j2,16,16,112,rfl,rfl,rfl,rfl,rfl,hj3,by omega,by omega,by omega,rfl,Lib.hid ⟨rfl,rfl,rfl⟩,H'⟩
          | false =>
            have H' : Hid (∀ u,R u = loopL u neg false s.data.toList (s.data.toList.drop i0) i0 s0) := Lib.hid (fun u => by rw [HR.out u]; rfl)
            clear HR HB
            go_wp2_with fail
            go_meet
            exact ⟨i0,10,19,101,rfl,rfl,rfl,rfl,rfl,by omega,by omega,by omega,by omega,rfl,Lib.hid ⟨rfl,rfl,rfl⟩,H'⟩
        case rest =>
          clear HR HB hi0
          obtain ⟨i1,bs,mx,ec,rfl,rfl,rfl,rfl,rfl,hi1,hbs,hmx,hec,hwc,HC,HR⟩ := hcut
          obtain rfl : w = wc := hwc.symm
          go_wp2_with fail
          go_step3
          go_upto_block 1 with fail
          go_cut [2,5,7,9,13,14,15,16,17,18] from 57 to 138 (fun s2 s5 s7 s9 s13 s14 s15 s16 s17 _ wy => ∃ (m nd nm i : Nat) (dp : Int) (sd sg tr us : Bool),s2 = .int .u64 m ∧ s5 = .bool tr ∧ s7 = .int .i64 i ∧ s9 = .bool us ∧ s13 = .bool sd ∧ s14 = .bool sg ∧ s15 = .int .i64 nd ∧ s16 = .int .i64 nm ∧ s17 = .int .i64 dp ∧ i ≤ s.size ∧ nm ≤ 19 ∧ nd ≤ i ∧ -(i : Int) ≤ dp ∧ dp ≤ (i : Int) ∧ m < 18446744073709551616 ∧ wy = w ∧ Hid (m < bs ^ nm ∧ nm ≤ mx) ∧ Hid (∀ u,R u = midL u neg hx s.data.toList i ⟨m,nd,nm,dp,sd,sg,tr,us⟩))
          case first =>
            --LOOPBEGIN
            go_wp2_with fail
            go_loopw [2,5,7,9,13,14,15,16,17,18] (fun s2 s5 s7 s9 s13 s14 s15 s16 s17 _ wr => ∃ (m nd nm i : Nat) (dp : Int) (sd sg tr us : Bool),s2 = .int .u64 m ∧ s5 = .bool tr ∧ s7 = .int .i64 i ∧ s9 = .bool us ∧ s13 = .bool sd ∧ s14 = .bool sg ∧ s15 = .int .i64 nd ∧ s16 = .int .i64 nm ∧ s17 = .int .i64 dp ∧ i ≤ s.size ∧ nm ≤ 19 ∧ nd ≤ i ∧ -(i : Int) ≤ dp ∧ dp ≤ (i : Int) ∧ m < 18446744073709551616 ∧ wr = w ∧ Hid (m < bs ^ nm ∧ nm ≤ mx) ∧ Hid (∀ u,R u = loopL u neg hx s.data.toList (s.data.toList.drop i) i ⟨m,nd,nm,dp,sd,sg,tr,us⟩)) (fun _ _ s7 _ _ _ _ _ _ _ _ => s.size - (intOf s7).toNat)
            case atStart => exact ⟨0,0,0,i1,0,false,false,false,false,rfl,rfl,rfl,rfl,rfl,rfl,rfl,rfl,rfl,hi1,by omega,by omega,by omega,by omega,by omega,rfl,Lib.hid ⟨by simp,by omega⟩,HR⟩
            case round =>
              clear HR hi1
              obtain ⟨m,nd,nm,i,dp,sd,sg,tr,us,rfl,rfl,rfl,rfl,rfl,rfl,rfl,rfl,rfl,hi,hnm,hnd,hd1,hd2,hm64,hwr,HM,HR⟩ := hrel
              obtain rfl : w = wr := hwr.symm
              by_cases his : i < s.size
              · have his' : (i : Int) < (s.size : Int) := by omega
                obtain ⟨c,hc⟩ : ∃ c,s[i] = c := ⟨_,rfl⟩
                have c255 : c.toNat < 256 := c.toNat_lt
                by_cases a1 : c.toNat = 95
                · have a1' : ((c.toNat : Int) == 95) = true := by rw [beq_iff_eq]; omega
                  have H' := Lib.hid (loop_go his hc HR.out (st_us hx a1))
                  clear a1 HR
                  go_wp2_with fail
                  exact ⟨⟨m,nd,nm,i + 1,dp,sd,sg,tr,true,rfl,rfl,rfl,rfl,rfl,rfl,rfl,rfl,rfl,his,hnm,by omega,by omega,by omega,hm64,trivial,HM,H'⟩,by simp [intOf] <;> omega⟩
                · have a1' : ((c.toNat : Int) == 95) = false := by rw [beq_eq_false_iff_ne]; omega
                  by_cases a2 : c.toNat = 46
                  · have a2' : ((c.toNat : Int) == 46) = true := by rw [beq_iff_eq]; omega
                    cases sd with
                    | true =>
                      have H' := Lib.hid (loop_no his hc HR.out (st_dotno hx a2))
                      clear a2 HR
                      go_wp2_with fail
                      go_meet
                      exact ⟨m,nd,nm,i,dp,true,sg,tr,us,rfl,rfl,rfl,rfl,rfl,rfl,rfl,rfl,rfl,hi,hnm,hnd,hd1,hd2,hm64,rfl,HM,H'⟩
                    | false =>
                      have H' := Lib.hid (loop_go his hc HR.out (st_dot hx a2))
                      clear a2 HR
                      go_wp2_with fail
                      exact ⟨⟨m,nd,nm,i + 1,_,true,sg,tr,us,rfl,rfl,rfl,rfl,rfl,rfl,rfl,rfl,rfl,his,hnm,by omega,by omega,by omega,hm64,trivial,HM,H'⟩,by simp [intOf] <;> omega⟩
                  · have a2' : ((c.toNat : Int) == 46) = false := by rw [beq_eq_false_iff_ne]; omega
                    by_cases a3 : 48 ≤ c.toNat ∧ c.toNat ≤ 57
                    · have a3' : (48 : Int) ≤ (c.toNat : Int) := by omega
                      have a4' : (c.toNat : Int) ≤ 57 := by omega
                      by_cases a5 : c.toNat = 48 ∧ nd = 0
                      · have a5' : ((c.toNat : Int) == 48) = true := by rw [beq_iff_eq]; omega
                        have a6' : ((nd : Int) == 0) = true := by rw [beq_iff_eq]; omega
                        have H' := Lib.hid (loop_go his hc HR.out (st_zero hx a5.1 a5.2))
                        clear a5 HR a3
                        go_wp2_with fail
                        exact ⟨⟨m,nd,nm,i + 1,_,sd,true,tr,us,rfl,rfl,rfl,rfl,rfl,rfl,rfl,rfl,rfl,his,hnm,by omega,by omega,by omega,hm64,trivial,HM,H'⟩,by simp [intOf] <;> omega⟩
                      · go_upto_region 34 with fail
                        go_cut [89] from 84 to 88 (fun s89 wy => s89 = .bool false ∧ wy = w)
                        case first =>
                          by_cases a8 : c.toNat = 48
                          · have a8' : ((c.toNat : Int) == 48) = true := by rw [beq_iff_eq]; omega
                            have a9' : ((nd : Int) == 0) = false := by rw [beq_eq_false_iff_ne]; omega
                            clear a8
                            go_wp2_with fail
                            go_meet
                            exact ⟨rfl,rfl⟩
                          · have a8' : ((c.toNat : Int) == 48) = false := by rw [beq_eq_false_iff_ne]; omega
                            go_wp2_with fail
                            go_meet
                            exact ⟨rfl,rfl⟩
                        case rest =>
                          obtain ⟨rfl,hwc⟩ := hcut
                          obtain rfl : w = wc := hwc.symm
                          by_cases a7 : nm < mx
                          · have a7' : (nm : Int) < (mx : Int) := by omega
                            obtain ⟨p,hp⟩ : ∃ p,Hid (m * bs = p) := ⟨_,Lib.hid rfl⟩
                            have HS : Hid (p + (c.toNat - 48) < bs ^ (nm + 1) ∧ nm + 1 ≤ mx ∧ p + (c.toNat - 48) < 18446744073709551616) := Lib.hid (by
                              obtain ⟨q1,q2,q3⟩ := HC.out
                              rw [← hp.out]
                              have hd : c.toNat - 48 < bsX hx := by cases hx <;> simp [bsX] <;> omega
                              have := mant_step (by rw [← q1]; exact HM.out.1) (by rw [← q2]; exact a7) hd
                              rw [← q1] at this
                              exact ⟨this.1,a7,this.2⟩)
                            have H' := Lib.hid (loop_go his hc HR.out (st_dig hx a3.1 a3.2 a5 (by rw [← HC.out.2.1]; exact a7)))
                            rw [← HC.out.1,hp.out] at H'
                            obtain ⟨q,hq⟩ : ∃ q,Hid (p + (c.toNat - 48) = q) := ⟨_,Lib.hid rfl⟩
                            rw [hq.out] at HS H'
                            have ep : (m : Int) * (bs : Int) = (p : Int) := by rw [← hp.out]; push_cast; rfl
                            have q64 : q < 18446744073709551616 := HS.out.2.2
                            have p64 : p < 18446744073709551616 := by have := hq.out; omega
                            have eq : (p : Int) + ((c.toNat : Int) - 48) = (q : Int) := by have := hq.out; omega
                            have HM' : Hid (q < bs ^ (nm + 1) ∧ nm + 1 ≤ mx) := Lib.hid ⟨HS.out.1,HS.out.2.1⟩
                            clear a5 a3 HR HM HS hp hq
                            go_wp2_with fail
                            exact ⟨⟨q,nd + 1,nm + 1,i + 1,dp,sd,true,tr,us,rfl,rfl,rfl,rfl,rfl,rfl,rfl,rfl,rfl,his,by omega,by omega,by omega,by omega,q64,trivial,HM',H'⟩,by simp [intOf] <;> omega⟩
                          · have a7' : decide ((nm : Int) < (mx : Int)) = false := by simp; omega
                            have a7'' : (mx : Int) ≤ (nm : Int) := by omega
                            have a7n : ¬ nm < mxX hx := by rw [← HC.out.2.1]; exact a7
                            by_cases a8 : c.toNat = 48
                            · have a8' : ((c.toNat : Int) == 48) = true := by rw [beq_iff_eq]; omega
                              have H' := Lib.hid (loop_go his hc HR.out (st_full0 hx a8 (fun h => a5 ⟨a8,h⟩) a7n))
                              clear a8 a5 a3 HR a7n
                              go_wp2_with fail
                              exact ⟨⟨m,nd + 1,nm,i + 1,dp,sd,true,tr,us,rfl,rfl,rfl,rfl,rfl,rfl,rfl,rfl,rfl,his,by omega,by omega,by omega,by omega,hm64,trivial,HM,H'⟩,by simp [intOf] <;> omega⟩
                            · have a8' : ((c.toNat : Int) == 48) = false := by rw [beq_eq_false_iff_ne]; omega
                              have H' := Lib.hid (loop_go his hc HR.out (st_full1 hx a3.1 a3.2 a8 a7n))
                              clear a8 a5 a3 HR a7n
                              go_wp2_with fail
                              exact ⟨⟨m,nd + 1,nm,i + 1,dp,sd,true,true,us,rfl,rfl,rfl,rfl,rfl,rfl,rfl,rfl,rfl,his,by omega,by omega,by omega,by omega,hm64,trivial,HM,H'⟩,by simp [intOf] <;> omega⟩
                    · go_upto_region 32 with fail
                      go_cut [76] from 77 to 83 (fun s76 wy => s76 = .bool false ∧ wy = w)
                      case first =>
                        by_cases a4 : 48 ≤ c.toNat
                        · have a4' : (48 : Int) ≤ (c.toNat : Int) := by omega
                          have a5' : decide ((c.toNat : Int) ≤ 57) = false := by simp; omega
                          have a5'' : (57 : Int) < (c.toNat : Int) := by omega
                          go_wp2_with fail
                          go_meet
                          exact ⟨rfl,rfl⟩
                        · have a4' : decide ((48 : Int) ≤ (c.toNat : Int)) = false := by simp; omega
                          have a4'' : (c.toNat : Int) < 48 := by omega
                          go_wp2_with fail
                          go_meet
                          exact ⟨rfl,rfl⟩
                      case rest =>
                        obtain ⟨rfl,hwc⟩ := hcut
                        obtain rfl : w = wc := hwc.symm
                        have hl := hlow c.toNat c255
                        obtain ⟨x,hx2⟩ : ∃ x,Hid (c.toNat ||| 32 = x) := ⟨_,Lib.hid rfl⟩
                        rw [hx2.out] at hl
                        have x255 : x < 256 := by rw [← hx2.out]; exact Nat.or_lt_two_pow (n := 8) c255 (by decide)
                        go_upto_region 43 with fail
                        go_cut [109] from 110 to 122 (fun s109 wy => ∃ b : Bool,s109 = .bool b ∧ wy = w ∧ Hid (b = true → hx = true ∧ 97 ≤ x ∧ x ≤ 102) ∧ Hid (b = false → ¬ (hx = true ∧ 97 ≤ x ∧ x ≤ 102)))
                        case first =>
                          cases hx with
                          | false =>
                            have b1 : ((bs : Int) == 16) = false := by rw [HC.out.1]; rfl
                            go_wp2_with fail
                            go_meet
                            exact ⟨false,rfl,by trivial,Lib.hid (fun h => absurd h (by decide)),Lib.hid (fun _ h => absurd h.1 (by decide))⟩
                          | true =>
                            have b1 : ((bs : Int) == 16) = true := by rw [HC.out.1]; rfl
                            by_cases a4 : 97 ≤ x
                            · have a4' : (97 : Int) ≤ (x : Int) := by omega
                              by_cases a5 : x ≤ 102
                              · have a5' : (x : Int) ≤ 102 := by omega
                                go_wp2_with fail
                                refine (hl _).mono ?_
                                rintro e w' ⟨rfl,rfl⟩
                                go_wp2_with fail
                                refine (hl _).mono ?_
                                rintro e w' ⟨rfl,rfl⟩
                                go_wp2_with fail
                                go_meet
                                exact ⟨true,rfl,by trivial,Lib.hid (fun _ => ⟨by trivial,a4,a5⟩),Lib.hid (fun h => absurd h (by decide))⟩
                              · have a5' : decide ((x : Int) ≤ 102) = false := by simp; omega
                                have a5'' : (102 : Int) < (x : Int) := by omega
                                go_wp2_with fail
                                refine (hl _).mono ?_
                                rintro e w' ⟨rfl,rfl⟩
                                go_wp2_with fail
                                refine (hl _).mono ?_
                                rintro e w' ⟨rfl,rfl⟩
                                go_wp2_with fail
                                go_meet
                                exact ⟨false,rfl,by trivial,Lib.hid (fun h => absurd h (by decide)),Lib.hid (fun _ h => a5 (by simp at h; omega))⟩
                            · have a4' : decide ((97 : Int) ≤ (x : Int)) = false := by simp; omega
                              have a4'' : (x : Int) < 97 := by omega
                              go_wp2_with fail
                              refine (hl _).mono ?_
                              rintro e w' ⟨rfl,rfl⟩
                              go_wp2_with fail
                              go_meet
                              exact ⟨false,rfl,by trivial,Lib.hid (fun h => absurd h (by decide)),Lib.hid (fun _ h => a4 (by simp at h; omega))⟩
                        case rest =>
                          obtain ⟨b,rfl,hwc,HB1,HB2⟩ := hcut
                          obtain rfl : w = wc := hwc.symm
                          cases b with
                          | false =>
                            have H' := Lib.hid (loop_no his hc HR.out (st_no hx a1 a2 a3 (by rw [hx2.out]; exact HB2.out rfl)))
                            clear HB1 HB2 HR a1 a2 a3
                            go_wp2_with fail
                            go_meet
                            exact ⟨m,nd,nm,i,dp,sd,sg,tr,us,rfl,rfl,rfl,rfl,rfl,rfl,rfl,rfl,rfl,hi,hnm,hnd,hd1,hd2,hm64,rfl,HM,H'⟩
                          | true =>
                            obtain ⟨hxe,x97,x102⟩ := HB1.out rfl
                            subst hxe
                            have x97' : (97 : Int) ≤ (x : Int) := by omega
                            have x102' : (x : Int) ≤ 102 := by omega
                            clear HB1 HB2
                            by_cases a7 : nm < mx
                            · have a7' : (nm : Int) < (mx : Int) := by omega
                              obtain ⟨q,hq⟩ : ∃ q,Hid (m * 16 + (x - 97 + 10) = q) := ⟨_,Lib.hid rfl⟩
                              have H' := Lib.hid (loop_go his hc HR.out (st_hex hx2.out a1 a2 a3 x97 x102 (by rw [← HC.out.2.1]; exact a7)))
                              have HS : Hid (q < bs ^ (nm + 1) ∧ nm + 1 ≤ mx ∧ q < 18446744073709551616) := Lib.hid (by
                                obtain ⟨q1,q2,q3⟩ := HC.out
                                rw [← hq.out]
                                have := mant_step (hx := true) (d := x - 97 + 10) (by rw [← q1]; exact HM.out.1) (by rw [← q2]; exact a7) (by show _ < 16; omega)
                                rw [q1]
                                exact ⟨this.1,a7,this.2⟩)
                              have e16 : m * bsX true + (x - 97 + 10) = q := hq.out
                              rw [e16] at H'
                              have q64 : q < 18446744073709551616 := HS.out.2.2
                              have m60 : m * 16 < 18446744073709551616 := by have := hq.out; omega
                              have eq : (m : Int) * 16 + ((x : Int) - 97 + 10) = (q : Int) := by have := hq.out; omega
                              have HM' : Hid (q < bs ^ (nm + 1) ∧ nm + 1 ≤ mx) := Lib.hid ⟨HS.out.1,HS.out.2.1⟩
                              clear a1 a2 a3 HR HM HS hq e16
                              go_wp2_with fail
                              refine (hl _).mono ?_
                              rintro e w' ⟨rfl,rfl⟩
                              go_wp2_with fail
                              exact ⟨⟨q,nd + 1,nm + 1,i + 1,dp,sd,true,tr,us,rfl,rfl,rfl,rfl,rfl,rfl,rfl,rfl,rfl,his,by omega,by omega,by omega,by omega,q64,trivial,HM',H'⟩,by simp [intOf] <;> omega⟩
                            · have a7' : decide ((nm : Int) < (mx : Int)) = false := by simp; omega
                              have a7'' : (mx : Int) ≤ (nm : Int) := by omega
                              have H' := Lib.hid (loop_go his hc HR.out (st_hexfull hx2.out a1 a2 a3 x97 x102 (by rw [← HC.out.2.1]; exact a7)))
                              clear a1 a2 a3 HR
                              go_wp2_with fail
                              exact ⟨⟨m,nd + 1,nm,i + 1,dp,sd,true,true,us,rfl,rfl,rfl,rfl,rfl,rfl,rfl,rfl,rfl,his,by omega,by omega,by omega,by omega,hm64,trivial,HM,H'⟩,by simp [intOf] <;> omega⟩
              · have his' : decide ((i : Int) < (s.size : Int)) = false := by simp; omega
                have his2 : s.size ≤ i := by omega
                have H' := Lib.hid (loop_end his2 HR.out)
                clear HR
                go_wp2_with fail
                go_meet
                exact ⟨m,nd,nm,i,dp,sd,sg,tr,us,rfl,rfl,rfl,rfl,rfl,rfl,rfl,rfl,rfl,hi,hnm,hnd,hd1,hd2,hm64,rfl,HM,H'⟩
            --LOOPEND
          case rest =>
            clear HR hi1
            obtain ⟨m,nd,nm,i,dp,sd,sg,tr,us,rfl,rfl,rfl,rfl,rfl,rfl,rfl,rfl,rfl,hi,hnm,hnd,hd1,hd2,hm64,hwc,HM,HR⟩ := hcut
            obtain rfl : w = wc := hwc.symm
            cases sg with
            | false =>
              have HB : Hid (∀ u,R u = .bad) := Lib.hid (fun u => by rw [HR.out u]; exact mid_bad)
              clear HR
              go_wp2_with fail
              try rw [Exit.noGoto_ret]
              refine bodyPost_ret (v := .tuple #[.int .u64 m,.int .i64 0,.bool neg,.bool tr,.bool hx,.int .i64 i,.bool false]) (by simp [results,Tryz.results177,go_sem]) rfl ?_
              exact ⟨_,rfl,rf_bad HB.out m 0 neg tr hx i hi,rfl⟩
            | true =>
            have HR : Hid (∀ u,R u = xL u neg hx m tr ((if sd then dp else (nd : Int)) * (if hx then 4 else 1)) (nm * (if hx then 4 else 1)) us s.data.toList i) := Lib.hid (fun u => by rw [HR.out u]; exact mid_at)
            go_upto_if 142 with fail
            go_cut [17,142] from 143 to 143 (fun s17 _ wy => ∃ dq : Int,s17 = .int .i64 dq ∧ -(i : Int) ≤ dq ∧ dq ≤ (i : Int) ∧ wy = w ∧ Hid ((if sd then dp else (nd : Int)) = dq))
            case first =>
              cases sd with
              | true =>
                go_wp2_with fail
                go_meet
                exact ⟨dp,rfl,hd1,hd2,by trivial,Lib.hid rfl⟩
              | false =>
                go_wp2_with fail
                go_meet
                exact ⟨nd,rfl,by omega,by omega,by trivial,Lib.hid rfl⟩
            case rest =>
              clear hd1 hd2
              obtain ⟨dq,rfl,hd1,hd2,hwc,hq⟩ := hcut
              obtain rfl : w = wc := hwc.symm
              rw [hq.out] at HR
              clear hq hnd
              go_upto_if 145 with fail
              go_cut [16,17,145] from 146 to 149 (fun s16 s17 _ wy => ∃ (nq : Nat) (dr : Int),s16 = .int .i64 nq ∧ s17 = .int .i64 dr ∧ nq ≤ 76 ∧ -562949953421312 ≤ dr ∧ dr ≤ 562949953421312 ∧ wy = w ∧ Hid (∀ u,R u = xL u neg hx m tr dr nq us s.data.toList i))
              case first =>
                cases hx with
                | true =>
                  have b1 : ((bs : Int) == 16) = true := by rw [HC.out.1]; rfl
                  have H' : Hid (∀ u,R u = xL u neg true m tr (dq * 4) (nm * 4) us s.data.toList i) := Lib.hid (fun u => by rw [HR.out u]; rfl)
                  clear HR
                  go_wp2_with fail
                  go_meet
                  exact ⟨nm * 4,dq * 4,by simp,rfl,by omega,by omega,by omega,by trivial,H'⟩
                | false =>
                  have b1 : ((bs : Int) == 16) = false := by rw [HC.out.1]; rfl
                  have H' : Hid (∀ u,R u = xL u neg false m tr dq nm us s.data.toList i) := Lib.hid (fun u => by rw [HR.out u]; simp)
                  clear HR
                  go_wp2_with fail
                  go_meet
                  exact ⟨nm,dq,rfl,rfl,by omega,by omega,by omega,by trivial,H'⟩
              case rest =>
                clear HR hd1 hd2
                obtain ⟨nq,dr,rfl,rfl,hnq,hd1,hd2,hwc,HR⟩ := hcut
                obtain rfl : w = wc := hwc.symm
                go_upto_region 57 with fail
                go_cut [161] from 150 to 160 (fun s161 wy => ∃ b : Bool,s161 = .bool b ∧ wy = w ∧ Hid (b = true → i < s.size ∧ ∀ u,R u = gL u neg hx m tr dr nq us s.data.toList (i + 1)) ∧ Hid (b = false → ∀ u,R u = if hx then .bad else endL u neg hx m tr us i (dr - (nq : Int))))
                case first =>
                  by_cases his : i < s.size
                  · have his' : (i : Int) < (s.size : Int) := by omega
                    obtain ⟨c,hc⟩ : ∃ c,s[i] = c := ⟨_,rfl⟩
                    have c255 : c.toNat < 256 := c.toNat_lt
                    have hl := hlow c.toNat c255
                    obtain ⟨x,hx2⟩ : ∃ x,Hid (c.toNat ||| 32 = x) := ⟨_,Lib.hid rfl⟩
                    rw [hx2.out] at hl
                    by_cases a1 : x = ec
                    · have a1' : ((x : Int) == (ec : Int)) = true := by rw [beq_iff_eq]; omega
                      have H' : Hid (i < s.size ∧ ∀ u,R u = gL u neg hx m tr dr nq us s.data.toList (i + 1)) := Lib.hid ⟨his,fun u => by rw [HR.out u,x_yes his hc (by rw [hx2.out,a1]; exact HC.out.2.2)]⟩
                      clear a1 HR
                      go_wp2_with fail
                      refine (hl _).mono ?_
                      rintro e w' ⟨rfl,rfl⟩
                      go_wp2_with fail
                      go_meet
                      exact ⟨true,rfl,by trivial,Lib.hid (fun _ => H'.out),Lib.hid (fun h => absurd h (by decide))⟩
                    · have a1' : ((x : Int) == (ec : Int)) = false := by rw [beq_eq_false_iff_ne]; omega
                      have H' : Hid (∀ u,R u = if hx then .bad else endL u neg hx m tr us i (dr - (nq : Int))) := Lib.hid (fun u => by rw [HR.out u,x_no his hc (by rw [hx2.out]; intro h; exact a1 (h.trans HC.out.2.2.symm))])
                      clear a1 HR
                      go_wp2_with fail
                      refine (hl _).mono ?_
                      rintro e w' ⟨rfl,rfl⟩
                      go_wp2_with fail
                      go_meet
                      exact ⟨false,rfl,by trivial,Lib.hid (fun h => absurd h (by decide)),Lib.hid (fun _ => H'.out)⟩
                  · have his' : decide ((i : Int) < (s.size : Int)) = false := by simp; omega
                    have his2 : s.size ≤ i := by omega
                    have H' : Hid (∀ u,R u = if hx then .bad else endL u neg hx m tr us i (dr - (nq : Int))) := Lib.hid (fun u => by rw [HR.out u,x_end his2])
                    clear HR
                    go_wp2_with fail
                    go_meet
                    exact ⟨false,rfl,by trivial,Lib.hid (fun h => absurd h (by decide)),Lib.hid (fun _ => H'.out)⟩
                case rest =>
                  clear HR
                  obtain ⟨b,rfl,hwc,HT,HF⟩ := hcut
                  obtain rfl : w = wc := hwc.symm
                  go_upto_if 161 with fail
                  go_cut [7,9,17,19,20,161] from 162 to 239 (fun s7 s9 s17 _ _ _ wy => ∃ (k : Nat) (us : Bool) (dx : Int),s7 = .int .i64 k ∧ s9 = .bool us ∧ s17 = .int .i64 dx ∧ k ≤ s.size ∧ -562949953521311 ≤ dx ∧ dx ≤ 562949953521311 ∧ wy = w ∧ Hid (∀ u,R u = endL u neg hx m tr us k (dx - (nq : Int))))
                  case first =>
                    cases b with
                    | false =>
                      have H := HF.out rfl
                      clear HF HT
                      cases hx with
                      | true =>
                        have b1 : ((bs : Int) == 16) = true := by rw [HC.out.1]; rfl
                        have HB : Hid (∀ u,R u = .bad) := Lib.hid (fun u => by rw [H u]; rfl)
                        clear H
                        go_wp2_with fail
                        try rw [Exit.noGoto_ret]
                        refine bodyPost_ret (v := .tuple #[.int .u64 m,.int .i64 0,.bool neg,.bool tr,.bool true,.int .i64 i,.bool false]) (by simp [results,Tryz.results177,go_sem]) rfl ?_
                        exact ⟨_,rfl,rf_bad HB.out m 0 neg tr true i hi,rfl⟩
                      | false =>
                        have b1 : ((bs : Int) == 16) = false := by rw [HC.out.1]; rfl
                        have H' : Hid (∀ u,R u = endL u neg false m tr us i (dr - (nq : Int))) := Lib.hid (fun u => by rw [H u]; rfl)
                        clear H
                        go_wp2_with fail
                        go_meet
                        exact ⟨i,us,dr,rfl,rfl,rfl,hi,by omega,by omega,by trivial,H'⟩
                    | true =>
                      obtain ⟨his,hG⟩ := HT.out rfl
                      have HG := Lib.hid hG
                      clear HT HF hG
                      obtain ⟨j,hj⟩ : ∃ j,Hid (i + 1 = j) := ⟨_,Lib.hid rfl⟩
                      rw [hj.out] at HG
                      have ej : (i : Int) + 1 = (j : Int) := by have := hj.out; omega
                      have js : j ≤ s.size := by have := hj.out; omega
                      have j1 : j ≤ 140737488355328 := by omega
                      by_cases h2 : j < s.size
                      · have h2' : (j : Int) < (s.size : Int) := by omega
                        have h2'' : decide ((s.size : Int) ≤ (j : Int)) = false := by simp; omega
                        have h2n : decide (s.size ≤ j) = false := by simp; omega
                        obtain ⟨c,hc⟩ : ∃ c,s[j] = c := ⟨_,rfl⟩
                        have c255 : c.toNat < 256 := c.toNat_lt
                        --LOOPBEGIN
                        go_upto_block 4 with fail
                        go_cut [7,19] from 171 to 178 (fun s7 s19 wy => ∃ (k : Nat) (x : Int),s7 = .int .i64 k ∧ s19 = .int .i64 x ∧ k ≤ s.size ∧ wy = w ∧ Hid (x = 1 ∨ x = -1) ∧ Hid (∀ u,R u = fL u neg hx m tr dr nq us x s.data.toList k))
                        case first =>
                          obtain ⟨k,hk⟩ : ∃ k,Hid (j + 1 = k) := ⟨_,Lib.hid rfl⟩
                          have ek : (j : Int) + 1 = (k : Int) := by have := hk.out; omega
                          have ks : k ≤ s.size := by have := hk.out; omega
                          by_cases a1 : c.toNat = 43
                          · have a1' : ((c.toNat : Int) == 43) = true := by rw [beq_iff_eq]; omega
                            have H' : Hid (∀ u,R u = fL u neg hx m tr dr nq us 1 s.data.toList k) := Lib.hid (fun u => by rw [HG.out u,g_at h2 hc,if_pos a1,hk.out])
                            clear a1 ej HG
                            go_wp2_with fail
                            go_meet
                            exact ⟨k,1,rfl,rfl,ks,by trivial,Lib.hid (.inl rfl),H'⟩
                          · have a1' : ((c.toNat : Int) == 43) = false := by rw [beq_eq_false_iff_ne]; omega
                            by_cases a2 : c.toNat = 45
                            · have a2' : ((c.toNat : Int) == 45) = true := by rw [beq_iff_eq]; omega
                              have H' : Hid (∀ u,R u = fL u neg hx m tr dr nq us (-1) s.data.toList k) := Lib.hid (fun u => by rw [HG.out u,g_at h2 hc,if_neg a1,if_pos a2,hk.out])
                              clear a2 ej HG
                              go_wp2_with fail
                              go_meet
                              exact ⟨k,-1,rfl,rfl,ks,by trivial,Lib.hid (.inr rfl),H'⟩
                            · have a2' : ((c.toNat : Int) == 45) = false := by rw [beq_eq_false_iff_ne]; omega
                              have H' : Hid (∀ u,R u = fL u neg hx m tr dr nq us 1 s.data.toList j) := Lib.hid (fun u => by rw [HG.out u,g_at h2 hc,if_neg a1,if_neg a2])
                              clear ej HG
                              go_wp2_with fail
                              go_meet
                              exact ⟨j,1,rfl,rfl,js,by trivial,Lib.hid (.inl rfl),H'⟩
                        case rest =>
                          clear HG
                          obtain ⟨k,x,rfl,rfl,ks,hwc,HX1,HR⟩ := hcut
                          obtain rfl : w = wc := hwc.symm
                          go_upto_region 67 with fail
                          go_cut [194] from 179 to 193 (fun s194 wy => ∃ b : Bool,s194 = .bool b ∧ wy = w ∧ Hid (b = true → ∀ u,R u = .bad) ∧ Hid (b = false → ∀ u,R u = eL u neg hx m tr dr nq x (s.data.toList.drop k) k 0 us))
                          case first =>
                            by_cases his3 : k < s.size
                            · have d1 : decide ((s.size : Int) ≤ (k : Int)) = false := by simp; omega
                              have d1n : decide (s.size ≤ k) = false := by simp; omega
                              have d1' : (k : Int) < (s.size : Int) := by omega
                              obtain ⟨c2,hc2⟩ : ∃ c,s[k] = c := ⟨_,rfl⟩
                              have c2255 : c2.toNat < 256 := c2.toNat_lt
                              by_cases a1 : c2.toNat < 48
                              · have a1' : (c2.toNat : Int) < 48 := by omega
                                have HB : Hid (∀ u,R u = .bad) := Lib.hid (fun u => by rw [HR.out u]; exact f_bad2 his3 hc2 (.inl a1))
                                clear HR
                                go_wp2_with fail
                                go_meet
                                exact ⟨true,rfl,by trivial,Lib.hid (fun _ => HB.out),Lib.hid (fun h => absurd h (by decide))⟩
                              · have a1' : decide ((c2.toNat : Int) < 48) = false := by simp; omega
                                have a1'' : (48 : Int) ≤ (c2.toNat : Int) := by omega
                                by_cases a3 : 57 < c2.toNat
                                · have a3' : (57 : Int) < (c2.toNat : Int) := by omega
                                  have HB : Hid (∀ u,R u = .bad) := Lib.hid (fun u => by rw [HR.out u]; exact f_bad2 his3 hc2 (.inr a3))
                                  clear HR
                                  go_wp2_with fail
                                  go_meet
                                  exact ⟨true,rfl,by trivial,Lib.hid (fun _ => HB.out),Lib.hid (fun h => absurd h (by decide))⟩
                                · have a3' : decide ((57 : Int) < (c2.toNat : Int)) = false := by simp; omega
                                  have a3'' : (c2.toNat : Int) ≤ 57 := by omega
                                  have H' : Hid (∀ u,R u = eL u neg hx m tr dr nq x (s.data.toList.drop k) k 0 us) := Lib.hid (fun u => by rw [HR.out u]; exact f_ok his3 hc2 (by omega))
                                  clear HR
                                  go_wp2_with fail
                                  go_meet
                                  exact ⟨false,rfl,by trivial,Lib.hid (fun h => absurd h (by decide)),Lib.hid (fun _ => H'.out)⟩
                            · have d1 : (s.size : Int) ≤ (k : Int) := by omega
                              have d1n : s.size ≤ k := by omega
                              have HB : Hid (∀ u,R u = .bad) := Lib.hid (fun u => by rw [HR.out u]; exact f_bad1 d1n)
                              clear HR
                              go_wp2_with fail
                              go_meet
                              exact ⟨true,rfl,by trivial,Lib.hid (fun _ => HB.out),Lib.hid (fun h => absurd h (by decide))⟩
                          case rest =>
                            clear HR
                            obtain ⟨b3,rfl,hwc,HT,HF⟩ := hcut
                            obtain rfl : w = wc := hwc.symm
                            cases b3 with
                            | true =>
                              have HB := Lib.hid (HT.out rfl)
                              clear HT HF
                              go_wp2_with fail
                              try rw [Exit.noGoto_ret]
                              refine bodyPost_ret (v := .tuple #[.int .u64 m,.int .i64 0,.bool neg,.bool tr,.bool hx,.int .i64 k,.bool false]) (by simp [results,Tryz.results177,go_sem]) rfl ?_
                              exact ⟨_,rfl,rf_bad HB.out m 0 neg tr hx k ks,rfl⟩
                            | false =>
                              have HR := Lib.hid (HF.out rfl)
                              clear HT HF
                              go_upto_block 5 with fail
                              go_cut [7,9,20] from 195 to 232 (fun s7 s9 s20 wy => ∃ (k e : Nat) (us : Bool),s7 = .int .i64 k ∧ s9 = .bool us ∧ s20 = .int .i64 e ∧ k ≤ s.size ∧ e ≤ 99999 ∧ wy = w ∧ Hid (∀ u,R u = endL u neg hx m tr us k (dr + (e : Int) * x - (nq : Int))))
                              case first =>
                                go_wp2_with fail
                                go_loopw [7,9,20] (fun s7 s9 s20 wr => ∃ (k e : Nat) (us : Bool),s7 = .int .i64 k ∧ s9 = .bool us ∧ s20 = .int .i64 e ∧ k ≤ s.size ∧ e ≤ 99999 ∧ wr = w ∧ Hid (∀ u,R u = eL u neg hx m tr dr nq x (s.data.toList.drop k) k e us)) (fun s7 _ _ _ => s.size - (intOf s7).toNat)
                                case atStart => exact ⟨k,0,us,rfl,rfl,rfl,ks,by omega,by trivial,HR⟩
                                case round =>
                                  clear HR ks
                                  obtain ⟨k,e,us,rfl,rfl,rfl,ks,he,hwr,HR⟩ := hrel
                                  obtain rfl : w = wr := hwr.symm
                                  by_cases hks : k < s.size
                                  · have d1 : (k : Int) < (s.size : Int) := by omega
                                    obtain ⟨c2,hc2⟩ : ∃ c,s[k] = c := ⟨_,rfl⟩
                                    have c2255 : c2.toNat < 256 := c2.toNat_lt
                                    by_cases u1 : c2.toNat = 95
                                    · have u1' : ((c2.toNat : Int) == 95) = true := by rw [beq_iff_eq]; omega
                                      have u2 : (48 : Int) ≤ (c2.toNat : Int) := by omega
                                      have u3 : decide ((c2.toNat : Int) ≤ 57) = false := by simp; omega
                                      have u3' : (57 : Int) < (c2.toNat : Int) := by omega
                                      have H' : Hid (∀ u,R u = eL u neg hx m tr dr nq x (s.data.toList.drop (k + 1)) (k + 1) e true) := Lib.hid (fun u => by rw [HR.out u]; exact e_us hks hc2 u1)
                                      clear u1 HR
                                      go_wp2_with fail
                                      exact ⟨⟨k + 1,e,true,rfl,rfl,rfl,hks,he,by trivial,H'⟩,by simp [intOf] <;> omega⟩
                                    · have u1' : ((c2.toNat : Int) == 95) = false := by rw [beq_eq_false_iff_ne]; omega
                                      by_cases u2 : 48 ≤ c2.toNat
                                      · have u2' : (48 : Int) ≤ (c2.toNat : Int) := by omega
                                        by_cases u3 : c2.toNat ≤ 57
                                        · have u3' : (c2.toNat : Int) ≤ 57 := by omega
                                          have H0 : Hid (∀ u,R u = eL u neg hx m tr dr nq x (s.data.toList.drop (k + 1)) (k + 1) (if e < 10000 then e * 10 + c2.toNat - 48 else e) us) := Lib.hid (fun u => by rw [HR.out u]; exact e_dig hks hc2 u2 u3)
                                          by_cases u4 : e < 10000
                                          · have u4' : (e : Int) < 10000 := by omega
                                            obtain ⟨e2,he2⟩ : ∃ e2,Hid (e * 10 + c2.toNat - 48 = e2) := ⟨_,Lib.hid rfl⟩
                                            rw [if_pos u4,he2.out] at H0
                                            have ee2 : (e : Int) * 10 + (c2.toNat : Int) - 48 = (e2 : Int) := by have := he2.out; omega
                                            have e2b : e2 ≤ 99999 := by have := he2.out; omega
                                            clear HR
                                            go_wp2_with fail
                                            exact ⟨⟨k + 1,e2,us,rfl,rfl,rfl,hks,e2b,by trivial,H0⟩,by simp [intOf] <;> omega⟩
                                          · have u4' : decide ((e : Int) < 10000) = false := by simp; omega
                                            have u4'' : (10000 : Int) ≤ (e : Int) := by omega
                                            rw [if_neg u4] at H0
                                            clear HR
                                            go_wp2_with fail
                                            exact ⟨⟨k + 1,e,us,rfl,rfl,rfl,hks,he,by trivial,H0⟩,by simp [intOf] <;> omega⟩
                                        · have u3' : decide ((c2.toNat : Int) ≤ 57) = false := by simp; omega
                                          have u3'' : (57 : Int) < (c2.toNat : Int) := by omega
                                          have H' : Hid (∀ u,R u = endL u neg hx m tr us k (dr + (e : Int) * x - (nq : Int))) := Lib.hid (fun u => by rw [HR.out u]; exact e_no hks hc2 u1 (by omega))
                                          clear HR
                                          go_wp2_with fail
                                          go_meet
                                          exact ⟨k,e,us,rfl,rfl,rfl,ks,he,by trivial,H'⟩
                                      · have u2' : decide ((48 : Int) ≤ (c2.toNat : Int)) = false := by simp; omega
                                        have u2'' : (c2.toNat : Int) < 48 := by omega
                                        have H' : Hid (∀ u,R u = endL u neg hx m tr us k (dr + (e : Int) * x - (nq : Int))) := Lib.hid (fun u => by rw [HR.out u]; exact e_no hks hc2 u1 (by omega))
                                        clear HR
                                        go_wp2_with fail
                                        go_meet
                                        exact ⟨k,e,us,rfl,rfl,rfl,ks,he,by trivial,H'⟩
                                  · have d1 : decide ((k : Int) < (s.size : Int)) = false := by simp; omega
                                    have d1' : s.size ≤ k := by omega
                                    have H' : Hid (∀ u,R u = endL u neg hx m tr us k (dr + (e : Int) * x - (nq : Int))) := Lib.hid (fun u => by rw [HR.out u]; exact e_end d1')
                                    clear HR
                                    go_wp2_with fail
                                    go_meet
                                    exact ⟨k,e,us,rfl,rfl,rfl,ks,he,by trivial,H'⟩
                              case rest =>
                                clear HR ks
                                obtain ⟨k,e,us,rfl,rfl,rfl,ks,he,hwc,HR⟩ := hcut
                                obtain rfl : w = wc := hwc.symm
                                obtain ⟨p,hp⟩ : ∃ p,Hid ((e : Int) * x = p) := ⟨_,Lib.hid rfl⟩
                                have ep : (e : Int) * x = p := hp.out
                                have pb : -99999 ≤ p ∧ p ≤ 99999 := by
                                  rw [← hp.out]
                                  rcases HX1.out with h | h <;> rw [h] <;> omega
                                obtain ⟨p3,p4⟩ := pb
                                rw [hp.out] at HR
                                clear HX1 hp
                                go_wp2_with fail
                                go_meet
                                exact ⟨k,us,dr + p,rfl,rfl,rfl,ks,by omega,by omega,by trivial,HR⟩
                        --LOOPEND
                      · have h2' : (s.size : Int) ≤ (j : Int) := by omega
                        have h2n : s.size ≤ j := by omega
                        have HB : Hid (∀ u,R u = .bad) := Lib.hid (fun u => by rw [HG.out u]; exact g_bad h2n)
                        clear HG hj
                        go_wp2_with fail
                        try rw [Exit.noGoto_ret]
                        refine bodyPost_ret (v := .tuple #[.int .u64 m,.int .i64 0,.bool neg,.bool tr,.bool hx,.int .i64 j,.bool false]) (by simp [results,Tryz.results177,go_sem]) rfl ?_
                        exact ⟨_,rfl,rf_bad HB.out m 0 neg tr hx j js,rfl⟩
                  case rest =>
                    clear HT HF hi hd1 hd2
                    obtain ⟨k,us,dx,rfl,rfl,rfl,hk,hd1,hd2,hwc,HR⟩ := hcut
                    obtain rfl : w = wc := hwc.symm
                    have HE := mant_end (hx := hx) (by rw [← HC.out.1]; exact HM.out.1) (by rw [← HC.out.2.1]; exact HM.out.2)
                    have HE := Lib.hid HE
                    go_upto_if 241 with fail
                    go_cut [3,241] from 242 to 244 (fun s3 _ wy => ∃ ex : Int,s3 = .int .i64 ex ∧ -1152921504606846976 ≤ ex ∧ ex ≤ 1152921504606846976 ∧ wy = w ∧ Hid (∀ u,R u = if us = true ∧ u = false then .bad else .good m ex neg tr hx k))
                    case first =>
                      by_cases m0 : m = 0
                      · have m0' : ((m : Int) == 0) = true := by rw [beq_iff_eq]; omega
                        have H' : Hid (∀ u,R u = if us = true ∧ u = false then .bad else .good m 0 neg tr hx k) := Lib.hid (fun u => by rw [HR.out u]; unfold endL; rw [if_pos m0])
                        clear m0 HR
                        go_wp2_with fail
                        go_meet
                        exact ⟨0,rfl,by omega,by omega,by trivial,H'⟩
                      · have m0' : ((m : Int) == 0) = false := by rw [beq_eq_false_iff_ne]; omega
                        have H' : Hid (∀ u,R u = if us = true ∧ u = false then .bad else .good m (dx - (nq : Int)) neg tr hx k) := Lib.hid (fun u => by rw [HR.out u]; unfold endL; rw [if_neg m0])
                        clear HR
                        go_wp2_with fail
                        go_meet
                        exact ⟨_,rfl,by omega,by omega,by trivial,H'⟩
                    case rest =>
                      clear HR
                      obtain ⟨ex,rfl,hx1,hx2,hwc,HR⟩ := hcut
                      obtain rfl : w = wc := hwc.symm
                      cases us with
                      | false =>
                        go_wp2_with fail
                        try rw [Exit.noGoto_ret]
                        refine bodyPost_ret (v := .tuple #[.int .u64 m,.int .i64 ex,.bool neg,.bool tr,.bool hx,.int .i64 k,.bool true]) (by simp [results,Tryz.results177,go_sem]) rfl ?_
                        exact ⟨_,rfl,⟨true,by rw [show R true = .good m ex neg tr hx k by have := HR.out true; simpa using this]; exact ⟨rfl,HE.out.1,HE.out.2,hx1,hx2,hk⟩⟩,by trivial⟩
                      | true =>
                        obtain ⟨t,ht⟩ : ∃ t : ByteArray,Hid (s.extract 0 k = t) := ⟨_,Lib.hid rfl⟩
                        have hts : t.size ≤ 140737488355328 := by rw [← ht.out]; simp; omega
                        have hU' := fun W => hU t W hts
                        have et : s.extract 0 k = t := ht.out
                        go_wp2_with fail
                        refine (hU' _).mono ?_
                        rintro e w' ⟨v,rfl,⟨r,rfl⟩,rfl⟩
                        cases r with
                        | false =>
                          have HB : R false = .bad := by have := HR.out false; simpa using this
                          go_wp2_with fail
                          try rw [Exit.noGoto_ret]
                          refine bodyPost_ret (v := .tuple #[.int .u64 m,.int .i64 ex,.bool neg,.bool tr,.bool hx,.int .i64 k,.bool false]) (by simp [results,Tryz.results177,go_sem]) rfl ?_
                          exact ⟨_,rfl,⟨false,by rw [HB]; exact ⟨m,ex,neg,tr,hx,k,hk,rfl⟩⟩,by trivial⟩
                        | true =>
                          have HB : R true = .good m ex neg tr hx k := by have := HR.out true; simpa using this
                          go_wp2_with fail
                          try rw [Exit.noGoto_ret]
                          refine bodyPost_ret (v := .tuple #[.int .u64 m,.int .i64 ex,.bool neg,.bool tr,.bool hx,.int .i64 k,.bool true]) (by simp [results,Tryz.results177,go_sem]) rfl ?_
                          exact ⟨_,rfl,⟨true,by rw [HB]; exact ⟨rfl,HE.out.1,HE.out.2,hx1,hx2,hk⟩⟩,by trivial⟩
end Go.Proofs.YtalaajniammggaaGreatDoor
