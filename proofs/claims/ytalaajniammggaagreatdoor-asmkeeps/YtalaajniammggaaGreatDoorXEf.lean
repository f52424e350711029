/- A decimal that was just made; floatBits of any one. -/
import Derived.Test.YtalaajniammggaaGreatDoorXEe
import Derived.Test.YtalaajniammggaaGreatDoorXWc
namespace Go.Proofs.YtalaajniammggaaGreatDoor
open Go.RowKit
def d804 : Array Value := Array.replicate 800 (.int .u8 0) ++ #[.int .i64 0,.int .i64 0,.bool false,.bool false]
theorem fb_any (w0 : World) (q : Nat) (w : World) (S : Slow w0) (D : Sd w0 q w) :
  Calls Tryz.prog 184 #[.pointer (some ⟨q,0,none⟩),.pointer (some ⟨13,0,none⟩)] w fun e w' => ∃ (v : Int) (o : Value),e = .returned (.tuple #[.int .u64 v,o]) ∧ IsB o ∧ Below w0.heap.size w0 w' := by
 obtain ⟨g,nd,dp,neg,tr,le,digs,first,D,low⟩ := D
 by_cases h0 : nd = 0
 ·subst h0
  exact fb_none w0 q g dp neg tr w S low D
 ·have DC : Dc w0 q w g nd dp neg tr := ⟨D,by omega,le,digs,first (by omega),low⟩
  rcases Int.lt_or_le 310 dp with h1 | h1
  ·exact fb_over w0 q nd g dp neg tr h1 w S DC
  ·rcases Int.lt_or_le dp (-330) with h2 | h2
   ·exact fb_under w0 q nd g dp neg tr h2 w S DC
   ·exact fb_main w0 q nd g dp neg tr h2 h1 w S DC
theorem zc138 : Tryz.zeroCells178 = d804 := by kernel_rfl
theorem dr_made (w : World) : Dr w.heap.size w.heap.size (w.alloc (.cells Tryz.zeroCells178 178)) (fun _ => 0) 0 0 false false := by
 rw [zc138]
 have hsz : d804.size = 804 := by decide +kernel
 refine ⟨d804.toList,⟨by rw [Array.length_toList,hsz],.inr ⟨w.heap.size,804,d804,rfl,Nat.le_refl _,heap_alloc_new w _,by omega,by unfold maxLen; omega,by rw [hsz],?_⟩⟩,?_,?_,?_,?_,?_⟩
 ·rw [List.take_of_length_le (by rw [Array.length_toList,hsz]; omega)]
 ·intro i hi
  rw [Array.getElem?_toList]
  unfold d804
  rw [Array.getElem?_append_left (by simpa using hi),Array.getElem?_replicate,if_pos hi]
  rfl
 all_goals kernel_rfl
theorem below_made (w : World) : Below w.heap.size w (w.alloc (.cells Tryz.zeroCells178 178)) := (Below.refl _ w).alloc (Nat.le_refl _) _
set_option maxRecDepth 100000 in
theorem bool2_any (b : Bool) (w : World) : Calls Tryz.prog 173 #[.bool b] w fun e w' => e = .returned (.int .u64 (if b then 1 else 0)) ∧ w' = w := by
 cases b
 ·go_enter Tryz.func173,Tryz.ntmps173
  go_wp2
  go_ret
  exact ⟨rfl,rfl⟩
 ·go_enter Tryz.func173,Tryz.ntmps173
  go_wp2
  go_ret
  exact ⟨rfl,rfl⟩
theorem infR_le (f k n m : Nat) (h : k + n ≤ m) : (infR f k n).2.1 ≤ m := by
 unfold infR
 split
 ·show k + takeN n ≤ m
  unfold takeN
  split <;> omega
 ·exact Nat.zero_le _
theorem spR_le (l : List UInt8) : (spR l).2.1 ≤ l.length := by
 cases l with
 | nil => exact Nat.zero_le _
 | cons c r =>
  have h1 := (cpl_le r inftyL).1
  have h2 := (cpl_le (c :: r) inftyL).1
  have h3 := (cpl_le (c :: r) [110,97,110]).1
  rw [List.length_cons] at h2 h3 ⊢
  show (if c = 43 then infR 9218868437227405312 1 (cpl r inftyL) else
   if c = 45 then infR 18442240474082181120 1 (cpl r inftyL) else
   if c = 105 ∨ c = 73 then infR 9218868437227405312 0 (cpl (c :: r) inftyL) else
   if c = 110 ∨ c = 78 then (if cpl (c :: r) [110,97,110] = 3 then (9221120237041090561,3,true) else (0,0,false)) else (0,0,false)).2.1 ≤ _
  by_cases a1 : c = 43
  ·rw [if_pos a1]; exact infR_le _ _ _ _ (by omega)
  ·rw [if_neg a1]
   by_cases a2 : c = 45
   ·rw [if_pos a2]; exact infR_le _ _ _ _ (by omega)
   ·rw [if_neg a2]
    by_cases a3 : c = 105 ∨ c = 73
    ·rw [if_pos a3]; exact infR_le _ _ _ _ (by omega)
    ·rw [if_neg a3]
     by_cases a4 : c = 110 ∨ c = 78
     ·rw [if_pos a4]
      by_cases a5 : cpl (c :: r) [110,97,110] = 3
      ·rw [if_pos a5]; show 3 ≤ _; omega
      ·rw [if_neg a5]; exact Nat.zero_le _
     ·rw [if_neg a4]; exact Nat.zero_le _
theorem out_any {o : Out} {z : Nat} {v : Value} (h : OutV o z v) : ∃ (m : Nat) (x : Int) (neg tr hx : Bool) (n : Nat) (ok : Bool),v = .tuple #[.int .u64 m,.int .i64 x,.bool neg,.bool tr,.bool hx,.int .i64 n,.bool ok] ∧ n ≤ z ∧ (ok = true → m < 18446744073709551616 ∧ (hx = false → m < 10000000000000000000) ∧ -1152921504606846976 ≤ x ∧ x ≤ 1152921504606846976) := by
 cases o with
 | bad =>
  obtain ⟨m,x,neg,tr,hx,n,hn,rfl⟩ := h
  exact ⟨m,x,neg,tr,hx,n,false,rfl,hn,fun h => absurd h (by decide)⟩
 | good m x neg tr hx n =>
  obtain ⟨rfl,h1,h2,h3,h4,h5⟩ := h
  exact ⟨m,x,neg,tr,hx,n,true,rfl,h5,fun _ => ⟨h1,h2,h3,h4⟩⟩
def AtP (z : Nat) (e : Ending) : Prop := ∃ f n k : Nat,n ≤ z ∧ k ≤ 2 ∧ e = .returned (.tuple #[.float .f64 f,.int .i64 n,errV k])
theorem exact_all (d : Nat) (p : Int) (neg : Bool) (hd : d < 18446744073709551616) (hp1 : -400 ≤ p) (hp2 : p ≤ 400) : ∃ f ok,Right d p neg f ok ∧ ExPost d p neg f ok := by
 cases neg
 ·exact exact_f d p hd hp1 hp2
 ·exact exact_t d p hd hp1 hp2
end Go.Proofs.YtalaajniammggaaGreatDoor

/- atof64 answers, whatever text comes in. -/
namespace Go.Proofs.YtalaajniammggaaGreatDoor
open Go.RowKit
set_option maxRecDepth 100000 in
set_option maxHeartbeats 4000000 in
theorem atof_at (s : ByteArray) (hs : s.size ≤ 140737488355328) (w : World) (A : All w) :
  Calls Tryz.prog 171 #[.string s] w fun e w' => AtP s.size e ∧ Below w.heap.size w w' := by
 have hSp := special_any s hs
 have hle : (spR s.data.toList).2.1 ≤ s.size := by have := spR_le s.data.toList; rw [size_list] at this; exact this
 unfold SpPost at hSp
 generalize spR s.data.toList = S at *
 obtain ⟨sf,sn,sok⟩ := S
 simp only at hSp hle
 have hRf := readFloat_any s hs (fun t W ht => under_any t W ht)
 have HA := Lib.hid A
 have c153 := call153
 clear A
 go_enter Tryz.func171,Tryz.ntmps171
 go_wp2_with fail
 refine (hSp _).mono ?_
 rintro e w1 ⟨rfl,hw1⟩
 obtain rfl : w = w1 := hw1.symm
 cases sok with
 | true =>
  go_wp2_with fail
  go_ret3
  exact ⟨⟨sf,sn,0,hle,by omega,rfl⟩,Below.refl _ _⟩
 | false =>
  clear hle
  go_wp2_with fail
  refine (hRf _).mono ?_
  rintro e w1 ⟨v,rfl,⟨u,hv⟩,hw1⟩
  obtain rfl : w = w1 := hw1.symm
  obtain ⟨m,x,neg,tr,hx,n,ok,rfl,hn,hb⟩ := out_any hv
  clear hv hSp hRf
  cases ok with
  | false =>
   go_wp2_with fail
   go_ret3
   exact ⟨⟨0,n,2,hn,by omega,rfl⟩,Below.refl _ _⟩
  | true =>
   obtain ⟨m64,m19,x1,x2⟩ := hb rfl
   have hnz : (n : Int) ≤ (s.size : Int) := by omega
   cases hx with
   | true =>
    obtain ⟨t,ht⟩ : ∃ t : ByteArray,Hid (s.extract 0 n = t) := ⟨_,Lib.hid rfl⟩
    have et : s.extract 0 n = t := ht.out
    have hH := hex_any t m m64 x x1 x2 neg tr w HA.out.slow HA.out.blk
    go_wp2_with fail
    refine hH.mono ?_
    rintro e w1 ⟨f,k,hk,rfl,b1⟩
    obtain ⟨er,her⟩ : ∃ v,Hid (errV k = v) := ⟨_,Lib.hid rfl⟩
    rw [her.out]
    go_wp2_with fail
    go_ret3
    exact ⟨⟨f,n,k,hn,by omega,by rw [her.out]; rfl⟩,b1⟩
   | false =>
    have m19 := m19 rfl
    clear hb
    have opt := HA.out.tabs.opt
    have hB2 := bool2_any neg
    go_upto_region 11 with fail
    go_cut [16] from 65 to 67 (fun s16 wy => ∃ sg : Nat,s16 = .int .u64 sg ∧ sg < 18446744073709551616 ∧ wy = w)
    case first =>
     cases neg with
     | true =>
      go_wp2_with fail
      refine (hB2 _).mono ?_
      rintro e w1 ⟨rfl,rfl⟩
      simp only [if_true]
      go_wp2_with fail
      go_meet
      exact ⟨9223372036854775808,rfl,by omega,by trivial⟩
     | false =>
      go_wp2_with fail
      refine (hB2 _).mono ?_
      rintro e w1 ⟨rfl,rfl⟩
      simp only [Bool.false_eq_true,if_false]
      go_wp2_with fail
      go_meet
      exact ⟨0,rfl,by omega,by trivial⟩
    case rest =>
     obtain ⟨sg,rfl,hsg,hwc⟩ := hcut
     obtain rfl : w = wc := hwc.symm
     clear hB2
     by_cases m0 : m = 0
     ·have m0' : ((m : Int) == 0) = true := by rw [beq_iff_eq]; omega
      clear m0
      go_wp2_with fail
      go_ret3
      exact ⟨⟨_,n,0,hn,by omega,rfl⟩,Below.refl _ _⟩
     ·have m0' : ((m : Int) == 0) = false := by rw [beq_eq_false_iff_ne]; omega
      by_cases p1 : 310 < x
      ·go_wp2_with fail
       go_ret3
       exact ⟨⟨_,n,1,hn,by omega,rfl⟩,Below.refl _ _⟩
      ·have p1' : decide (310 < x) = false := by simp; omega
       have p1'' : x ≤ 310 := by omega
       by_cases p2 : x < -345
       ·go_wp2_with fail
        go_ret3
        exact ⟨⟨_,n,0,hn,by omega,rfl⟩,Below.refl _ _⟩
       ·have p2' : decide (x < -345) = false := by simp; omega
        have p2'' : -345 ≤ x := by omega
        obtain ⟨f,err,herr,hP⟩ := pf_any m sg x (by omega) m64 p2'' p1'' hsg
        obtain ⟨k,hk,hke⟩ : ∃ k : Nat,k ≤ 1 ∧ Hid (err = errV k) := by
         rcases herr with h | h
         ·exact ⟨0,by omega,Lib.hid h⟩
         ·exact ⟨1,by omega,Lib.hid h⟩
        clear herr
        cases tr with
        | false =>
         obtain ⟨f2,ok2,_,hE⟩ := exact_all m x neg m64 (by omega) (by omega)
         have hE := hE w HA.out.tabs HA.out.powz
         cases ok2 with
         | true =>
          go_wp2_with fail
          refine hE.mono ?_
          rintro e w1 ⟨rfl,hw1⟩
          obtain rfl : w = w1 := hw1.symm
          go_wp2_with fail
          go_ret3
          exact ⟨⟨f2,n,0,hn,by omega,rfl⟩,Below.refl _ _⟩
         | false =>
          go_wp2_with fail
          refine hE.mono ?_
          rintro e w1 ⟨rfl,hw1⟩
          obtain rfl : w = w1 := hw1.symm
          go_wp2_with fail
          refine (hP w HA.out.rowz).mono ?_
          rintro e w1 ⟨rfl,b1⟩
          go_wp2_with fail
          go_ret3
          exact ⟨⟨f,n,k,hn,by omega,by rw [← hke.out]; rfl⟩,b1⟩
        | true =>
         obtain ⟨q,hq⟩ : ∃ q,Hid (m + 1 = q) := ⟨_,Lib.hid rfl⟩
         have eq : (m : Int) + 1 = (q : Int) := by have := hq.out; omega
         have q64 : q < 18446744073709551616 := by have := hq.out; omega
         obtain ⟨f1,err1,_,hP1⟩ := pf_any q sg x (by have := hq.out; omega) q64 p2'' p1'' hsg
         clear hq
         go_wp2_with fail
         refine (hP w HA.out.rowz).mono ?_
         rintro e w1 ⟨rfl,b1⟩
         go_wp2_with fail
         refine (hP1 w1 (HA.out.rowz.kept b1)).mono ?_
         rintro e w2 ⟨rfl,b2⟩
         have bb : Below w.heap.size w w2 := b1.trans (b2.mono b1.size)
         go_wp2_with fail
         ·go_ret3
          exact ⟨⟨f,n,k,hn,by omega,by rw [← hke.out]; rfl⟩,bb⟩
         ·obtain ⟨t,ht⟩ : ∃ t : ByteArray,Hid (s.extract 0 n = t) := ⟨_,Lib.hid rfl⟩
          have hts : t.size ≤ 140737488355328 := by rw [← ht.out]; simp; omega
          have hSet := set_any w2 w2.heap.size (fun _ => 0) t hts _ (dr_made w2) (below_made w2)
          have AS := HA.out.slow.kept bb
          rw [ht.out]
          refine hSet.mono ?_
          rintro e w3 ⟨v,rfl,⟨r,rfl⟩,hSd⟩
          cases r with
          | false =>
           obtain ⟨_,_,_,_,_,_,_,_,_,low⟩ := hSd
           go_wp2_with fail
           go_ret3
           exact ⟨⟨0,n,2,hn,by omega,rfl⟩,bb.trans (low.mono bb.size)⟩
          | true =>
           have hF := fb_any w2 w2.heap.size w3 AS hSd
           clear hSd
           go_wp2_with fail
           refine hF.mono ?_
           rintro e w4 ⟨v,o,rfl,⟨r,rfl⟩,b4⟩
           cases r with
           | false =>
            go_wp2_with fail
            go_ret3
            exact ⟨⟨_,n,0,hn,by omega,rfl⟩,bb.trans (b4.mono bb.size)⟩
           | true =>
            go_wp2_with fail
            go_ret3
            exact ⟨⟨_,n,1,hn,by omega,rfl⟩,bb.trans (b4.mono bb.size)⟩
theorem atof_total : AtofTotal := by
 intro s hs w A
 refine (atof_at s hs w A).mono ?_
 rintro e w' ⟨⟨f,n,k,h1,h2,h3⟩,b⟩
 exact ⟨f,n,k,h1,h2,h3,b⟩
end Go.Proofs.YtalaajniammggaaGreatDoor

/- What was printed is read as just that. -/
namespace Go.Proofs.YtalaajniammggaaGreatDoor
open Go.RowKit
theorem dig_low (c : UInt8) (h : IsDig c) : lowN c.toNat ≠ 105 := by
 obtain ⟨h1,h2⟩ := h
 have : ∀ n : Fin 58,lowN n.val ≠ 105 := by decide +kernel
 exact this ⟨c.toNat,by omega⟩
theorem sp_dig (neg : Bool) (c : UInt8) (hc : IsDig c) (r : List UInt8) : spR ((if neg then [45] else []) ++ c :: r) = (0,0,false) := by
 have hl := dig_low c hc
 obtain ⟨h1,h2⟩ := hc
 cases neg with
 | true =>
  rw [if_pos rfl,List.cons_append,List.nil_append]
  unfold spR
  simp only
  rw [if_neg (by decide),if_pos trivial]
  have e : cpl (c :: r) inftyL = 0 := by
   show (if lowN c.toNat = (105 : UInt8).toNat then _ else 0) = 0
   exact if_neg hl
  rw [e]
  rfl
 | false =>
  have ne : ∀ d : UInt8,d.toNat < 48 ∨ 57 < d.toNat → c ≠ d := fun d hd e => by rw [e] at h1 h2; omega
  rw [if_neg (by decide),List.nil_append]
  unfold spR
  simp only
  rw [if_neg (ne 43 (by decide)),if_neg (ne 45 (by decide)),if_neg (by rintro (h | h); exact ne 105 (by decide) h; exact ne 73 (by decide) h),if_neg (by rintro (h | h); exact ne 110 (by decide) h; exact ne 78 (by decide) h)]
theorem txt_head (x : Nat) : ∃ r,txtL (negOf x) (gF x) (nF x) (XF x) = (if negOf x then [45] else []) ++ gF x 0 :: r := by
 unfold txtL prefL
 exact ⟨_,by simp; rfl⟩
theorem sp_txt (x : Nat) : spR (txtL (negOf x) (gF x) (nF x) (XF x)) = (0,0,false) := by
 obtain ⟨r,e⟩ := txt_head x
 rw [e]
 exact sp_dig _ _ (gF_isDig x 0) r
theorem inf_bits {x : Nat} (hx : x < 18446744073709551616) (h : rungOf x = INF) : x = if negOf x then 18442240474082181120 else 9218868437227405312 := by
 have := word_sg x hx
 rw [h] at this
 have e : INF = 9218868437227405312 := by decide
 rw [e] at this
 rw [← this]
 split <;> simp_all
set_option maxRecDepth 100000 in
theorem right_inf (x : Nat) (hx : x < 18446744073709551616) (h : rungOf x = INF) (w : World) : Calls Tryz.prog 171 #[.string ⟨(numL x).toArray⟩] w fun e w' => e = .returned (.tuple #[.float .f64 x,.int .i64 (numL x).length,.nilIface]) ∧ Below w.heap.size w w' := by
 have hb := inf_bits hx h
 have hn : numL x = if negOf x then [45,105,110,102] else [105,110,102] := by unfold numL; rw [if_pos h]
 rw [hn]
 cases hg : negOf x with
 | true =>
  rw [hg] at hb
  replace hb : x = 18442240474082181120 := hb
  have hS := special_any ⟨#[45,105,110,102]⟩ (by decide)
  have e1 : spR (⟨#[45,105,110,102]⟩ : ByteArray).data.toList = (x,4,true) := by rw [hb]; decide +kernel
  rw [e1] at hS
  unfold SpPost at hS
  simp only at hS
  simp only [if_true]
  show Calls Tryz.prog 171 #[.string ⟨#[45,105,110,102]⟩] w _
  clear hn e1 h hg hx hb
  go_enter Tryz.func171,Tryz.ntmps171
  go_wp2_with fail
  refine (hS _).mono ?_
  rintro e w1 ⟨rfl,rfl⟩
  go_wp2_with fail
  go_ret3
  exact ⟨rfl,Below.refl _ _⟩
 | false =>
  rw [hg] at hb
  replace hb : x = 9218868437227405312 := hb
  have hS := special_any ⟨#[105,110,102]⟩ (by decide)
  have e1 : spR (⟨#[105,110,102]⟩ : ByteArray).data.toList = (x,3,true) := by rw [hb]; decide +kernel
  rw [e1] at hS
  unfold SpPost at hS
  simp only at hS
  simp only [Bool.false_eq_true,if_false]
  show Calls Tryz.prog 171 #[.string ⟨#[105,110,102]⟩] w _
  clear hn e1 h hg hx hb
  go_enter Tryz.func171,Tryz.ntmps171
  go_wp2_with fail
  refine (hS _).mono ?_
  rintro e w1 ⟨rfl,rfl⟩
  go_wp2_with fail
  go_ret3
  exact ⟨rfl,Below.refl _ _⟩
set_option maxRecDepth 100000 in
set_option maxHeartbeats 2000000 in
theorem right_fin (x : Nat) (hx : x < 18446744073709551616) (hf : rungOf x < INF) (w : World) (A : All w) : Calls Tryz.prog 171 #[.string ⟨(txtL (negOf x) (gF x) (nF x) (XF x)).toArray⟩] w fun e w' => e = .returned (.tuple #[.float .f64 x,.int .i64 (txtL (negOf x) (gF x) (nF x) (XF x)).length,.nilIface]) ∧ Below w.heap.size w w' := by
 obtain ⟨s,hsd⟩ : ∃ s : ByteArray,Hid (s = ⟨(txtL (negOf x) (gF x) (nF x) (XF x)).toArray⟩) := ⟨_,Lib.hid rfl⟩
 have hdl : s.data.toList = txtL (negOf x) (gF x) (nF x) (XF x) := by rw [hsd.out]
 have hsz : s.size = (txtL (negOf x) (gF x) (nF x) (XF x)).length := by rw [← hdl,size_list]
 have hs : s.size ≤ 140737488355328 := by
  have h1 := print_len x hx
  unfold printL numL at h1
  rw [if_neg (by omega),if_neg (by omega)] at h1
  omega
 have hSp := special_any s hs
 rw [hdl,sp_txt x] at hSp
 unfold SpPost at hSp
 simp only at hSp
 have hRf := readFloat_any s hs (fun t W ht => under_any t W ht)
 have hread := fun u => read_txt hf u
 rw [← hsd.out,← hsz]
 rw [hdl] at hRf
 simp only [hread] at hRf
 rw [← hsz] at hRf
 clear hread hdl hsz hsd
 have HA := Lib.hid A
 have c153 := call153
 have hsg := word_sg x hx
 clear A
 by_cases h0 : rungOf x = 0
 ·rw [dF_zero h0,if_pos rfl] at hRf
  rw [h0,Nat.add_zero] at hsg
  have HS := Lib.hid hsg
  have opt := HA.out.tabs.opt
  have hB2 := bool2_any (negOf x)
  clear hsg hf h0
  go_enter Tryz.func171,Tryz.ntmps171
  go_wp2_with fail
  refine (hSp _).mono ?_
  rintro e w1 ⟨rfl,hw1⟩
  obtain rfl : w = w1 := hw1.symm
  go_wp2_with fail
  refine (hRf _).mono ?_
  rintro e w1 ⟨v,rfl,⟨u,hv⟩,hw1⟩
  obtain rfl : w = w1 := hw1.symm
  obtain ⟨rfl,-⟩ := hv
  cases hg : negOf x with
  | true =>
   rw [hg] at hB2 HS
   have e : x = 9223372036854775808 := HS.out.symm
   subst e
   go_wp2_with fail
   refine (hB2 _).mono ?_
   rintro e w1 ⟨rfl,hw1⟩
   obtain rfl : w = w1 := hw1.symm
   simp only [if_true]
   go_wp2_with fail
   go_ret3
   exact ⟨rfl,Below.refl _ _⟩
  | false =>
   rw [hg] at hB2 HS
   have e : x = 0 := HS.out.symm
   subst e
   go_wp2_with fail
   refine (hB2 _).mono ?_
   rintro e w1 ⟨rfl,hw1⟩
   obtain rfl : w = w1 := hw1.symm
   simp only [Bool.false_eq_true,if_false]
   go_wp2_with fail
   go_ret3
   exact ⟨rfl,Below.refl _ _⟩
 ·obtain ⟨hR,d1,d2,p1,p2⟩ := read_F h0 hf
  rw [if_neg (by omega)] at hRf
  obtain ⟨f2,ok2,hRt,hE⟩ := exact_all (dF x) (pF x) (negOf x) (by omega) (by omega) (by omega)
  have hX := exact_x hx h0 hf hRt
  have hE := hE w HA.out.tabs HA.out.powz
  have hF := flo_of h0 hf
  have hk : (((expOf (rungOf x) : Int) - 1074) + 1074).toNat * 4503599627370496 + magOf (rungOf x) = rungOf x := by
   have h1 := (rung_pack (rungOf x)).1
   have h2 : (2 : Nat) ^ 52 = 4503599627370496 := by decide
   rw [h2] at h1
   rw [show (((expOf (rungOf x) : Int) - 1074) + 1074).toNat = expOf (rungOf x) by omega]
   exact h1.symm
  have hP0 := fun sg hs0 W RW => pf_right (dF x) sg (pF x) _ _ hF d1 d2 (by omega) (by omega) hs0 hR W RW
  simp only [hk] at hP0
  have opt := HA.out.tabs.opt
  have hB2 := bool2_any (negOf x)
  clear hR hF hk hRt h0 hf
  generalize rungOf x = rg at *
  generalize dF x = m at *
  generalize pF x = p at *
  generalize negOf x = neg at *
  have m0 : ((m : Int) == 0) = false := by rw [beq_eq_false_iff_ne]; omega
  have q1 : decide (310 < p) = false := by simp; omega
  have q1' : p ≤ 310 := by omega
  have q2 : decide (p < -345) = false := by simp; omega
  have q2' : -345 ≤ p := by omega
  have HS := Lib.hid hsg
  clear hsg
  go_enter Tryz.func171,Tryz.ntmps171
  go_wp2_with fail
  refine (hSp _).mono ?_
  rintro e w1 ⟨rfl,hw1⟩
  obtain rfl : w = w1 := hw1.symm
  go_wp2_with fail
  refine (hRf _).mono ?_
  rintro e w1 ⟨v,rfl,⟨u,hv⟩,hw1⟩
  obtain rfl : w = w1 := hw1.symm
  obtain ⟨rfl,-⟩ := hv
  clear hSp hRf
  go_upto_region 11 with fail
  go_cut [16] from 65 to 67 (fun s16 wy => ∃ sg : Nat,s16 = .int .u64 sg ∧ wy = w ∧ Hid ((sg = 0 ∨ sg = 9223372036854775808) ∧ sg + rg = x))
  case first =>
   cases neg with
   | true =>
    go_wp2_with fail
    refine (hB2 _).mono ?_
    rintro e w1 ⟨rfl,rfl⟩
    simp only [if_true]
    go_wp2_with fail
    go_meet
    exact ⟨9223372036854775808,rfl,by trivial,Lib.hid ⟨.inr rfl,HS.out⟩⟩
   | false =>
    go_wp2_with fail
    refine (hB2 _).mono ?_
    rintro e w1 ⟨rfl,rfl⟩
    simp only [Bool.false_eq_true,if_false]
    go_wp2_with fail
    go_meet
    exact ⟨0,rfl,by trivial,Lib.hid ⟨.inl rfl,HS.out⟩⟩
  case rest =>
   obtain ⟨sg,rfl,hwc,HG⟩ := hcut
   obtain rfl : w = wc := hwc.symm
   clear hB2 HS
   have hP := hP0 sg HG.out.1 w HA.out.rowz
   rw [HG.out.2] at hP
   clear hP0
   cases ok2 with
   | true =>
    have e : f2 = x := hX rfl
    subst e
    go_wp2_with fail
    refine hE.mono ?_
    rintro e w1 ⟨rfl,hw1⟩
    obtain rfl : w = w1 := hw1.symm
    go_wp2_with fail
    go_ret3
    exact ⟨rfl,Below.refl _ _⟩
   | false =>
    go_wp2_with fail
    refine hE.mono ?_
    rintro e w1 ⟨rfl,hw1⟩
    obtain rfl : w = w1 := hw1.symm
    go_wp2_with fail
    refine hP.mono ?_
    rintro e w1 ⟨rfl,b1⟩
    go_wp2_with fail
    go_ret3
    exact ⟨rfl,b1⟩
theorem atof_right : AtofRight := by
 intro x hx hr w A
 by_cases h : rungOf x = INF
 ·exact right_inf x hx h w
 ·have e : numL x = txtL (negOf x) (gF x) (nF x) (XF x) := by unfold numL; rw [if_neg h]
  rw [e]
  exact right_fin x hx (by omega) w A
end Go.Proofs.YtalaajniammggaaGreatDoor

/- What is printed is read as just those bits, and the other way round. -/
namespace Go.Proofs.YtalaajniammggaaGreatDoor
open Go.RowKit
theorem wd_back (b : Int) (h1 : -9223372036854775808 ≤ b) (h2 : b ≤ 9223372036854775807) : wrap64 (wd b : Int) = b := by
 unfold wd wrap64
 rw [IntKind.wrap_u64]
 omega
end Go.Proofs.YtalaajniammggaaGreatDoor
