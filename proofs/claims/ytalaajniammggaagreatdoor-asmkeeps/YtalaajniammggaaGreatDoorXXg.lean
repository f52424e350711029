/- Infinities and no numbers, read by the library. -/
import Derived.Test.YtalaajniammggaaGreatDoorXXf
namespace Go.Proofs.YtalaajniammggaaGreatDoor
open Go.RowKit
def lowN (a : Nat) : Nat := if 65 ≤ a ∧ a ≤ 90 then a + 32 else a
def cpl : List UInt8 → List UInt8 → Nat
 | a :: s,b :: p => if lowN a.toNat = b.toNat then cpl s p + 1 else 0
 | _,_ => 0
theorem cpl_le : ∀ (s p : List UInt8),cpl s p ≤ s.length ∧ cpl s p ≤ p.length
 | [],p => by cases p <;> simp [cpl]
 | a :: s,[] => by simp [cpl]
 | a :: s,b :: p => by
  have := cpl_le s p
  unfold cpl
  split <;> simp <;> omega
theorem cpl_drop (s p : List UInt8) (i : Nat) (hi : i < s.length) (hj : i < p.length) : cpl (s.drop i) (p.drop i) = if lowN (s[i]).toNat = (p[i]).toNat then cpl (s.drop (i + 1)) (p.drop (i + 1)) + 1 else 0 := by
 rw [List.drop_eq_getElem_cons hi,List.drop_eq_getElem_cons hj]
 rfl
theorem cpl_end (s p : List UInt8) (i : Nat) (h : s.length ≤ i ∨ p.length ≤ i) : cpl (s.drop i) (p.drop i) = 0 := by
 rcases h with h | h
 ·rw [List.drop_eq_nil_of_le h]; cases p.drop i <;> rfl
 ·rw [List.drop_eq_nil_of_le h]; cases s.drop i <;> rfl
theorem size_list (s : ByteArray) : s.data.toList.length = s.size := by
 show s.data.toList.length = s.data.size
 exact Array.length_toList
theorem get_list (s : ByteArray) (i : Nat) (h : i < s.size) : s.data.toList[i]'(by rw [size_list]; exact h) = s[i] := rfl
set_option maxRecDepth 100000 in
set_option maxHeartbeats 1000000 in
theorem prefix_any (s p : ByteArray) (hs : s.size ≤ 140737488355328) (_hp : p.size ≤ 100) (w : World) :
  Calls Tryz.prog 188 #[.string s,.string p] w fun e w' => e = .returned (.int .i64 (cpl s.data.toList p.data.toList : Nat)) ∧ w' = w := by
 obtain ⟨C,hC⟩ : ∃ C,Hid (cpl s.data.toList p.data.toList = C) := ⟨_,rfl⟩
 rw [hC.out]
 obtain ⟨n,hn⟩ : ∃ n : Nat,Hid (n = min p.size s.size) := ⟨_,rfl⟩
 have hmin : min (p.size : Int) (s.size : Int) = (n : Int) := by have := hn.out; omega
 have n1 : n ≤ p.size := by have := hn.out; omega
 have n2 : n ≤ s.size := by have := hn.out; omega
 have n3 : Hid (p.size ≤ n ∨ s.size ≤ n) := by have := hn.out; exact Lib.hid (by omega)
 go_enter Tryz.func188,Tryz.ntmps188
 go_wp2_with fail
 go_loopw [6,7] (fun v6 _ wr => ∃ i : Nat,v6 = .int .i64 i ∧ i ≤ n ∧ Hid (C = i + cpl (s.data.toList.drop i) (p.data.toList.drop i)) ∧ wr = w) (fun v6 _ _ => n - (intOf v6).toNat)
 case atStart => exact ⟨0,rfl,Nat.zero_le _,Lib.hid (by rw [← hC.out]; simp),rfl⟩
 case round =>
  obtain ⟨i,rfl,hi,HI,rfl⟩ := hrel
  by_cases hlt : i < n
  ·have hlt' : (i : Int) < (n : Int) := by omega
   have is : i < s.size := by omega
   have ip : i < p.size := by omega
   have hc := cpl_drop s.data.toList p.data.toList i (by rw [size_list]; exact is) (by rw [size_list]; exact ip)
   rw [get_list s i is,get_list p i ip] at hc
   have HC := Lib.hid hc
   clear hc
   obtain ⟨a,ha⟩ : ∃ a,s[i] = a := ⟨_,rfl⟩
   obtain ⟨b,hb⟩ : ∃ b,p[i] = b := ⟨_,rfl⟩
   have isI : (i : Int) < (s.size : Int) := by omega
   have ipI : (i : Int) < (p.size : Int) := by omega
   have a255 : a.toNat < 256 := a.toNat_lt
   have HA := Lib.hid ha
   have HB := Lib.hid hb
   by_cases h65 : 65 ≤ a.toNat
   ·by_cases h90 : a.toNat ≤ 90
    ·have el : lowN a.toNat = a.toNat + 32 := by unfold lowN; rw [if_pos ⟨h65,h90⟩]
     have h65' : (65 : Int) ≤ (a.toNat : Int) := by omega
     have h90' : (a.toNat : Int) ≤ 90 := by omega
     by_cases he : a.toNat + 32 = b.toNat
     ·have dq : (((a.toNat : Int) + 32) == (b.toNat : Int)) = true := by simp; omega
      have HI' : Hid (C = (i + 1) + cpl (s.data.toList.drop (i + 1)) (p.data.toList.drop (i + 1))) := Lib.hid (by
       rw [HI.out,HC.out,HA.out,HB.out,el,if_pos he]; omega)
      clear HC HA HB el
      go_wp2_with fail
      go_roundw
      case rel => exact ⟨i + 1,by go_num,by omega,HI',trivial⟩
      case measure => simp [intOf]; omega
     ·have dq : (((a.toNat : Int) + 32) == (b.toNat : Int)) = false := by simp; omega
      have EI : Hid (C = i) := Lib.hid (by rw [HI.out,HC.out,HA.out,HB.out,el,if_neg he]; rfl)
      clear HC HA HB el
      go_wp2_with fail
      go_ret
      rw [EI.out]
      exact ⟨rfl,rfl⟩
    ·have el : lowN a.toNat = a.toNat := by unfold lowN; rw [if_neg (by omega)]
     have h65' : (65 : Int) ≤ (a.toNat : Int) := by omega
     have h90' : decide ((a.toNat : Int) ≤ 90) = false := by simp; omega
     by_cases he : a.toNat = b.toNat
     ·have dq : (((a.toNat : Int)) == (b.toNat : Int)) = true := by simp; omega
      have HI' : Hid (C = (i + 1) + cpl (s.data.toList.drop (i + 1)) (p.data.toList.drop (i + 1))) := Lib.hid (by
       rw [HI.out,HC.out,HA.out,HB.out,el,if_pos he]; omega)
      clear HC HA HB el
      go_wp2_with fail
      go_roundw
      case rel => exact ⟨i + 1,by go_num,by omega,HI',trivial⟩
      case measure => simp [intOf]; omega
     ·have dq : (((a.toNat : Int)) == (b.toNat : Int)) = false := by simp; omega
      have EI : Hid (C = i) := Lib.hid (by rw [HI.out,HC.out,HA.out,HB.out,el,if_neg he]; rfl)
      clear HC HA HB el
      go_wp2_with fail
      go_ret
      rw [EI.out]
      exact ⟨rfl,rfl⟩
   ·have el : lowN a.toNat = a.toNat := by unfold lowN; rw [if_neg (by omega)]
    have h65' : decide ((65 : Int) ≤ (a.toNat : Int)) = false := by simp; omega
    by_cases he : a.toNat = b.toNat
    ·have dq : (((a.toNat : Int)) == (b.toNat : Int)) = true := by simp; omega
     have HI' : Hid (C = (i + 1) + cpl (s.data.toList.drop (i + 1)) (p.data.toList.drop (i + 1))) := Lib.hid (by
      rw [HI.out,HC.out,HA.out,HB.out,el,if_pos he]; omega)
     clear HC HA HB el
     go_wp2_with fail
     go_roundw
     case rel => exact ⟨i + 1,by go_num,by omega,HI',trivial⟩
     case measure => simp [intOf]; omega
    ·have dq : (((a.toNat : Int)) == (b.toNat : Int)) = false := by simp; omega
     have EI : Hid (C = i) := Lib.hid (by rw [HI.out,HC.out,HA.out,HB.out,el,if_neg he]; rfl)
     clear HC HA HB el
     go_wp2_with fail
     go_ret
     rw [EI.out]
     exact ⟨rfl,rfl⟩
  ·have hltd : decide ((i : Int) < (n : Int)) = false := by simp; omega
   have ei : C = i := by rw [HI.out,cpl_end _ _ _ (by rw [size_list,size_list]; have := n3.out; omega)]; rfl
   have EI := Lib.hid ei
   clear ei
   go_wp2_with fail
   go_ret
   rw [EI.out]
   exact ⟨by rw [show n = i by omega]; rfl,rfl⟩
end Go.Proofs.YtalaajniammggaaGreatDoor

/- Infinities and no numbers: special. -/
namespace Go.Proofs.YtalaajniammggaaGreatDoor
open Go.RowKit
def inftyL : List UInt8 := [105,110,102,105,110,105,116,121]
def takeN (n : Nat) : Nat := if 3 < n ∧ n < 8 then 3 else n
def infR (f k n : Nat) : Nat × Nat × Bool := if takeN n = 3 ∨ takeN n = 8 then (f,k + takeN n,true) else (0,0,false)
def spR : List UInt8 → Nat × Nat × Bool
 | [] => (0,0,false)
 | c :: r =>
  if c = 43 then infR 9218868437227405312 1 (cpl r inftyL) else
  if c = 45 then infR 18442240474082181120 1 (cpl r inftyL) else
  if c = 105 ∨ c = 73 then infR 9218868437227405312 0 (cpl (c :: r) inftyL) else
  if c = 110 ∨ c = 78 then (if cpl (c :: r) [110,97,110] = 3 then (9221120237041090561,3,true) else (0,0,false)) else (0,0,false)
theorem inf_pos (w : World) : Calls Tryz.prog 189 #[.int .i64 1] w fun e w' => e = .returned (.float .f64 9218868437227405312) ∧ w' = w := by
 have c153 := call153
 go_enter Tryz.func189,Tryz.ntmps189
 go_wp2
 go_ret
 exact ⟨rfl,rfl⟩
theorem inf_neg (w : World) : Calls Tryz.prog 189 #[.int .i64 (-1)] w fun e w' => e = .returned (.float .f64 18442240474082181120) ∧ w' = w := by
 have c153 := call153
 go_enter Tryz.func189,Tryz.ntmps189
 go_wp2
 go_ret
 exact ⟨rfl,rfl⟩
theorem nan_any (w : World) : Calls Tryz.prog 190 #[] w fun e w' => e = .returned (.float .f64 9221120237041090561) ∧ w' = w := by
 have c153 := call153
 go_enter Tryz.func190,Tryz.ntmps190
 go_wp2
 go_ret
 exact ⟨rfl,rfl⟩
def SpPost (s : ByteArray) (x : Nat × Nat × Bool) : Prop := ∀ w,Calls Tryz.prog 176 #[.string s] w fun e w' => e = .returned (.tuple #[.float .f64 x.1,.int .i64 x.2.1,.bool x.2.2]) ∧ w' = w
set_option maxRecDepth 100000 in
theorem sp_empty (s : ByteArray) (h : s.size = 0) : SpPost s (0,0,false) := by
 intro w
 have h' : (s.size : Int) = 0 := by omega
 go_enter Tryz.func176,Tryz.ntmps176
 go_wp2_with fail
 go_ret3
 exact ⟨rfl,rfl⟩
set_option maxRecDepth 100000 in
theorem sp_other (s : ByteArray) (h0 : 0 < s.size) (hs : s.size ≤ 140737488355328) (c : UInt8) (hc : s[0] = c) (h1 : c.toNat ≠ 43) (h2 : c.toNat ≠ 45) (h3 : c.toNat ≠ 105) (h4 : c.toNat ≠ 73) (h5 : c.toNat ≠ 110) (h6 : c.toNat ≠ 78) : SpPost s (0,0,false) := by
 intro w
 have h0' : (0 : Int) < (s.size : Int) := by omega
 have h00 : ((s.size : Int) == 0) = false := by rw [beq_eq_false_iff_ne]; omega
 have d1 : ((c.toNat : Int) == 43) = false := by simp; omega
 have d2 : ((c.toNat : Int) == 45) = false := by simp; omega
 have d3 : ((c.toNat : Int) == 105) = false := by simp; omega
 have d4 : ((c.toNat : Int) == 73) = false := by simp; omega
 have d5 : ((c.toNat : Int) == 110) = false := by simp; omega
 have d6 : ((c.toNat : Int) == 78) = false := by simp; omega
 go_enter Tryz.func176,Tryz.ntmps176
 go_wp2_with fail
 go_ret3
 exact ⟨rfl,rfl⟩
set_option maxRecDepth 100000 in
theorem sp_plusa (s : ByteArray) (h0 : 0 < s.size) (hs : s.size ≤ 140737488355328) (hc : s[0] = (43 : UInt8)) (n : Nat) (hp : ∀ w,Calls Tryz.prog 188 #[.string (s.extract 1 s.size),.string ⟨#[105,110,102,105,110,105,116,121]⟩] w fun e w' => e = .returned (.int .i64 n) ∧ w' = w) (hn : 3 < n) (hn2 : n < 8) : SpPost s (9218868437227405312,1 + 3,true) := by
 intro w
 have h0' : (0 : Int) < (s.size : Int) := by omega
 have h00 : ((s.size : Int) == 0) = false := by rw [beq_eq_false_iff_ne]; omega
 have a1 : (3 : Int) < (n : Int) := by omega
 have a2 : (n : Int) < 8 := by omega
 have hi := inf_pos
 have ct : ((43 : UInt8).toNat : Int) = 43 := rfl
 have h1s : (1 : Int) ≤ (s.size : Int) := by omega
 go_enter Tryz.func176,Tryz.ntmps176
 go_wp2_with fail
 refine (hp _).mono ?_
 rintro e w1 ⟨rfl,rfl⟩
 go_wp2_with fail
 refine (hi _).mono ?_
 rintro e w1 ⟨rfl,rfl⟩
 go_wp2_with fail
 go_ret3
 exact ⟨rfl,rfl⟩
set_option maxRecDepth 100000 in
theorem sp_plusb (s : ByteArray) (h0 : 0 < s.size) (hs : s.size ≤ 140737488355328) (hc : s[0] = (43 : UInt8)) (n : Nat) (hp : ∀ w,Calls Tryz.prog 188 #[.string (s.extract 1 s.size),.string ⟨#[105,110,102,105,110,105,116,121]⟩] w fun e w' => e = .returned (.int .i64 n) ∧ w' = w) (hn : n = 3) : SpPost s (9218868437227405312,1 + 3,true) := by
 intro w
 have h0' : (0 : Int) < (s.size : Int) := by omega
 have h00 : ((s.size : Int) == 0) = false := by rw [beq_eq_false_iff_ne]; omega
 subst hn
 have hi := inf_pos
 have ct : ((43 : UInt8).toNat : Int) = 43 := rfl
 have h1s : (1 : Int) ≤ (s.size : Int) := by omega
 go_enter Tryz.func176,Tryz.ntmps176
 go_wp2_with fail
 refine (hp _).mono ?_
 rintro e w1 ⟨rfl,rfl⟩
 go_wp2_with fail
 refine (hi _).mono ?_
 rintro e w1 ⟨rfl,rfl⟩
 go_wp2_with fail
 go_ret3
 exact ⟨rfl,rfl⟩
set_option maxRecDepth 100000 in
theorem sp_plusc (s : ByteArray) (h0 : 0 < s.size) (hs : s.size ≤ 140737488355328) (hc : s[0] = (43 : UInt8)) (n : Nat) (hp : ∀ w,Calls Tryz.prog 188 #[.string (s.extract 1 s.size),.string ⟨#[105,110,102,105,110,105,116,121]⟩] w fun e w' => e = .returned (.int .i64 n) ∧ w' = w) (hn : n = 8) : SpPost s (9218868437227405312,1 + 8,true) := by
 intro w
 have h0' : (0 : Int) < (s.size : Int) := by omega
 have h00 : ((s.size : Int) == 0) = false := by rw [beq_eq_false_iff_ne]; omega
 subst hn
 have hi := inf_pos
 have ct : ((43 : UInt8).toNat : Int) = 43 := rfl
 have h1s : (1 : Int) ≤ (s.size : Int) := by omega
 go_enter Tryz.func176,Tryz.ntmps176
 go_wp2_with fail
 refine (hp _).mono ?_
 rintro e w1 ⟨rfl,rfl⟩
 go_wp2_with fail
 refine (hi _).mono ?_
 rintro e w1 ⟨rfl,rfl⟩
 go_wp2_with fail
 go_ret3
 exact ⟨rfl,rfl⟩
set_option maxRecDepth 100000 in
theorem sp_plusd (s : ByteArray) (h0 : 0 < s.size) (hs : s.size ≤ 140737488355328) (hc : s[0] = (43 : UInt8)) (n : Nat) (hp : ∀ w,Calls Tryz.prog 188 #[.string (s.extract 1 s.size),.string ⟨#[105,110,102,105,110,105,116,121]⟩] w fun e w' => e = .returned (.int .i64 n) ∧ w' = w) (hn : n < 3) : SpPost s (0,0,false) := by
 intro w
 have h0' : (0 : Int) < (s.size : Int) := by omega
 have h00 : ((s.size : Int) == 0) = false := by rw [beq_eq_false_iff_ne]; omega
 have a1 : decide ((3 : Int) < (n : Int)) = false := by simp; omega
 have a3 : ((n : Int) == 3) = false := by simp; omega
 have a4 : ((n : Int) == 8) = false := by simp; omega
 have a5 : (n : Int) ≤ 3 := by omega
 have hi := inf_pos
 have ct : ((43 : UInt8).toNat : Int) = 43 := rfl
 have h1s : (1 : Int) ≤ (s.size : Int) := by omega
 go_enter Tryz.func176,Tryz.ntmps176
 go_wp2_with fail
 refine (hp _).mono ?_
 rintro e w1 ⟨rfl,rfl⟩
 go_wp2_with fail
 go_ret3
 exact ⟨rfl,rfl⟩
set_option maxRecDepth 100000 in
theorem sp_minusa (s : ByteArray) (h0 : 0 < s.size) (hs : s.size ≤ 140737488355328) (hc : s[0] = (45 : UInt8)) (n : Nat) (hp : ∀ w,Calls Tryz.prog 188 #[.string (s.extract 1 s.size),.string ⟨#[105,110,102,105,110,105,116,121]⟩] w fun e w' => e = .returned (.int .i64 n) ∧ w' = w) (hn : 3 < n) (hn2 : n < 8) : SpPost s (18442240474082181120,1 + 3,true) := by
 intro w
 have h0' : (0 : Int) < (s.size : Int) := by omega
 have h00 : ((s.size : Int) == 0) = false := by rw [beq_eq_false_iff_ne]; omega
 have a1 : (3 : Int) < (n : Int) := by omega
 have a2 : (n : Int) < 8 := by omega
 have hi := inf_neg
 have ct : ((45 : UInt8).toNat : Int) = 45 := rfl
 have h1s : (1 : Int) ≤ (s.size : Int) := by omega
 go_enter Tryz.func176,Tryz.ntmps176
 go_wp2_with fail
 refine (hp _).mono ?_
 rintro e w1 ⟨rfl,rfl⟩
 go_wp2_with fail
 refine (hi _).mono ?_
 rintro e w1 ⟨rfl,rfl⟩
 go_wp2_with fail
 go_ret3
 exact ⟨rfl,rfl⟩
set_option maxRecDepth 100000 in
theorem sp_minusb (s : ByteArray) (h0 : 0 < s.size) (hs : s.size ≤ 140737488355328) (hc : s[0] = (45 : UInt8)) (n : Nat) (hp : ∀ w,Calls Tryz.prog 188 #[.string (s.extract 1 s.size),.string ⟨#[105,110,102,105,110,105,116,121]⟩] w fun e w' => e = .returned (.int .i64 n) ∧ w' = w) (hn : n = 3) : SpPost s (18442240474082181120,1 + 3,true) := by
 intro w
 have h0' : (0 : Int) < (s.size : Int) := by omega
 have h00 : ((s.size : Int) == 0) = false := by rw [beq_eq_false_iff_ne]; omega
 subst hn
 have hi := inf_neg
 have ct : ((45 : UInt8).toNat : Int) = 45 := rfl
 have h1s : (1 : Int) ≤ (s.size : Int) := by omega
 go_enter Tryz.func176,Tryz.ntmps176
 go_wp2_with fail
 refine (hp _).mono ?_
 rintro e w1 ⟨rfl,rfl⟩
 go_wp2_with fail
 refine (hi _).mono ?_
 rintro e w1 ⟨rfl,rfl⟩
 go_wp2_with fail
 go_ret3
 exact ⟨rfl,rfl⟩
set_option maxRecDepth 100000 in
theorem sp_minusc (s : ByteArray) (h0 : 0 < s.size) (hs : s.size ≤ 140737488355328) (hc : s[0] = (45 : UInt8)) (n : Nat) (hp : ∀ w,Calls Tryz.prog 188 #[.string (s.extract 1 s.size),.string ⟨#[105,110,102,105,110,105,116,121]⟩] w fun e w' => e = .returned (.int .i64 n) ∧ w' = w) (hn : n = 8) : SpPost s (18442240474082181120,1 + 8,true) := by
 intro w
 have h0' : (0 : Int) < (s.size : Int) := by omega
 have h00 : ((s.size : Int) == 0) = false := by rw [beq_eq_false_iff_ne]; omega
 subst hn
 have hi := inf_neg
 have ct : ((45 : UInt8).toNat : Int) = 45 := rfl
 have h1s : (1 : Int) ≤ (s.size : Int) := by omega
 go_enter Tryz.func176,Tryz.ntmps176
 go_wp2_with fail
 refine (hp _).mono ?_
 rintro e w1 ⟨rfl,rfl⟩
 go_wp2_with fail
 refine (hi _).mono ?_
 rintro e w1 ⟨rfl,rfl⟩
 go_wp2_with fail
 go_ret3
 exact ⟨rfl,rfl⟩
set_option maxRecDepth 100000 in
theorem sp_minusd (s : ByteArray) (h0 : 0 < s.size) (hs : s.size ≤ 140737488355328) (hc : s[0] = (45 : UInt8)) (n : Nat) (hp : ∀ w,Calls Tryz.prog 188 #[.string (s.extract 1 s.size),.string ⟨#[105,110,102,105,110,105,116,121]⟩] w fun e w' => e = .returned (.int .i64 n) ∧ w' = w) (hn : n < 3) : SpPost s (0,0,false) := by
 intro w
 have h0' : (0 : Int) < (s.size : Int) := by omega
 have h00 : ((s.size : Int) == 0) = false := by rw [beq_eq_false_iff_ne]; omega
 have a1 : decide ((3 : Int) < (n : Int)) = false := by simp; omega
 have a3 : ((n : Int) == 3) = false := by simp; omega
 have a4 : ((n : Int) == 8) = false := by simp; omega
 have a5 : (n : Int) ≤ 3 := by omega
 have hi := inf_neg
 have ct : ((45 : UInt8).toNat : Int) = 45 := rfl
 have h1s : (1 : Int) ≤ (s.size : Int) := by omega
 go_enter Tryz.func176,Tryz.ntmps176
 go_wp2_with fail
 refine (hp _).mono ?_
 rintro e w1 ⟨rfl,rfl⟩
 go_wp2_with fail
 go_ret3
 exact ⟨rfl,rfl⟩
set_option maxRecDepth 100000 in
theorem sp_ia (s : ByteArray) (h0 : 0 < s.size) (hs : s.size ≤ 140737488355328) (hc : s[0] = (105 : UInt8)) (n : Nat) (hp : ∀ w,Calls Tryz.prog 188 #[.string s,.string ⟨#[105,110,102,105,110,105,116,121]⟩] w fun e w' => e = .returned (.int .i64 n) ∧ w' = w) (hn : 3 < n) (hn2 : n < 8) : SpPost s (9218868437227405312,0 + 3,true) := by
 intro w
 have h0' : (0 : Int) < (s.size : Int) := by omega
 have h00 : ((s.size : Int) == 0) = false := by rw [beq_eq_false_iff_ne]; omega
 have a1 : (3 : Int) < (n : Int) := by omega
 have a2 : (n : Int) < 8 := by omega
 have hi := inf_pos
 have ct : ((105 : UInt8).toNat : Int) = 105 := rfl
 have h1s : (1 : Int) ≤ (s.size : Int) := by omega
 go_enter Tryz.func176,Tryz.ntmps176
 go_wp2_with fail
 refine (hp _).mono ?_
 rintro e w1 ⟨rfl,rfl⟩
 go_wp2_with fail
 refine (hi _).mono ?_
 rintro e w1 ⟨rfl,rfl⟩
 go_wp2_with fail
 go_ret3
 exact ⟨rfl,rfl⟩
set_option maxRecDepth 100000 in
theorem sp_ib (s : ByteArray) (h0 : 0 < s.size) (hs : s.size ≤ 140737488355328) (hc : s[0] = (105 : UInt8)) (n : Nat) (hp : ∀ w,Calls Tryz.prog 188 #[.string s,.string ⟨#[105,110,102,105,110,105,116,121]⟩] w fun e w' => e = .returned (.int .i64 n) ∧ w' = w) (hn : n = 3) : SpPost s (9218868437227405312,0 + 3,true) := by
 intro w
 have h0' : (0 : Int) < (s.size : Int) := by omega
 have h00 : ((s.size : Int) == 0) = false := by rw [beq_eq_false_iff_ne]; omega
 subst hn
 have hi := inf_pos
 have ct : ((105 : UInt8).toNat : Int) = 105 := rfl
 have h1s : (1 : Int) ≤ (s.size : Int) := by omega
 go_enter Tryz.func176,Tryz.ntmps176
 go_wp2_with fail
 refine (hp _).mono ?_
 rintro e w1 ⟨rfl,rfl⟩
 go_wp2_with fail
 refine (hi _).mono ?_
 rintro e w1 ⟨rfl,rfl⟩
 go_wp2_with fail
 go_ret3
 exact ⟨rfl,rfl⟩
set_option maxRecDepth 100000 in
theorem sp_ic (s : ByteArray) (h0 : 0 < s.size) (hs : s.size ≤ 140737488355328) (hc : s[0] = (105 : UInt8)) (n : Nat) (hp : ∀ w,Calls Tryz.prog 188 #[.string s,.string ⟨#[105,110,102,105,110,105,116,121]⟩] w fun e w' => e = .returned (.int .i64 n) ∧ w' = w) (hn : n = 8) : SpPost s (9218868437227405312,0 + 8,true) := by
 intro w
 have h0' : (0 : Int) < (s.size : Int) := by omega
 have h00 : ((s.size : Int) == 0) = false := by rw [beq_eq_false_iff_ne]; omega
 subst hn
 have hi := inf_pos
 have ct : ((105 : UInt8).toNat : Int) = 105 := rfl
 have h1s : (1 : Int) ≤ (s.size : Int) := by omega
 go_enter Tryz.func176,Tryz.ntmps176
 go_wp2_with fail
 refine (hp _).mono ?_
 rintro e w1 ⟨rfl,rfl⟩
 go_wp2_with fail
 refine (hi _).mono ?_
 rintro e w1 ⟨rfl,rfl⟩
 go_wp2_with fail
 go_ret3
 exact ⟨rfl,rfl⟩
set_option maxRecDepth 100000 in
theorem sp_id (s : ByteArray) (h0 : 0 < s.size) (hs : s.size ≤ 140737488355328) (hc : s[0] = (105 : UInt8)) (n : Nat) (hp : ∀ w,Calls Tryz.prog 188 #[.string s,.string ⟨#[105,110,102,105,110,105,116,121]⟩] w fun e w' => e = .returned (.int .i64 n) ∧ w' = w) (hn : n < 3) : SpPost s (0,0,false) := by
 intro w
 have h0' : (0 : Int) < (s.size : Int) := by omega
 have h00 : ((s.size : Int) == 0) = false := by rw [beq_eq_false_iff_ne]; omega
 have a1 : decide ((3 : Int) < (n : Int)) = false := by simp; omega
 have a3 : ((n : Int) == 3) = false := by simp; omega
 have a4 : ((n : Int) == 8) = false := by simp; omega
 have a5 : (n : Int) ≤ 3 := by omega
 have hi := inf_pos
 have ct : ((105 : UInt8).toNat : Int) = 105 := rfl
 have h1s : (1 : Int) ≤ (s.size : Int) := by omega
 go_enter Tryz.func176,Tryz.ntmps176
 go_wp2_with fail
 refine (hp _).mono ?_
 rintro e w1 ⟨rfl,rfl⟩
 go_wp2_with fail
 go_ret3
 exact ⟨rfl,rfl⟩
set_option maxRecDepth 100000 in
theorem sp_Ia (s : ByteArray) (h0 : 0 < s.size) (hs : s.size ≤ 140737488355328) (hc : s[0] = (73 : UInt8)) (n : Nat) (hp : ∀ w,Calls Tryz.prog 188 #[.string s,.string ⟨#[105,110,102,105,110,105,116,121]⟩] w fun e w' => e = .returned (.int .i64 n) ∧ w' = w) (hn : 3 < n) (hn2 : n < 8) : SpPost s (9218868437227405312,0 + 3,true) := by
 intro w
 have h0' : (0 : Int) < (s.size : Int) := by omega
 have h00 : ((s.size : Int) == 0) = false := by rw [beq_eq_false_iff_ne]; omega
 have a1 : (3 : Int) < (n : Int) := by omega
 have a2 : (n : Int) < 8 := by omega
 have hi := inf_pos
 have ct : ((73 : UInt8).toNat : Int) = 73 := rfl
 have h1s : (1 : Int) ≤ (s.size : Int) := by omega
 go_enter Tryz.func176,Tryz.ntmps176
 go_wp2_with fail
 refine (hp _).mono ?_
 rintro e w1 ⟨rfl,rfl⟩
 go_wp2_with fail
 refine (hi _).mono ?_
 rintro e w1 ⟨rfl,rfl⟩
 go_wp2_with fail
 go_ret3
 exact ⟨rfl,rfl⟩
set_option maxRecDepth 100000 in
theorem sp_Ib (s : ByteArray) (h0 : 0 < s.size) (hs : s.size ≤ 140737488355328) (hc : s[0] = (73 : UInt8)) (n : Nat) (hp : ∀ w,Calls Tryz.prog 188 #[.string s,.string ⟨#[105,110,102,105,110,105,116,121]⟩] w fun e w' => e = .returned (.int .i64 n) ∧ w' = w) (hn : n = 3) : SpPost s (9218868437227405312,0 + 3,true) := by
 intro w
 have h0' : (0 : Int) < (s.size : Int) := by omega
 have h00 : ((s.size : Int) == 0) = false := by rw [beq_eq_false_iff_ne]; omega
 subst hn
 have hi := inf_pos
 have ct : ((73 : UInt8).toNat : Int) = 73 := rfl
 have h1s : (1 : Int) ≤ (s.size : Int) := by omega
 go_enter Tryz.func176,Tryz.ntmps176
 go_wp2_with fail
 refine (hp _).mono ?_
 rintro e w1 ⟨rfl,rfl⟩
 go_wp2_with fail
 refine (hi _).mono ?_
 rintro e w1 ⟨rfl,rfl⟩
 go_wp2_with fail
 go_ret3
 exact ⟨rfl,rfl⟩
set_option maxRecDepth 100000 in
theorem sp_Ic (s : ByteArray) (h0 : 0 < s.size) (hs : s.size ≤ 140737488355328) (hc : s[0] = (73 : UInt8)) (n : Nat) (hp : ∀ w,Calls Tryz.prog 188 #[.string s,.string ⟨#[105,110,102,105,110,105,116,121]⟩] w fun e w' => e = .returned (.int .i64 n) ∧ w' = w) (hn : n = 8) : SpPost s (9218868437227405312,0 + 8,true) := by
 intro w
 have h0' : (0 : Int) < (s.size : Int) := by omega
 have h00 : ((s.size : Int) == 0) = false := by rw [beq_eq_false_iff_ne]; omega
 subst hn
 have hi := inf_pos
 have ct : ((73 : UInt8).toNat : Int) = 73 := rfl
 have h1s : (1 : Int) ≤ (s.size : Int) := by omega
 go_enter Tryz.func176,Tryz.ntmps176
 go_wp2_with fail
 refine (hp _).mono ?_
 rintro e w1 ⟨rfl,rfl⟩
 go_wp2_with fail
 refine (hi _).mono ?_
 rintro e w1 ⟨rfl,rfl⟩
 go_wp2_with fail
 go_ret3
 exact ⟨rfl,rfl⟩
set_option maxRecDepth 100000 in
theorem sp_Id (s : ByteArray) (h0 : 0 < s.size) (hs : s.size ≤ 140737488355328) (hc : s[0] = (73 : UInt8)) (n : Nat) (hp : ∀ w,Calls Tryz.prog 188 #[.string s,.string ⟨#[105,110,102,105,110,105,116,121]⟩] w fun e w' => e = .returned (.int .i64 n) ∧ w' = w) (hn : n < 3) : SpPost s (0,0,false) := by
 intro w
 have h0' : (0 : Int) < (s.size : Int) := by omega
 have h00 : ((s.size : Int) == 0) = false := by rw [beq_eq_false_iff_ne]; omega
 have a1 : decide ((3 : Int) < (n : Int)) = false := by simp; omega
 have a3 : ((n : Int) == 3) = false := by simp; omega
 have a4 : ((n : Int) == 8) = false := by simp; omega
 have a5 : (n : Int) ≤ 3 := by omega
 have hi := inf_pos
 have ct : ((73 : UInt8).toNat : Int) = 73 := rfl
 have h1s : (1 : Int) ≤ (s.size : Int) := by omega
 go_enter Tryz.func176,Tryz.ntmps176
 go_wp2_with fail
 refine (hp _).mono ?_
 rintro e w1 ⟨rfl,rfl⟩
 go_wp2_with fail
 go_ret3
 exact ⟨rfl,rfl⟩
set_option maxRecDepth 100000 in
theorem sp_na (s : ByteArray) (h0 : 0 < s.size) (hs : s.size ≤ 140737488355328) (hc : s[0] = (110 : UInt8)) (n : Nat) (hp : ∀ w,Calls Tryz.prog 188 #[.string s,.string ⟨#[110,97,110]⟩] w fun e w' => e = .returned (.int .i64 n) ∧ w' = w) (hn : n = 3) : SpPost s (9221120237041090561,3,true) := by
 intro w
 have h0' : (0 : Int) < (s.size : Int) := by omega
 have h00 : ((s.size : Int) == 0) = false := by rw [beq_eq_false_iff_ne]; omega
 subst hn
 have ct : ((110 : UInt8).toNat : Int) = 110 := rfl
 have hi := nan_any
 go_enter Tryz.func176,Tryz.ntmps176
 go_wp2_with fail
 refine (hp _).mono ?_
 rintro e w1 ⟨rfl,rfl⟩
 go_wp2_with fail
 refine (hi _).mono ?_
 rintro e w1 ⟨rfl,rfl⟩
 go_wp2_with fail
 go_ret3
 exact ⟨rfl,rfl⟩
set_option maxRecDepth 100000 in
theorem sp_nb (s : ByteArray) (h0 : 0 < s.size) (hs : s.size ≤ 140737488355328) (hc : s[0] = (110 : UInt8)) (n : Nat) (hp : ∀ w,Calls Tryz.prog 188 #[.string s,.string ⟨#[110,97,110]⟩] w fun e w' => e = .returned (.int .i64 n) ∧ w' = w) (hn : n ≠ 3) : SpPost s (0,0,false) := by
 intro w
 have h0' : (0 : Int) < (s.size : Int) := by omega
 have h00 : ((s.size : Int) == 0) = false := by rw [beq_eq_false_iff_ne]; omega
 have a3 : ((n : Int) == 3) = false := by simp; omega
 have ct : ((110 : UInt8).toNat : Int) = 110 := rfl
 have hi := nan_any
 go_enter Tryz.func176,Tryz.ntmps176
 go_wp2_with fail
 refine (hp _).mono ?_
 rintro e w1 ⟨rfl,rfl⟩
 go_wp2_with fail
 go_ret3
 exact ⟨rfl,rfl⟩
set_option maxRecDepth 100000 in
theorem sp_Na (s : ByteArray) (h0 : 0 < s.size) (hs : s.size ≤ 140737488355328) (hc : s[0] = (78 : UInt8)) (n : Nat) (hp : ∀ w,Calls Tryz.prog 188 #[.string s,.string ⟨#[110,97,110]⟩] w fun e w' => e = .returned (.int .i64 n) ∧ w' = w) (hn : n = 3) : SpPost s (9221120237041090561,3,true) := by
 intro w
 have h0' : (0 : Int) < (s.size : Int) := by omega
 have h00 : ((s.size : Int) == 0) = false := by rw [beq_eq_false_iff_ne]; omega
 subst hn
 have ct : ((78 : UInt8).toNat : Int) = 78 := rfl
 have hi := nan_any
 go_enter Tryz.func176,Tryz.ntmps176
 go_wp2_with fail
 refine (hp _).mono ?_
 rintro e w1 ⟨rfl,rfl⟩
 go_wp2_with fail
 refine (hi _).mono ?_
 rintro e w1 ⟨rfl,rfl⟩
 go_wp2_with fail
 go_ret3
 exact ⟨rfl,rfl⟩
set_option maxRecDepth 100000 in
theorem sp_Nb (s : ByteArray) (h0 : 0 < s.size) (hs : s.size ≤ 140737488355328) (hc : s[0] = (78 : UInt8)) (n : Nat) (hp : ∀ w,Calls Tryz.prog 188 #[.string s,.string ⟨#[110,97,110]⟩] w fun e w' => e = .returned (.int .i64 n) ∧ w' = w) (hn : n ≠ 3) : SpPost s (0,0,false) := by
 intro w
 have h0' : (0 : Int) < (s.size : Int) := by omega
 have h00 : ((s.size : Int) == 0) = false := by rw [beq_eq_false_iff_ne]; omega
 have a3 : ((n : Int) == 3) = false := by simp; omega
 have ct : ((78 : UInt8).toNat : Int) = 78 := rfl
 have hi := nan_any
 go_enter Tryz.func176,Tryz.ntmps176
 go_wp2_with fail
 refine (hp _).mono ?_
 rintro e w1 ⟨rfl,rfl⟩
 go_wp2_with fail
 go_ret3
 exact ⟨rfl,rfl⟩
theorem take_cases (n : Nat) (h : n ≤ 8) : (3 < n ∧ n < 8 ∧ takeN n = 3) ∨ (n = 3 ∧ takeN n = 3) ∨ (n = 8 ∧ takeN n = 8) ∨ (n < 3 ∧ takeN n = n) := by
 unfold takeN
 split <;> omega
theorem tail_list (s : ByteArray) (h0 : 0 < s.size) : s.data.toList = s[0] :: (s.extract 1 s.size).data.toList := by
 have hl : 0 < s.data.toList.length := by rw [size_list]; exact h0
 rw [Lib.extract_data]
 conv => lhs; rw [← List.drop_zero (l := s.data.toList),List.drop_eq_getElem_cons hl]
 rw [get_list s 0 h0,List.take_of_length_le (by rw [List.length_drop,size_list]; omega)]
theorem special_any (s : ByteArray) (hs : s.size ≤ 140737488355328) : SpPost s (spR s.data.toList) := by
 rcases Nat.eq_zero_or_pos s.size with h0 | h0
 ·have : s.data.toList = [] := List.eq_nil_of_length_eq_zero (by rw [size_list]; exact h0)
  rw [this]
  exact sp_empty s h0
 have hT := tail_list s h0
 have hps := fun W => prefix_any s ⟨#[105,110,102,105,110,105,116,121]⟩ hs (by decide) W
 have hpn := fun W => prefix_any s ⟨#[110,97,110]⟩ hs (by decide) W
 have hpt := fun W => prefix_any (s.extract 1 s.size) ⟨#[105,110,102,105,110,105,116,121]⟩ (by
  have : (s.extract 1 s.size).data.toList.length ≤ s.size := by rw [Lib.extract_data,List.length_take,List.length_drop,size_list]; omega
  rw [size_list] at this
  omega) (by decide) W
 have c1 := (cpl_le s.data.toList inftyL).2
 have c2 := (cpl_le (s.extract 1 s.size).data.toList inftyL).2
 rw [show inftyL.length = 8 from rfl] at c1 c2
 rw [show (⟨#[105,110,102,105,110,105,116,121]⟩ : ByteArray).data.toList = inftyL from rfl] at hps hpt
 rw [show (⟨#[110,97,110]⟩ : ByteArray).data.toList = [110,97,110] from rfl] at hpn
 obtain ⟨c,hc⟩ : ∃ c,s[0] = c := ⟨_,rfl⟩
 rw [hc] at hT
 have key : spR s.data.toList = if c = 43 then infR 9218868437227405312 1 (cpl (s.extract 1 s.size).data.toList inftyL) else
  if c = 45 then infR 18442240474082181120 1 (cpl (s.extract 1 s.size).data.toList inftyL) else
  if c = 105 ∨ c = 73 then infR 9218868437227405312 0 (cpl s.data.toList inftyL) else
  if c = 110 ∨ c = 78 then (if cpl s.data.toList [110,97,110] = 3 then (9221120237041090561,3,true) else (0,0,false)) else (0,0,false) := by
  rw [hT]; rfl
 rw [key]
 clear key hT
 generalize cpl s.data.toList inftyL = n1 at *
 generalize cpl s.data.toList [110,97,110] = n2 at *
 generalize cpl (s.extract 1 s.size).data.toList inftyL = n3 at *
 by_cases h43 : c = 43
 ·rw [if_pos h43]
  subst h43
  unfold infR
  rcases take_cases n3 c2 with ⟨a,b,t⟩ | ⟨a,t⟩ | ⟨a,t⟩ | ⟨a,t⟩
  ·rw [if_pos (.inl t),t]; exact sp_plusa s h0 hs hc n3 hpt a b
  ·rw [if_pos (.inl t),t]; exact sp_plusb s h0 hs hc n3 hpt a
  ·rw [if_pos (.inr t),t]; exact sp_plusc s h0 hs hc n3 hpt a
  ·rw [if_neg (by omega)]; exact sp_plusd s h0 hs hc n3 hpt a
 rw [if_neg h43]
 by_cases h45 : c = 45
 ·rw [if_pos h45]
  subst h45
  unfold infR
  rcases take_cases n3 c2 with ⟨a,b,t⟩ | ⟨a,t⟩ | ⟨a,t⟩ | ⟨a,t⟩
  ·rw [if_pos (.inl t),t]; exact sp_minusa s h0 hs hc n3 hpt a b
  ·rw [if_pos (.inl t),t]; exact sp_minusb s h0 hs hc n3 hpt a
  ·rw [if_pos (.inr t),t]; exact sp_minusc s h0 hs hc n3 hpt a
  ·rw [if_neg (by omega)]; exact sp_minusd s h0 hs hc n3 hpt a
 rw [if_neg h45]
 by_cases hi : c = 105 ∨ c = 73
 ·rw [if_pos hi]
  unfold infR
  rcases hi with rfl | rfl
  ·rcases take_cases n1 c1 with ⟨a,b,t⟩ | ⟨a,t⟩ | ⟨a,t⟩ | ⟨a,t⟩
   ·rw [if_pos (.inl t),t]; exact sp_ia s h0 hs hc n1 hps a b
   ·rw [if_pos (.inl t),t]; exact sp_ib s h0 hs hc n1 hps a
   ·rw [if_pos (.inr t),t]; exact sp_ic s h0 hs hc n1 hps a
   ·rw [if_neg (by omega)]; exact sp_id s h0 hs hc n1 hps a
  ·rcases take_cases n1 c1 with ⟨a,b,t⟩ | ⟨a,t⟩ | ⟨a,t⟩ | ⟨a,t⟩
   ·rw [if_pos (.inl t),t]; exact sp_Ia s h0 hs hc n1 hps a b
   ·rw [if_pos (.inl t),t]; exact sp_Ib s h0 hs hc n1 hps a
   ·rw [if_pos (.inr t),t]; exact sp_Ic s h0 hs hc n1 hps a
   ·rw [if_neg (by omega)]; exact sp_Id s h0 hs hc n1 hps a
 rw [if_neg hi]
 by_cases hn : c = 110 ∨ c = 78
 ·rw [if_pos hn]
  rcases hn with rfl | rfl
  ·by_cases h3 : n2 = 3
   ·rw [if_pos h3]; exact sp_na s h0 hs hc n2 hpn h3
   ·rw [if_neg h3]; exact sp_nb s h0 hs hc n2 hpn h3
  ·by_cases h3 : n2 = 3
   ·rw [if_pos h3]; exact sp_Na s h0 hs hc n2 hpn h3
   ·rw [if_neg h3]; exact sp_Nb s h0 hs hc n2 hpn h3
 rw [if_neg hn]
 have ne : ∀ k : UInt8,c ≠ k → c.toNat ≠ k.toNat := fun k h e => h (UInt8.toNat_inj.1 e)
 exact sp_other s h0 hs c hc (ne 43 h43) (ne 45 h45) (ne 105 (fun e => hi (.inl e))) (ne 73 (fun e => hi (.inr e))) (ne 110 (fun e => hn (.inl e))) (ne 78 (fun e => hn (.inr e)))
end Go.Proofs.YtalaajniammggaaGreatDoor
