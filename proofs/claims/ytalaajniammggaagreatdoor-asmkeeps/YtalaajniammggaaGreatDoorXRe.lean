/- The document's Read. -/
import Derived.Test.YtalaajniammggaaGreatDoorXRd
import Derived.Test.YtalaajniammggaaGreatDoorXAa
import Derived.Deep.RegionWith
namespace Go.Proofs.YtalaajniammggaaGreatDoor
open Go.RowKit
def fsF (a b c d : Bool) : Nat → List Nat
 | 0 => (if a = true then [0] else []) ++ ((if b = true then [1] else []) ++ ((if c = true then [2] else []) ++ (if d = true then [3] else [])))
 | 1 => (if b = true then [1] else []) ++ ((if c = true then [2] else []) ++ (if d = true then [3] else []))
 | 2 => (if c = true then [2] else []) ++ (if d = true then [3] else [])
 | _ => if d = true then [3] else []
def OpSt (F : List UInt8) (i : Nat) (z : Int) : Prop := (z = -1 ∧ ∀ q,q < i → wordsL.getD q [] ≠ F) ∨ (∃ j : Nat,j < i ∧ j < 34 ∧ z = j ∧ wordsL.getD j [] = F)
theorem OpSt.no {F : List UInt8} {i : Nat} {z : Int} (h : OpSt F i z) (he : wordsL.getD i [] ≠ F) : OpSt F (i + 1) z := by
 rcases h with ⟨h1,h2⟩ | ⟨j,h1,h2,h3,h4⟩
 ·refine .inl ⟨h1,fun q hq => ?_⟩
  by_cases e : q = i
  ·rw [e]; exact he
  ·exact h2 q (by omega)
 ·exact .inr ⟨j,by omega,h2,h3,h4⟩
theorem OpSt.yes {F : List UInt8} {i : Nat} (hi : i < 34) (he : wordsL.getD i [] = F) : OpSt F (i + 1) (i : Int) := .inr ⟨i,by omega,hi,rfl,he⟩
def RegSt (fa fb fc : Bool) (k : Nat) (r0 r1 r2 : Int) : Prop := (1 ≤ k → regE r0 fa = 0) ∧ (2 ≤ k → regE r1 fb = 0) ∧ (3 ≤ k → regE r2 fc = 0) ∧ (k = 0 → r0 = 0) ∧ (k ≤ 1 → r1 = 0) ∧ (k ≤ 2 → r2 = 0)
theorem regE_true {r : Int} (h0 : 0 ≤ r) (h8 : r < 8) : regE r true = 0 := by unfold regE; rw [if_pos rfl,if_pos ⟨h0,h8⟩]
theorem regE_false : regE 0 false = 0 := by decide
theorem reg_post {t : List UInt8} {e : Ending} (h : RegPost t e) : (∃ r : Int,e = .returned (.tuple #[.int .i64 r,.bool true]) ∧ regOf t = some r ∧ 0 ≤ r ∧ r < 8) ∨ (∃ r : Int,e = .returned (.tuple #[.int .i64 r,.bool false]) ∧ regOf t = none) := by
 obtain ⟨r,ok,rfl,h⟩ := h
 cases ok
 ·exact .inr ⟨r,rfl,by simpa using h⟩
 ·have h : regOf t = some r := by simpa using h
  obtain ⟨h0,h8,_⟩ := regOf_some h
  exact .inl ⟨r,rfl,h,h0,h8⟩
theorem wrong_imm {o r0 r1 r2 v n : Int} {fa fb fc : Bool} (ho : 0 ≤ o ∧ o < 34) (ha : hA o = fa) (hb : hB o = fb) (hc : hC o = fc) (h : RegSt fa fb fc 3 r0 r1 r2) : (wrong ⟨o,r0,r1,r2,v⟩ n 8).1 = immE o v n 8 := by
 obtain ⟨h0,h1,h2,_⟩ := h
 have h0 := h0 (by omega)
 have h1 := h1 (by omega)
 have h2 := h2 (by omega)
 subst ha hb hc
 unfold wrong
 simp only
 rw [if_neg (by omega),if_neg (by simp [h0]),if_neg (by simp [h1]),if_neg (by simp [h2])]
 split
 ·rfl
 ·next h => simp only [ne_eq,Decidable.not_not] at h; rw [h]
theorem rdF_num {fp : Int → List UInt8} {o r0 r1 r2 v n : Int} {t : List UInt8} (h : numOf fp o t = some v) : rdField fp ⟨o,r0,r1,r2,0⟩ 3 t n = (⟨o,r0,r1,r2,v⟩,(wrong ⟨o,r0,r1,r2,v⟩ n 8).1) := by unfold rdField; rw [if_neg (by omega),h]; rfl
theorem rdF_num_no {fp : Int → List UInt8} {x : Ins} {n : Int} {t : List UInt8} (h : numOf fp x.op t = none) : rdField fp x 3 t n = (x,4) := by unfold rdField; rw [if_neg (by omega),h]
theorem rdF_reg {fp : Int → List UInt8} {x : Ins} {f : Nat} (hf : f < 3) {t : List UInt8} {r n : Int} (h : regOf t = some r) : rdField fp x f t n = (setF x f r,0) := by unfold rdField; rw [if_pos hf,h]
theorem rdF_reg_no {fp : Int → List UInt8} {x : Ins} {f : Nat} (hf : f < 3) {t : List UInt8} {n : Int} (h : regOf t = none) : rdField fp x f t n = (x,10) := by unfold rdField; rw [if_pos hf,h]
set_option maxRecDepth 100000 in
set_option maxHeartbeats 4000000 in
theorem rread_any (V : Env) (D : DEnv V) (s : ByteArray) (hs : s.size ≤ 140737488355328) (n : Int) (w : World) (A : V.A w) :
    Calls Tryz.prog 28 #[.string s,.int .i64 n] w fun e w' => LinePost (lnL V.fp s.data.toList n) w e w' := by
  obtain ⟨R,hR⟩ : ∃ R,Hid (R = lnL V.fp s.data.toList n) := ⟨_,rfl⟩
  rw [← hR.out]
  obtain ⟨q,hq⟩ : ∃ q,Hid (0 + (upB 32 (s.data.toList.drop 0)).length = q) := ⟨_,rfl⟩
  have hqs : q ≤ s.size := by have := hq.out; rw [List.drop_zero] at this; have h2 := upB_len 32 s.data.toList; rw [szl] at h2; omega
  obtain ⟨Fs,hFs⟩ : ∃ F : ByteArray,Hid (s.extract 0 q = F) := ⟨_,rfl⟩
  have HFl : Hid (Fs.data.toList = upB 32 s.data.toList) := Lib.hid (by
    rw [← hFs.out,ext_list,List.drop_zero,Nat.sub_zero,← hq.out,List.drop_zero,Nat.zero_add]
    exact upB_take 32 _)
  have hUp := fun W => upTo_any s hs 0 (by omega) q hq W
  have hsl : ∀ W,(Instr.slice 9 (.string s) none (some (.int .i64 (q : Int))) none).run Tryz.prog W = .ok (.string Fs) W := fun W => by
    have c2 : (q : Int) ≤ (s.size : Int) := by omega
    rw [← hFs.out]
    simp [go_sem,c2]
  obtain ⟨cr,hcr⟩ : ∃ c,Hid (c = Obj.cells #[.int .i64 0,.int .i64 0,.int .i64 0,.int .i64 0,.int .i64 0] 37) := ⟨_,rfl⟩
  obtain ⟨W,hW⟩ : ∃ W,Hid (W = w.alloc cr) := ⟨_,rfl⟩
  have BW : Below w.heap.size w W := by rw [hW.out]; exact (Below.refl _ w).alloc (Nat.le_refl _) _
  have XR : Hid (XAt W w.heap.size ins0) := Lib.hid (by
    have h := heap_alloc_new w cr
    unfold XAt
    rw [hW.out,h,hcr.out]
    rfl)
  have HA := Lib.hid A
  clear A hFs
  go_enter Tryz.func28,Tryz.ntmps28
  go_wp2_with fail
  rw [← hcr.out,← hW.out]
  refine (hUp _).mono ?_
  rintro e w1 ⟨rfl,rfl⟩
  clear hUp hcr hW
  go_upto_region 3 with fail
  go_wp2_with fail
  go_loopw [8,9] (fun s8 s9 wr => ∃ (i : Nat) (z : Int),s9 = .int .i64 i ∧ i ≤ 34 ∧ s8 = .int .i64 z ∧ -1 ≤ z ∧ z < 34 ∧ Hid (OpSt Fs.data.toList i z) ∧ Hid (Below w1.heap.size w1 wr)) (fun _ s9 _ => 34 - (intOf s9).toNat)
  case atStart => exact ⟨0,-1,rfl,by omega,rfl,by omega,by omega,Lib.hid (.inl ⟨rfl,fun q hq => absurd hq (Nat.not_lt_zero q)⟩),Lib.hid (Below.refl _ _)⟩
  case round =>
    obtain ⟨i,z,rfl,hi,rfl,z1,z2,HO,HB⟩ := hrel
    by_cases hlt : i < 34
    · have hlt' : (i : Int) < 34 := by omega
      have hWd := fun W' => rword_any i hlt W'
      obtain ⟨Wi,hWi⟩ : ∃ S : ByteArray,Hid (S = ⟨(wordL (i : Int)).toArray⟩) := ⟨_,rfl⟩
      rw [← hWi.out] at hWd
      have eW : Wi.toList = wordsL.getD i [] := by rw [hWi.out,Lib.toList_data,ba_list]; rfl
      by_cases he : wordsL.getD i [] = Fs.data.toList
      · have d2 : (Wi.toList == Fs.toList) = true := by rw [eW,Lib.toList_data,he]; simp
        have HO' := Lib.hid (OpSt.yes hlt he)
        clear HO he eW hWi
        go_upto_block 1 with fail
        go_cut [8] from 36 to 42 (fun s8 wy => s8 = .int .i64 i ∧ Hid (Below w1.heap.size w1 wy))
        case first =>
          go_wp2_with fail
          go_region_with (go_at_call 34; refine (hWd _).mono ?_; rintro e w2 ⟨rfl,b2⟩)
          all_goals (go_wp2_with fail; go_meet; exact ⟨rfl,Lib.hid (HB.out.drew.trans (b2.mono HB.out.drew.size))⟩)
        case rest =>
          obtain ⟨rfl,HB2⟩ := hcut
          go_wp2_with fail
          first
            | exact ⟨⟨i + 1,i,by go_num,by omega,rfl,by omega,by omega,HO',HB2⟩,by simp [intOf]; omega⟩
            | (go_roundw
               case rel => exact ⟨i + 1,i,by go_num,by omega,rfl,by omega,by omega,HO',HB2⟩
               case measure => simp [intOf]; omega)
      · have d2 : (Wi.toList == Fs.toList) = false := by rw [eW,Lib.toList_data]; simpa using he
        have HO' := Lib.hid (HO.out.no he)
        clear HO he eW hWi
        go_upto_block 1 with fail
        go_cut [8] from 36 to 42 (fun s8 wy => s8 = .int .i64 z ∧ Hid (Below w1.heap.size w1 wy))
        case first =>
          go_wp2_with fail
          go_region_with (go_at_call 34; refine (hWd _).mono ?_; rintro e w2 ⟨rfl,b2⟩)
          all_goals (go_wp2_with fail; go_meet; exact ⟨rfl,Lib.hid (HB.out.drew.trans (b2.mono HB.out.drew.size))⟩)
        case rest =>
          obtain ⟨rfl,HB2⟩ := hcut
          go_wp2_with fail
          first
            | exact ⟨⟨i + 1,z,by go_num,by omega,rfl,z1,z2,HO',HB2⟩,by simp [intOf]; omega⟩
            | (go_roundw
               case rel => exact ⟨i + 1,z,by go_num,by omega,rfl,z1,z2,HO',HB2⟩
               case measure => simp [intOf]; omega)
    · have hltd : decide ((i : Int) < 34) = false := by simp; omega
      obtain rfl : i = 34 := by omega
      rcases HO.out with ⟨rfl,hno⟩ | ⟨o,ho,_,rfl,hfo⟩
      · have hop := op_none (t := upB 32 s.data.toList) (fun q hq => by rw [← HFl.out]; exact hno q hq)
        have HE : Hid (R = (ins0,9,0)) := Lib.hid (by rw [hR.out]; unfold lnL; rw [hop])
        have XRr := XR.out.kept HB.out
        obtain ⟨q0,q1,q2,q3,q4⟩ := XRr.ins
        have f0 := XRr.fz 0
        have f1 := XRr.fz 1
        have f2 := XRr.fz 2
        have f3 := XRr.fz 3
        have f4 := XRr.fz 4
        simp only [ins0] at q0 q1 q2 q3 q4
        have HBt := Lib.hid (BW.trans (HB.out.mono BW.size))
        clear HO hno hop HB XRr
        go_wp2_with fail
        refine bodyPost_ret (v := .tuple #[insV ins0,.int .i64 9,.int .i64 0]) ?_ rfl ⟨?_,?_⟩
        · simp [results,Tryz.f28,go_sem,q0,q1,q2,q3,q4,insV,ins0]
        · rw [HE.out]
        · exact ((((HBt.out.setCell (Nat.le_refl _) _).setCell (Nat.le_refl _) _).setCell (Nat.le_refl _) _).setCell (Nat.le_refl _) _).setCell (Nat.le_refl _) _
      · have hop := op_found ho (hfo.trans HFl.out)
        have hw1 : wordL (o : Int) = upB 32 s.data.toList := by unfold wordL; rw [Int.toNat_natCast]; exact hfo.trans HFl.out
        have HR0 : Hid (R = rdLine V.fp s.data.toList n (fieldsN (o : Int)) ⟨o,0,0,0,0⟩ q) := Lib.hid (by
          rw [hR.out,ln_some hop,hw1,← hq.out,List.drop_zero,Nat.zero_add])
        have hFd := fun W' => rfields_any (o : Int) W'
        have hfs : fieldsN (o : Int) = fsF (hA o) (hB o) (hC o) (hI o) 0 := rfl
        rw [hfs] at HR0
        have hiI : Hid (hI (o : Int) = true → hI (o : Int) = true) := Lib.hid id
        obtain ⟨fi,hfi⟩ : ∃ f,Hid (hI (o : Int) = f) := ⟨_,rfl⟩
        rw [hfi.out] at hFd HR0
        obtain ⟨fa,hfa⟩ : ∃ f,Hid (hA (o : Int) = f) := ⟨_,rfl⟩
        obtain ⟨fb,hfb⟩ : ∃ f,Hid (hB (o : Int) = f) := ⟨_,rfl⟩
        obtain ⟨fc,hfc⟩ : ∃ f,Hid (hC (o : Int) = f) := ⟨_,rfl⟩
        rw [hfa.out,hfb.out,hfc.out] at hFd HR0
        have HWI : Hid (∀ (r0 r1 r2 v : Int),RegSt fa fb fc 3 r0 r1 r2 → (wrong ⟨o,r0,r1,r2,v⟩ n 8).1 = immE o v n 8) := Lib.hid (fun r0 r1 r2 v h => wrong_imm (by omega) hfa.out hfb.out hfc.out h)
        have HIM : Hid (fi = true → ∀ (P : ByteArray) (W' : World),P.size ≤ s.size → V.A W' → Calls Tryz.prog 46 #[.int .i64 o,.string P,.int .i64 n] W' fun e w' => ImmPost V.fp o P.data.toList n e ∧ Below W'.heap.size W' w') := Lib.hid (fun hfi2 P W' hz hA' => rimm_all V D o ho (by rw [hfi.out]; exact hfi2) P (by omega) n W' hA')
        clear hfa hfb hfc
        have hoz : decide ((o : Int) < 0) = false := by simp
        have XRz := Lib.hid (XR.out.kept HB.out)
        have HBt := Lib.hid (BW.trans (HB.out.mono BW.size))
        have hltr : w.heap.size < wr.heap.size := XRz.out.lt
        clear HO hfo hop HB hw1 hfs hiI XR hR hq HFl hsl
        go_wp2_with fail
        refine (hFd _).mono ?_
        rintro e w2 ⟨rfl,rfl⟩
        clear hFd
        obtain ⟨wz,hwz⟩ : ∃ W,W = wr := ⟨_,rfl⟩
        subst hwz
        have a1 : ∀ o1 o2 o3 : Obj,Below wz.heap.size wz (((wz.alloc o1).alloc o2).alloc o3) := fun o1 o2 o3 => (((Below.refl _ wz).alloc (Nat.le_refl _) o1).alloc (by simp) o2).alloc (by simp; omega) o3
        have HXA : Hid (∀ o1 o2 o3 : Obj,XAt (((wz.alloc o1).alloc o2).alloc o3) w.heap.size ins0) := Lib.hid (fun o1 o2 o3 => XRz.out.kept (a1 o1 o2 o3))
        have q0 : ∀ o1 o2 o3 : Obj,(((wz.alloc o1).alloc o2).alloc o3).cell? ⟨w.heap.size,0,none⟩ = some (.int .i64 0) := fun o1 o2 o3 => (HXA.out o1 o2 o3).ins.c0
        have q1 : ∀ o1 o2 o3 : Obj,(((wz.alloc o1).alloc o2).alloc o3).cell? ⟨w.heap.size,1,none⟩ = some (.int .i64 0) := fun o1 o2 o3 => (HXA.out o1 o2 o3).ins.c1
        have q2 : ∀ o1 o2 o3 : Obj,(((wz.alloc o1).alloc o2).alloc o3).cell? ⟨w.heap.size,2,none⟩ = some (.int .i64 0) := fun o1 o2 o3 => (HXA.out o1 o2 o3).ins.c2
        have q3 : ∀ o1 o2 o3 : Obj,(((wz.alloc o1).alloc o2).alloc o3).cell? ⟨w.heap.size,3,none⟩ = some (.int .i64 0) := fun o1 o2 o3 => (HXA.out o1 o2 o3).ins.c3
        have q4 : ∀ o1 o2 o3 : Obj,(((wz.alloc o1).alloc o2).alloc o3).cell? ⟨w.heap.size,4,none⟩ = some (.int .i64 0) := fun o1 o2 o3 => (HXA.out o1 o2 o3).ins.c4
        have f0 : ∀ o1 o2 o3 : Obj,(((wz.alloc o1).alloc o2).alloc o3).frozen? ⟨w.heap.size,0,none⟩ = false := fun o1 o2 o3 => (HXA.out o1 o2 o3).fz 0
        have f1 : ∀ o1 o2 o3 : Obj,(((wz.alloc o1).alloc o2).alloc o3).frozen? ⟨w.heap.size,1,none⟩ = false := fun o1 o2 o3 => (HXA.out o1 o2 o3).fz 1
        have f2 : ∀ o1 o2 o3 : Obj,(((wz.alloc o1).alloc o2).alloc o3).frozen? ⟨w.heap.size,2,none⟩ = false := fun o1 o2 o3 => (HXA.out o1 o2 o3).fz 2
        have f3 : ∀ o1 o2 o3 : Obj,(((wz.alloc o1).alloc o2).alloc o3).frozen? ⟨w.heap.size,3,none⟩ = false := fun o1 o2 o3 => (HXA.out o1 o2 o3).fz 3
        have f4 : ∀ o1 o2 o3 : Obj,(((wz.alloc o1).alloc o2).alloc o3).frozen? ⟨w.heap.size,4,none⟩ = false := fun o1 o2 o3 => (HXA.out o1 o2 o3).fz 4
        have HBz : Hid (∀ o1 o2 o3 : Obj,Below w.heap.size w (((wz.alloc o1).alloc o2).alloc o3)) := Lib.hid (fun o1 o2 o3 => HBt.out.trans ((a1 o1 o2 o3).mono HBt.out.size))
        clear a1 HXA
        go_wp2_with fail
        go_loopw [7,17,18,19,20,21,22,23] (fun s7 s17 _ _ _ _ _ _ wr => ∃ (z : Int) (k p : Nat) (r0 r1 r2 : Int),s17 = .int .i64 z ∧ z = k ∧ k ≤ 3 ∧ s7 = .int .i64 p ∧ p ≤ s.size ∧ Hid (R = rdLine V.fp s.data.toList n (fsF fa fb fc fi k) ⟨o,r0,r1,r2,0⟩ p) ∧ Hid (RegSt fa fb fc k r0 r1 r2) ∧ wr = ((wz.alloc (.cells #[.int .i64 o,.int .i64 0,.int .i64 0,.int .i64 0,.int .i64 0] 37)).alloc (.cells #[.bool fa,.bool fb,.bool fc] 74)).alloc (.cells #[.int .i64 r0,.int .i64 r1,.int .i64 r2] 75)) (fun _ s17 _ _ _ _ _ _ _ => 3 - (intOf s17).toNat)
        case atStart => exact ⟨0,0,q,0,0,0,rfl,rfl,by omega,rfl,hqs,HR0,Lib.hid ⟨fun h => by omega,fun h => by omega,fun h => by omega,fun _ => rfl,fun _ => rfl,fun _ => rfl⟩,rfl⟩
        case round =>
          obtain ⟨z,k,p,r0,r1,r2,rfl,hz,hk,rfl,hp,HR,HG,hwr⟩ := hrel
          subst hwr
          by_cases hk3 : k < 3
          · rcases (show (k = 0 ∧ z = 0) ∨ (k = 1 ∧ z = 1) ∨ (k = 2 ∧ z = 2) by omega) with ⟨rfl,rfl⟩ | ⟨rfl,rfl⟩ | ⟨rfl,rfl⟩
            · clear hz
              cases fa
              · have HG' := Lib.hid (p := RegSt false fb fc 1 r0 r1 r2) ⟨fun _ => by rw [HG.out.2.2.2.1 rfl]; exact regE_false,fun h => by omega,fun h => by omega,fun h => by omega,fun _ => HG.out.2.2.2.2.1 (by omega),fun _ => HG.out.2.2.2.2.2 (by omega)⟩
                have HR' : Hid (R = rdLine V.fp s.data.toList n (fsF false fb fc fi 1) ⟨o,r0,r1,r2,0⟩ p) := Lib.hid (by rw [HR.out]; rfl)
                clear HR HG
                go_wp2_with fail
                first
                  | exact ⟨⟨1,1,p,r0,r1,r2,rfl,rfl,by omega,rfl,hp,HR',HG',by first | rfl | trivial⟩,by simp [intOf]⟩
                  | (go_roundw
                     case rel => exact ⟨1,1,p,r0,r1,r2,rfl,rfl,by omega,rfl,hp,HR',HG',by first | rfl | trivial⟩
                     case measure => simp [intOf])
              · have hcons : fsF true fb fc fi 0 = 0 :: fsF true fb fc fi 1 := by simp [fsF]
                rw [hcons] at HR
                clear hcons
                by_cases hps : p = s.size
                · have HE : Hid (R = (ins0,5,(s.size : Int))) := Lib.hid (by rw [HR.out,rd_short (by rw [szl]; exact hps),hps])
                  have hFN := fun W => field_no s W
                  rw [hps]
                  clear HR HG hps
                  go_wp2_with fail
                  refine (hFN _).mono ?_
                  rintro e w3 ⟨rfl,rfl⟩
                  go_wp2_with fail
                  refine bodyPost_ret (v := .tuple #[insV ins0,.int .i64 5,.int .i64 s.size]) ?_ rfl ⟨?_,?_⟩
                  · simp [results,Tryz.f28,go_sem,q0,q1,q2,q3,q4,insV,ins0]
                  · rw [HE.out]
                  · exact (((((HBz.out _ _ _).setCell (Nat.le_refl _) _).setCell (Nat.le_refl _) _).setCell (Nat.le_refl _) _).setCell (Nat.le_refl _) _).setCell (Nat.le_refl _) _
                · have hplt : p < s.size := by omega
                  have hFY := fun W => field_yes s hs p hplt W
                  obtain ⟨P,qe,hPl,hPq,hqe,hFc⟩ := hFY (((wz.alloc (.cells #[.int .i64 o,.int .i64 0,.int .i64 0,.int .i64 0,.int .i64 0] 37)).alloc (.cells #[.bool true,.bool fb,.bool fc] 74)).alloc (.cells #[.int .i64 r0,.int .i64 r1,.int .i64 r2] 75))
                  have hRg := fun W => register_any' P W
                  have HPl := Lib.hid hPl
                  have HPq := Lib.hid hPq
                  clear hFY hPl hPq
                  go_wp2_with fail
                  refine hFc.mono ?_
                  rintro e w3 ⟨rfl,rfl⟩
                  go_wp2_with fail
                  refine (hRg _).mono ?_
                  rintro e w3 ⟨hp3,rfl⟩
                  rcases reg_post hp3 with ⟨rr,rfl,hro,hr0,hr8⟩ | ⟨rr,rfl,hro⟩
                  · have HG' := Lib.hid (p := RegSt true fb fc 1 rr r1 r2) ⟨fun _ => regE_true hr0 hr8,fun h => by omega,fun h => by omega,fun h => by omega,fun _ => HG.out.2.2.2.2.1 (by omega),fun _ => HG.out.2.2.2.2.2 (by omega)⟩
                    have HR' : Hid (R = rdLine V.fp s.data.toList n (fsF true fb fc fi 1) ⟨o,rr,r1,r2,0⟩ qe) := Lib.hid (by
                      rw [HR.out,rd_go (by rw [szl]; omega) HPl.out (rdF_reg (by omega) hro),szl,HPq.out]
                      rfl)
                    clear HR HG hro hp3 hRg hFc hps HPl HPq
                    go_wp2_with fail
                    first
                      | exact ⟨⟨1,1,qe,rr,r1,r2,rfl,rfl,by omega,rfl,hqe,HR',HG',by first | rfl | trivial⟩,by simp [intOf]⟩
                      | (go_roundw
                         case rel => exact ⟨1,1,qe,rr,r1,r2,rfl,rfl,by omega,rfl,hqe,HR',HG',by first | rfl | trivial⟩
                         case measure => simp [intOf])
                  · have HE : Hid (R = (ins0,10,(p : Int) + 1)) := Lib.hid (by rw [HR.out,rd_wrong (by rw [szl]; omega) HPl.out (rdF_reg_no (by omega) hro) (by decide)])
                    clear HR HG hro hp3 hRg hFc hps HPl HPq
                    go_wp2_with fail
                    refine bodyPost_ret (v := .tuple #[insV ins0,.int .i64 10,.int .i64 ((p : Int) + 1)]) ?_ rfl ⟨?_,?_⟩
                    · simp [results,Tryz.f28,go_sem,q0,q1,q2,q3,q4,insV,ins0]
                    · rw [HE.out]
                    · exact (((((HBz.out _ _ _).setCell (Nat.le_refl _) _).setCell (Nat.le_refl _) _).setCell (Nat.le_refl _) _).setCell (Nat.le_refl _) _).setCell (Nat.le_refl _) _
            · clear hz
              cases fb
              · have HG' := Lib.hid (p := RegSt fa false fc 2 r0 r1 r2) ⟨fun h => HG.out.1 (by omega),fun _ => by rw [HG.out.2.2.2.2.1 (by omega)]; exact regE_false,fun h => by omega,fun h => by omega,fun h => by omega,fun _ => HG.out.2.2.2.2.2 (by omega)⟩
                have HR' : Hid (R = rdLine V.fp s.data.toList n (fsF fa false fc fi 2) ⟨o,r0,r1,r2,0⟩ p) := Lib.hid (by rw [HR.out]; rfl)
                clear HR HG
                go_wp2_with fail
                first
                  | exact ⟨⟨2,2,p,r0,r1,r2,rfl,rfl,by omega,rfl,hp,HR',HG',by first | rfl | trivial⟩,by simp [intOf]⟩
                  | (go_roundw
                     case rel => exact ⟨2,2,p,r0,r1,r2,rfl,rfl,by omega,rfl,hp,HR',HG',by first | rfl | trivial⟩
                     case measure => simp [intOf])
              · have hcons : fsF fa true fc fi 1 = 1 :: fsF fa true fc fi 2 := by simp [fsF]
                rw [hcons] at HR
                clear hcons
                by_cases hps : p = s.size
                · have HE : Hid (R = (ins0,5,(s.size : Int))) := Lib.hid (by rw [HR.out,rd_short (by rw [szl]; exact hps),hps])
                  have hFN := fun W => field_no s W
                  rw [hps]
                  clear HR HG hps
                  go_wp2_with fail
                  refine (hFN _).mono ?_
                  rintro e w3 ⟨rfl,rfl⟩
                  go_wp2_with fail
                  refine bodyPost_ret (v := .tuple #[insV ins0,.int .i64 5,.int .i64 s.size]) ?_ rfl ⟨?_,?_⟩
                  · simp [results,Tryz.f28,go_sem,q0,q1,q2,q3,q4,insV,ins0]
                  · rw [HE.out]
                  · exact (((((HBz.out _ _ _).setCell (Nat.le_refl _) _).setCell (Nat.le_refl _) _).setCell (Nat.le_refl _) _).setCell (Nat.le_refl _) _).setCell (Nat.le_refl _) _
                · have hplt : p < s.size := by omega
                  have hFY := fun W => field_yes s hs p hplt W
                  obtain ⟨P,qe,hPl,hPq,hqe,hFc⟩ := hFY (((wz.alloc (.cells #[.int .i64 o,.int .i64 0,.int .i64 0,.int .i64 0,.int .i64 0] 37)).alloc (.cells #[.bool fa,.bool true,.bool fc] 74)).alloc (.cells #[.int .i64 r0,.int .i64 r1,.int .i64 r2] 75))
                  have hRg := fun W => register_any' P W
                  have HPl := Lib.hid hPl
                  have HPq := Lib.hid hPq
                  clear hFY hPl hPq
                  go_wp2_with fail
                  refine hFc.mono ?_
                  rintro e w3 ⟨rfl,rfl⟩
                  go_wp2_with fail
                  refine (hRg _).mono ?_
                  rintro e w3 ⟨hp3,rfl⟩
                  rcases reg_post hp3 with ⟨rr,rfl,hro,hr0,hr8⟩ | ⟨rr,rfl,hro⟩
                  · have HG' := Lib.hid (p := RegSt fa true fc 2 r0 rr r2) ⟨fun h => HG.out.1 (by omega),fun _ => regE_true hr0 hr8,fun h => by omega,fun h => by omega,fun h => by omega,fun _ => HG.out.2.2.2.2.2 (by omega)⟩
                    have HR' : Hid (R = rdLine V.fp s.data.toList n (fsF fa true fc fi 2) ⟨o,r0,rr,r2,0⟩ qe) := Lib.hid (by
                      rw [HR.out,rd_go (by rw [szl]; omega) HPl.out (rdF_reg (by omega) hro),szl,HPq.out]
                      rfl)
                    clear HR HG hro hp3 hRg hFc hps HPl HPq
                    go_wp2_with fail
                    first
                      | exact ⟨⟨2,2,qe,r0,rr,r2,rfl,rfl,by omega,rfl,hqe,HR',HG',by first | rfl | trivial⟩,by simp [intOf]⟩
                      | (go_roundw
                         case rel => exact ⟨2,2,qe,r0,rr,r2,rfl,rfl,by omega,rfl,hqe,HR',HG',by first | rfl | trivial⟩
                         case measure => simp [intOf])
                  · have HE : Hid (R = (ins0,10,(p : Int) + 1)) := Lib.hid (by rw [HR.out,rd_wrong (by rw [szl]; omega) HPl.out (rdF_reg_no (by omega) hro) (by decide)])
                    clear HR HG hro hp3 hRg hFc hps HPl HPq
                    go_wp2_with fail
                    refine bodyPost_ret (v := .tuple #[insV ins0,.int .i64 10,.int .i64 ((p : Int) + 1)]) ?_ rfl ⟨?_,?_⟩
                    · simp [results,Tryz.f28,go_sem,q0,q1,q2,q3,q4,insV,ins0]
                    · rw [HE.out]
                    · exact (((((HBz.out _ _ _).setCell (Nat.le_refl _) _).setCell (Nat.le_refl _) _).setCell (Nat.le_refl _) _).setCell (Nat.le_refl _) _).setCell (Nat.le_refl _) _
            · clear hz
              cases fc
              · have HG' := Lib.hid (p := RegSt fa fb false 3 r0 r1 r2) ⟨fun h => HG.out.1 (by omega),fun h => HG.out.2.1 (by omega),fun _ => by rw [HG.out.2.2.2.2.2 (by omega)]; exact regE_false,fun h => by omega,fun h => by omega,fun h => by omega⟩
                have HR' : Hid (R = rdLine V.fp s.data.toList n (fsF fa fb false fi 3) ⟨o,r0,r1,r2,0⟩ p) := Lib.hid (by rw [HR.out]; rfl)
                clear HR HG
                go_wp2_with fail
                first
                  | exact ⟨⟨3,3,p,r0,r1,r2,rfl,rfl,by omega,rfl,hp,HR',HG',by first | rfl | trivial⟩,by simp [intOf]⟩
                  | (go_roundw
                     case rel => exact ⟨3,3,p,r0,r1,r2,rfl,rfl,by omega,rfl,hp,HR',HG',by first | rfl | trivial⟩
                     case measure => simp [intOf])
              · have hcons : fsF fa fb true fi 2 = 2 :: fsF fa fb true fi 3 := by simp [fsF]
                rw [hcons] at HR
                clear hcons
                by_cases hps : p = s.size
                · have HE : Hid (R = (ins0,5,(s.size : Int))) := Lib.hid (by rw [HR.out,rd_short (by rw [szl]; exact hps),hps])
                  have hFN := fun W => field_no s W
                  rw [hps]
                  clear HR HG hps
                  go_wp2_with fail
                  refine (hFN _).mono ?_
                  rintro e w3 ⟨rfl,rfl⟩
                  go_wp2_with fail
                  refine bodyPost_ret (v := .tuple #[insV ins0,.int .i64 5,.int .i64 s.size]) ?_ rfl ⟨?_,?_⟩
                  · simp [results,Tryz.f28,go_sem,q0,q1,q2,q3,q4,insV,ins0]
                  · rw [HE.out]
                  · exact (((((HBz.out _ _ _).setCell (Nat.le_refl _) _).setCell (Nat.le_refl _) _).setCell (Nat.le_refl _) _).setCell (Nat.le_refl _) _).setCell (Nat.le_refl _) _
                · have hplt : p < s.size := by omega
                  have hFY := fun W => field_yes s hs p hplt W
                  obtain ⟨P,qe,hPl,hPq,hqe,hFc⟩ := hFY (((wz.alloc (.cells #[.int .i64 o,.int .i64 0,.int .i64 0,.int .i64 0,.int .i64 0] 37)).alloc (.cells #[.bool fa,.bool fb,.bool true] 74)).alloc (.cells #[.int .i64 r0,.int .i64 r1,.int .i64 r2] 75))
                  have hRg := fun W => register_any' P W
                  have HPl := Lib.hid hPl
                  have HPq := Lib.hid hPq
                  clear hFY hPl hPq
                  go_wp2_with fail
                  refine hFc.mono ?_
                  rintro e w3 ⟨rfl,rfl⟩
                  go_wp2_with fail
                  refine (hRg _).mono ?_
                  rintro e w3 ⟨hp3,rfl⟩
                  rcases reg_post hp3 with ⟨rr,rfl,hro,hr0,hr8⟩ | ⟨rr,rfl,hro⟩
                  · have HG' := Lib.hid (p := RegSt fa fb true 3 r0 r1 rr) ⟨fun h => HG.out.1 (by omega),fun h => HG.out.2.1 (by omega),fun _ => regE_true hr0 hr8,fun h => by omega,fun h => by omega,fun h => by omega⟩
                    have HR' : Hid (R = rdLine V.fp s.data.toList n (fsF fa fb true fi 3) ⟨o,r0,r1,rr,0⟩ qe) := Lib.hid (by
                      rw [HR.out,rd_go (by rw [szl]; omega) HPl.out (rdF_reg (by omega) hro),szl,HPq.out]
                      rfl)
                    clear HR HG hro hp3 hRg hFc hps HPl HPq
                    go_wp2_with fail
                    first
                      | exact ⟨⟨3,3,qe,r0,r1,rr,rfl,rfl,by omega,rfl,hqe,HR',HG',by first | rfl | trivial⟩,by simp [intOf]⟩
                      | (go_roundw
                         case rel => exact ⟨3,3,qe,r0,r1,rr,rfl,rfl,by omega,rfl,hqe,HR',HG',by first | rfl | trivial⟩
                         case measure => simp [intOf])
                  · have HE : Hid (R = (ins0,10,(p : Int) + 1)) := Lib.hid (by rw [HR.out,rd_wrong (by rw [szl]; omega) HPl.out (rdF_reg_no (by omega) hro) (by decide)])
                    clear HR HG hro hp3 hRg hFc hps HPl HPq
                    go_wp2_with fail
                    refine bodyPost_ret (v := .tuple #[insV ins0,.int .i64 10,.int .i64 ((p : Int) + 1)]) ?_ rfl ⟨?_,?_⟩
                    · simp [results,Tryz.f28,go_sem,q0,q1,q2,q3,q4,insV,ins0]
                    · rw [HE.out]
                    · exact (((((HBz.out _ _ _).setCell (Nat.le_refl _) _).setCell (Nat.le_refl _) _).setCell (Nat.le_refl _) _).setCell (Nat.le_refl _) _).setCell (Nat.le_refl _) _
          · obtain rfl : k = 3 := by omega
            obtain rfl : z = 3 := by omega
            clear hz
            have HXx : Hid (∀ (a b c d e : Int) (o2 o3 : Obj),XAt (((wz.alloc (.cells #[.int .i64 a,.int .i64 b,.int .i64 c,.int .i64 d,.int .i64 e] 37)).alloc o2).alloc o3) wz.heap.size ⟨a,b,c,d,e⟩) := Lib.hid (fun a b c d e o2 o3 => by
              unfold XAt
              rw [heap_alloc_old (r := wz.heap.size) _ o3 (by simp; omega),heap_alloc_old (r := wz.heap.size) _ o2 (by simp)]
              exact heap_alloc_new wz _)
            go_upto_region 26 with fail
            go_cut [94] from 95 to 102 (fun _ wy => Hid (XAt wy wz.heap.size ⟨o,r0,r1,r2,0⟩) ∧ Hid (XAt wy w.heap.size ins0) ∧ Hid (Below w.heap.size w wy))
            case first =>
              go_region
              all_goals (go_wp2_with fail; go_meet; exact ⟨Lib.hid (HXx.out _ _ _ _ _ _ _),Lib.hid (XRz.out.kept ((((Below.refl _ wz).alloc (Nat.le_refl _) _).alloc (by simp) _).alloc (by simp; omega) _).drew),Lib.hid (HBz.out _ _ _).drew⟩)
            case rest =>
              obtain ⟨HX5,HX6,HB5⟩ := hcut
              clear q0 q1 q2 q3 q4 f0 f1 f2 f3 f4 HXx HBz
              cases fi
              · have HR1 : Hid (R = rdLine V.fp s.data.toList n [] ⟨o,r0,r1,r2,0⟩ p) := Lib.hid (by rw [HR.out]; rfl)
                obtain ⟨y0,y1,y2,y3,y4⟩ := HX5.out.ins
                obtain ⟨q0,q1,q2,q3,q4⟩ := HX6.out.ins
                have f0 := HX6.out.fz 0
                have f1 := HX6.out.fz 1
                have f2 := HX6.out.fz 2
                have f3 := HX6.out.fz 3
                have f4 := HX6.out.fz 4
                simp only at y0 y1 y2 y3 y4
                simp only [ins0] at q0 q1 q2 q3 q4
                by_cases hps : p < s.size
                · have d1 : (p : Int) < (s.size : Int) := by omega
                  have HE : Hid (R = (ins0,6,(p : Int))) := Lib.hid (HR1.out.trans (rd_rest (by rw [szl]; exact hps)))
                  clear HR HR1 HG
                  go_wp2_with fail
                  refine bodyPost_ret (v := .tuple #[insV ins0,.int .i64 6,.int .i64 p]) ?_ rfl ⟨?_,?_⟩
                  · simp [results,Tryz.f28,go_sem,q0,q1,q2,q3,q4,insV,ins0]
                  · rw [HE.out]
                  · exact ((((HB5.out.setCell (Nat.le_refl _) _).setCell (Nat.le_refl _) _).setCell (Nat.le_refl _) _).setCell (Nat.le_refl _) _).setCell (Nat.le_refl _) _
                · have d1 : decide ((p : Int) < (s.size : Int)) = false := by simp; omega
                  have d2 : (s.size : Int) ≤ (p : Int) := by omega
                  have HE : Hid (R = (⟨o,r0,r1,r2,0⟩,0,0)) := Lib.hid (HR1.out.trans (rd_done (by rw [szl]; exact hps)))
                  clear HR HR1 HG
                  go_wp2_with fail
                  refine bodyPost_ret (v := .tuple #[insV ⟨o,r0,r1,r2,0⟩,.int .i64 0,.int .i64 0]) ?_ rfl ⟨?_,?_⟩
                  · simp [results,Tryz.f28,go_sem,q0,q1,q2,q3,q4,insV]
                  · rw [HE.out]
                  · exact ((((HB5.out.setCell (Nat.le_refl _) _).setCell (Nat.le_refl _) _).setCell (Nat.le_refl _) _).setCell (Nat.le_refl _) _).setCell (Nat.le_refl _) _
              · have HR1 : Hid (R = rdLine V.fp s.data.toList n [3] ⟨o,r0,r1,r2,0⟩ p) := Lib.hid (by rw [HR.out]; rfl)
                clear HR
                by_cases hps : p = s.size
                · have HE : Hid (R = (ins0,5,(s.size : Int))) := Lib.hid (by rw [HR1.out,rd_short (by rw [szl]; exact hps),hps])
                  have hFN := fun W => field_no s W
                  rw [hps]
                  obtain ⟨q0,q1,q2,q3,q4⟩ := HX6.out.ins
                  have f0 := HX6.out.fz 0
                  have f1 := HX6.out.fz 1
                  have f2 := HX6.out.fz 2
                  have f3 := HX6.out.fz 3
                  have f4 := HX6.out.fz 4
                  simp only [ins0] at q0 q1 q2 q3 q4
                  clear HR1 HG hps
                  go_wp2_with fail
                  refine (hFN _).mono ?_
                  rintro e w3 ⟨rfl,rfl⟩
                  go_wp2_with fail
                  refine bodyPost_ret (v := .tuple #[insV ins0,.int .i64 5,.int .i64 s.size]) ?_ rfl ⟨?_,?_⟩
                  · simp [results,Tryz.f28,go_sem,q0,q1,q2,q3,q4,insV,ins0]
                  · rw [HE.out]
                  · exact ((((HB5.out.setCell (Nat.le_refl _) _).setCell (Nat.le_refl _) _).setCell (Nat.le_refl _) _).setCell (Nat.le_refl _) _).setCell (Nat.le_refl _) _
                · have hplt : p < s.size := by omega
                  obtain ⟨P,qe,hPl,hPq,hqe,hFc⟩ := field_yes s hs p hplt wc
                  have hIm := HIM.out rfl P wc (by omega) (V.kept HA.out HB5.out)
                  have HPl := Lib.hid hPl
                  have HPq := Lib.hid hPq
                  clear hPl hPq HIM
                  go_wp2_with fail
                  refine hFc.mono ?_
                  rintro e w3 ⟨rfl,rfl⟩
                  clear hFc
                  go_wp2_with fail
                  refine hIm.mono ?_
                  rintro e w4 ⟨⟨v,E,rfl,hvE⟩,b4⟩
                  have HX7 := HX5.out.kept b4
                  have HX8 := HX6.out.kept b4
                  have HB6 := Lib.hid (HB5.out.trans (b4.mono HB5.out.size))
                  obtain ⟨y0,y1,y2,y3,y4⟩ := HX7.ins
                  have g4 := HX7.fz 4
                  obtain ⟨q0,q1,q2,q3,q4⟩ := HX8.ins
                  have f0 := HX8.fz 0
                  have f1 := HX8.fz 1
                  have f2 := HX8.fz 2
                  have f3 := HX8.fz 3
                  have f4 := HX8.fz 4
                  simp only at y0 y1 y2 y3 y4
                  simp only [ins0] at q0 q1 q2 q3 q4
                  have hEv : (E ≠ 0 ∧ Hid (R = (ins0,E,(p : Int) + 1))) ∨ (E = 0 ∧ Hid (R = rdLine V.fp s.data.toList n [] ⟨o,r0,r1,r2,v⟩ qe)) := by
                    rcases hvE with ⟨hno,rfl⟩ | ⟨u,hsome,hEi,hv⟩
                    · exact .inl ⟨by decide,Lib.hid (by rw [HR1.out,rd_wrong (by rw [szl]; omega) HPl.out (rdF_num_no hno) (by decide)])⟩
                    · have hrd := rdF_num (r0 := r0) (r1 := r1) (r2 := r2) (n := n) hsome
                      rw [HWI.out r0 r1 r2 u HG.out,← hEi] at hrd
                      by_cases h0 : E = 0
                      · have hv := hv h0
                        subst hv
                        rw [h0] at hrd
                        exact .inr ⟨h0,Lib.hid (by rw [HR1.out,rd_go (by rw [szl]; omega) HPl.out hrd,szl,HPq.out])⟩
                      · exact .inl ⟨h0,Lib.hid (by rw [HR1.out,rd_wrong (by rw [szl]; omega) HPl.out hrd h0])⟩
                  clear hvE HR1 HG hIm HPl HPq HWI b4 hps
                  rcases hEv with ⟨h0,HE⟩ | ⟨rfl,HR2⟩
                  · have dE : (E == 0) = false := by simpa using h0
                    clear h0 HX7 HX8
                    go_wp2_with fail
                    refine bodyPost_ret (v := .tuple #[insV ins0,.int .i64 E,.int .i64 ((p : Int) + 1)]) ?_ rfl ⟨?_,?_⟩
                    · simp [results,Tryz.f28,go_sem,q0,q1,q2,q3,q4,insV,ins0]
                    · rw [HE.out]
                    · exact ((((HB6.out.setCell (Nat.le_refl _) _).setCell (Nat.le_refl _) _).setCell (Nat.le_refl _) _).setCell (Nat.le_refl _) _).setCell (Nat.le_refl _) _
                  · obtain ⟨w6,hw6⟩ : ∃ W,Hid (W = w4.setCell ⟨wz.heap.size,4,none⟩ (.int .i64 v)) := ⟨_,rfl⟩
                    have HXa : XAt w6 wz.heap.size ⟨o,r0,r1,r2,v⟩ := by rw [hw6.out]; exact HX7.set 3 (by omega) v
                    have HXb : XAt w6 w.heap.size ins0 := by rw [hw6.out]; exact gb_x (gb_set _ _ _ _) HX8 (by omega)
                    have HB7 : Below w.heap.size w w6 := by rw [hw6.out]; exact HB6.out.setCell (p := ⟨wz.heap.size,4,none⟩) (Nat.le_of_lt hltr) _
                    obtain ⟨x0,x1,x2,x3,x4⟩ := HXa.ins
                    obtain ⟨p0,p1,p2,p3,p4⟩ := HXb.ins
                    have e0 := HXb.fz 0
                    have e1 := HXb.fz 1
                    have e2 := HXb.fz 2
                    have e3 := HXb.fz 3
                    have e4 := HXb.fz 4
                    simp only at x0 x1 x2 x3 x4
                    simp only [ins0] at p0 p1 p2 p3 p4
                    have HXA := Lib.hid HXa
                    clear HX7 HX8 HXa HXb q0 q1 q2 q3 q4 f0 f1 f2 f3 f4
                    go_upto_region 36 with fail
                    rw [← hw6.out]
                    clear hw6 y0 y1 y2 y3 y4 g4
                    by_cases hps : qe < s.size
                    · have d1 : (qe : Int) < (s.size : Int) := by omega
                      have HE : Hid (R = (ins0,6,(qe : Int))) := Lib.hid (HR2.out.trans (rd_rest (by rw [szl]; exact hps)))
                      clear HR2
                      go_wp2_with fail
                      refine bodyPost_ret (v := .tuple #[insV ins0,.int .i64 6,.int .i64 qe]) ?_ rfl ⟨?_,?_⟩
                      · simp [results,Tryz.f28,go_sem,p0,p1,p2,p3,p4,insV,ins0]
                      · rw [HE.out]
                      · exact ((((HB7.setCell (Nat.le_refl _) _).setCell (Nat.le_refl _) _).setCell (Nat.le_refl _) _).setCell (Nat.le_refl _) _).setCell (Nat.le_refl _) _
                    · have d1 : decide ((qe : Int) < (s.size : Int)) = false := by simp; omega
                      have d2 : (s.size : Int) ≤ (qe : Int) := by omega
                      have HE : Hid (R = (⟨o,r0,r1,r2,v⟩,0,0)) := Lib.hid (HR2.out.trans (rd_done (by rw [szl]; exact hps)))
                      clear HR2
                      go_wp2_with fail
                      refine bodyPost_ret (v := .tuple #[insV ⟨o,r0,r1,r2,v⟩,.int .i64 0,.int .i64 0]) ?_ rfl ⟨?_,?_⟩
                      · simp [results,Tryz.f28,go_sem,p0,p1,p2,p3,p4,insV]
                      · rw [HE.out]
                      · exact ((((HB7.setCell (Nat.le_refl _) _).setCell (Nat.le_refl _) _).setCell (Nat.le_refl _) _).setCell (Nat.le_refl _) _).setCell (Nat.le_refl _) _
end Go.Proofs.YtalaajniammggaaGreatDoor
