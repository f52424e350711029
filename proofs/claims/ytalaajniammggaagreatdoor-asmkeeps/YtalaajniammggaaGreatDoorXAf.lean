/- strings.Cut at a separator of one byte. -/
import Derived.Test.YtalaajniammggaaGreatDoorXAb
import Derived.Test.YtalaajniammggaaGreatDoorXCb
import Derived.BigQuiet
import Derived.Lib.Strings
import Derived.Lib.Walk
import Derived.Test.YtalaajniammggaaGreatDoorXAe
namespace Go.Proofs.YtalaajniammggaaGreatDoor
open Go.RowKit
theorem ib_no (c : UInt8) : ∀ l : List UInt8,(upB c l).length = l.length → Lib.indexByte l c = -1
 | [],_ => rfl
 | x :: r,h => by
  have hx : (x != c) = true := by
   by_cases e : x = c
   ·subst e; simp [upB] at h
   ·simpa using e
  unfold upB at h
  rw [List.takeWhile_cons_of_pos (by simpa using hx)] at h
  have ih := ib_no c r (by unfold upB; simpa using h)
  have hx' : (x == c) = false := by simpa using hx
  simp [Lib.indexByte,hx',ih]
theorem ib_yes (c : UInt8) : ∀ l : List UInt8,(upB c l).length < l.length → Lib.indexByte l c = ((upB c l).length : Int)
 | [],h => by simp [upB] at h
 | x :: r,h => by
  by_cases e : x = c
  ·subst e; simp [upB,Lib.indexByte]
  ·have eu : upB c (x :: r) = x :: upB c r := by
    unfold upB
    rw [List.takeWhile_cons_of_pos (by simpa using e)]
   rw [eu] at h ⊢
   have ih := ib_yes c r (by simpa using h)
   have hx' : (x == c) = false := by simpa using e
   rw [Lib.indexByte]
   simp only [hx',ih]
   simp
theorem upB_take (c : UInt8) (l : List UInt8) : l.take (upB c l).length = upB c l := by
 have hsp := upB_split c l
 generalize upB c l = u at *
 rw [hsp]
 exact List.take_left
def CutPost (s : ByteArray) (c : UInt8) (e : Ending) : Prop :=
 ∃ (P R : ByteArray) (fd : Bool),e = .returned (.tuple #[.string P,.string R,.bool fd]) ∧ P.data.toList = upB c s.data.toList ∧ P.size ≤ s.size ∧ ((fd = true ∧ P.size < s.size ∧ R.data.toList = s.data.toList.drop ((upB c s.data.toList).length + 1) ∧ R.size + P.size + 1 = s.size) ∨ (fd = false ∧ P.size = s.size ∧ R.size = 0))
theorem szl (s : ByteArray) : s.data.toList.length = s.size := Array.length_toList
theorem ext_list (s : ByteArray) (a b : Nat) : (s.extract a b).data.toList = (s.data.toList.drop a).take (b - a) := by
 rw [ByteArray.data_extract]
 simp
set_option maxRecDepth 100000 in
theorem cut_in (s : ByteArray) (hs : s.size ≤ 9223372036854775806) (c : UInt8) (w : World) :
  Calls Tryz.prog 41 #[.string s,.string ⟨#[c]⟩] w fun e w' => CutPost s c e ∧ ∃ n,w' = w.drewN n := by
 have hI := Tryz.stringslite_Index_one s c
 have hl := szl s
 have hu := upB_len c s.data.toList
 by_cases h : (upB c s.data.toList).length = s.data.toList.length
 ·rw [ib_no c _ h] at hI
  have HP : Hid (CutPost s c (.returned (.tuple #[.string s,.string ⟨#[]⟩,.bool false]))) := Lib.hid ⟨s,⟨#[]⟩,false,rfl,by
   have hsp := upB_split c s.data.toList
   rw [h,List.drop_length,List.append_nil] at hsp
   exact hsp,Nat.le_refl _,.inr ⟨rfl,rfl,rfl⟩⟩
  clear h hu hl
  go_enter Tryz.func41,Tryz.ntmps41
  go_wp2_with fail
  refine (hI _).mono ?_
  rintro e w1 ⟨rfl,rfl⟩
  go_wp2_with fail
  go_ret3
  exact ⟨HP.out,0,rfl⟩
 ·rw [ib_yes c _ (by omega)] at hI
  obtain ⟨i,hi⟩ : ∃ i,Hid ((upB c s.data.toList).length = i) := ⟨_,rfl⟩
  have hi1 : i < s.size := by rw [← hi.out,← hl]; omega
  have HP : Hid (CutPost s c (.returned (.tuple #[.string (s.extract 0 i),.string (s.extract (i + 1) s.size),.bool true]))) := Lib.hid ⟨_,_,true,rfl,by
   rw [ext_list,List.drop_zero,Nat.sub_zero]
   rw [← hi.out]
   exact upB_take c s.data.toList,by rw [ByteArray.size_extract]; omega,.inl ⟨rfl,by rw [ByteArray.size_extract]; omega,by
   rw [ext_list,hi.out,List.take_of_length_le]
   rw [List.length_drop,hl]
   exact Nat.le_refl _,by rw [ByteArray.size_extract,ByteArray.size_extract]; omega⟩⟩
  rw [hi.out] at hI
  have c1 : (0 : Int) ≤ (i : Int) := by omega
  have c2 : (i : Int) ≤ (s.size : Int) := by omega
  have c3 : (0 : Int) ≤ (i : Int) + 1 := by omega
  have c4 : (i : Int) + 1 ≤ (s.size : Int) := by omega
  have c5 : ((⟨#[c]⟩ : ByteArray).size : Int) = 1 := rfl
  clear h hu hl hi
  go_enter Tryz.func41,Tryz.ntmps41
  go_wp2_with fail
  refine (hI _).mono ?_
  rintro e w1 ⟨rfl,rfl⟩
  go_wp2_with fail
  go_quiet (fail)
  go_wp2_with fail
  go_ret3
  exact ⟨HP.out,_,rfl⟩
set_option maxRecDepth 100000 in
theorem cut_one (s : ByteArray) (hs : s.size ≤ 9223372036854775806) (c : UInt8) (w : World) :
  Calls Tryz.prog 26 #[.string s,.string ⟨#[c]⟩] w fun e w' => CutPost s c e ∧ ∃ n,w' = w.drewN n := by
 have hI := cut_in s hs c w
 go_enter Tryz.func26,Tryz.ntmps26
 go_wp2_with fail
 refine hI.mono ?_
 rintro e w1 ⟨hC,n,rfl⟩
 obtain ⟨P,R,fd,rfl,hr⟩ := hC
 have HP : Hid (CutPost s c (.returned (.tuple #[.string P,.string R,.bool fd]))) := Lib.hid ⟨P,R,fd,rfl,hr⟩
 clear hr
 go_wp2_with fail
 go_ret3
 exact ⟨HP.out,n,rfl⟩
end Go.Proofs.YtalaajniammggaaGreatDoor

/- A line, read. -/
namespace Go.Proofs.YtalaajniammggaaGreatDoor
open Go.RowKit
section
variable {fp : Int → List UInt8} {line : List UInt8} {n : Int}
theorem rd_rest {x : Ins} {p : Nat} (h : p < line.length) : rdLine fp line n [] x p = (ins0,6,(p : Int)) := by unfold rdLine; rw [if_pos h]
theorem rd_done {x : Ins} {p : Nat} (h : ¬ p < line.length) : rdLine fp line n [] x p = (x,0,0) := by unfold rdLine; rw [if_neg h]
theorem rd_short {f : Nat} {fs : List Nat} {x : Ins} {p : Nat} (h : p = line.length) : rdLine fp line n (f :: fs) x p = (ins0,5,(p : Int)) := by rw [rdLine,if_pos h]
theorem rd_wrong {f : Nat} {fs : List Nat} {x y : Ins} {p : Nat} {E : Int} {t : List UInt8} (h : p ≠ line.length) (ht : t = upB 32 (line.drop (p + 1))) (he : rdField fp x f t n = (y,E)) (hE : E ≠ 0) : rdLine fp line n (f :: fs) x p = (ins0,E,(p : Int) + 1) := by
 rw [rdLine,if_neg h,← ht,he,if_pos hE]
theorem rd_go {f : Nat} {fs : List Nat} {x y : Ins} {p : Nat} {t : List UInt8} (h : p ≠ line.length) (ht : t = upB 32 (line.drop (p + 1))) (he : rdField fp x f t n = (y,0)) : rdLine fp line n (f :: fs) x p = rdLine fp line n fs y (p + 1 + t.length) := by
 conv => lhs; rw [rdLine,if_neg h,← ht,he,if_neg (by simp)]
end
theorem gb_cell {w w' : World} {b : Nat} (h : w.grownBy w' (some b)) {a : Addr} (ha : a.block < w.heap.size) (hne : a.block ≠ b) : w'.cell? a = w.cell? a :=
 World.cell?_of_block (w := w) (h.block a.block ha (by simpa using hne))
theorem gb_x {w w' : World} {b r : Nat} {x : Ins} (h : w.grownBy w' (some b)) (hx : XAt w r x) (hne : r ≠ b) : XAt w' r x := (h.block r hx.lt (by simpa using hne)).trans hx
def LinePost (R : Ins × Int × Int) (w : World) (e : Ending) (w' : World) : Prop := e = .returned (.tuple #[insV R.1,.int .i64 R.2.1,.int .i64 R.2.2]) ∧ Below w.heap.size w w'
set_option maxRecDepth 100000 in
set_option maxHeartbeats 2000000 in
theorem readLine_any (V : Env) (o : Nat) (ho : o < 34) (s : ByteArray) (hs : s.size ≤ 140737488355328) (hw : (wordL (o : Int)).length ≤ s.size) (n : Int) (w : World) (A : V.A w) :
    Calls Tryz.prog 27 #[.int .i64 o,.string s,.int .i64 n] w fun e w' => LinePost (rdLine V.fp s.data.toList n (fieldsN o) ⟨o,0,0,0,0⟩ (wordL (o : Int)).length) w e w' := by
  have hWd : w.cell? ⟨0,o,none⟩ = some (.string ⟨(wordL (o : Int)).toArray⟩) := by
    rw [wds_cell (V.wds A) o ho]
    rfl
  obtain ⟨wd,hwd⟩ : ∃ S : ByteArray,Hid (S = ⟨(wordL (o : Int)).toArray⟩) := ⟨_,rfl⟩
  have zwd : Hid (wd.size = (wordL (o : Int)).length) := Lib.hid (by rw [hwd.out,ba_sz])
  rw [← zwd.out] at hw ⊢
  rw [← hwd.out] at hWd
  have hlt0 : 0 < w.heap.size := World.block_lt_of_cell? w _ hWd
  have hsl := szl s
  obtain ⟨R,hR⟩ : ∃ R,Hid (R = rdLine V.fp s.data.toList n (fieldsN o) ⟨o,0,0,0,0⟩ wd.size) := ⟨_,rfl⟩
  rw [← hR.out]
  obtain ⟨cr,hcr⟩ : ∃ c,Hid (c = Obj.cells #[.int .i64 0,.int .i64 0,.int .i64 0,.int .i64 0,.int .i64 0] 37) := ⟨_,rfl⟩
  obtain ⟨cx,hcx⟩ : ∃ c,Hid (c = Obj.cells #[.int .i64 o,.int .i64 0,.int .i64 0,.int .i64 0,.int .i64 0] 37) := ⟨_,rfl⟩
  have hlo : (o : Int) < 34 := by omega
  obtain ⟨W,hW⟩ : ∃ W,Hid (W = (w.alloc cr).alloc cx) := ⟨_,rfl⟩
  have zW : W.heap.size = w.heap.size + 2 := by rw [hW.out]; simp
  have BW : Below w.heap.size w W := by rw [hW.out]; exact ((Below.refl _ w).alloc (Nat.le_refl _) _).alloc (by simp) _
  have XW : XAt W (w.heap.size + 1) ⟨o,0,0,0,0⟩ := by
    have h := heap_alloc_new (w.alloc cr) cx
    rw [World.size_alloc] at h
    unfold XAt
    rw [hW.out,h,hcx.out]
  have XR : XAt W w.heap.size ins0 := by
    have h := heap_alloc_new w cr
    have h2 := heap_alloc_old (r := w.heap.size) (w.alloc cr) cx (by simp)
    unfold XAt
    rw [hW.out,h2,h,hcr.out]
    rfl
  have hFO := fieldsOf_any o W (V.fld (V.kept A BW))
  have hle : Hid (∀ f ∈ fieldsN o,f ≤ 3) := Lib.hid (fields_ord (o : Int)).2
  have hl4 : (fieldsN (o : Int)).length ≤ 4 := by
    unfold fieldsN
    cases hA (o : Int) <;> cases hB (o : Int) <;> cases hC (o : Int) <;> cases hI (o : Int) <;> simp
  generalize fieldsN (o : Int) = fs at *
  have HA := Lib.hid A
  have HXW := Lib.hid XW
  have HXR := Lib.hid XR
  clear XW XR A
  go_enter Tryz.func27,Tryz.ntmps27
  go_wp2_with fail
  rw [← hcr.out,← hcx.out,← hW.out]
  refine hFO.mono ?_
  rintro e w2 ⟨v8,nf,rfl,hrow,hnf,b2⟩
  obtain ⟨a8,c8,rfl⟩ := own_slice hrow
  have B2 : Below w.heap.size w w2 := BW.trans (b2.mono BW.size)
  have X2 := Lib.hid (HXW.out.kept b2)
  have R2 := Lib.hid (HXR.out.kept b2)
  have hrow' := Lib.hid hrow
  have hn' := Lib.hid hnf
  have hn4 : nf ≤ 4 := by omega
  have z2 : w.heap.size + 2 ≤ w2.heap.size := by rw [← zW]; exact b2.size
  clear hFO hrow hnf b2 hW hcr hcx HXW HXR BW hWd hl4 hwd
  go_wp2_with fail
  go_loopw [10,12,13,14,15,16,17,27] (fun s10 _ _ _ _ _ _ s27 wr => ∃ (i p : Nat) (y : Ins),s27 = .int .i64 i ∧ i ≤ nf ∧ s10 = .int .i64 p ∧ p ≤ s.size ∧ Hid (XAt wr (w.heap.size + 1) y) ∧ Hid (R = rdLine V.fp s.data.toList n (fs.drop i) y p) ∧ Hid (w2.grownBy wr (some (w.heap.size + 1))) ∧ Hid (Below w.heap.size w wr)) (fun _ _ _ _ _ _ _ s27 _ => nf - (intOf s27).toNat)
  case atStart => exact ⟨0,wd.size,⟨o,0,0,0,0⟩,rfl,by omega,rfl,hw,X2,hR,Lib.hid (gb_refl _ _),Lib.hid B2⟩
  case round =>
    obtain ⟨i,p,y,rfl,hi,rfl,hp,HX,HR,HG,HB⟩ := hrel
    have XRr := gb_x HG.out R2.out (by omega)
    obtain ⟨q0,q1,q2,q3,q4⟩ := XRr.ins
    have f0 := XRr.fz 0
    have f1 := XRr.fz 1
    have f2 := XRr.fz 2
    have f3 := XRr.fz 3
    have f4 := XRr.fz 4
    simp only [ins0] at q0 q1 q2 q3 q4
    by_cases hlt : i < nf
    · have hlt' : (i : Int) < (nf : Int) := by omega
      have hif : i < fs.length := by rw [hn'.out]; exact hlt
      obtain ⟨f,hf⟩ : ∃ f,Hid (fs[i]? = some f) := ⟨_,Lib.hid (List.getElem?_eq_getElem hif)⟩
      have hf3 := hle.out f (List.mem_of_getElem? hf.out)
      obtain ⟨g,cap,hv,hc⟩ := own_cell hrow'.out (by simp [intsV,hn'.out]) (i := i) (u := .int .i64 f) (by simp [intsV,hf.out])
      simp only [Value.slice.injEq,true_and] at hv
      obtain ⟨rfl,rfl⟩ := hv
      have hgB := (hrow'.out.lt g rfl).1
      have hcw := (gb_cell HG.out (World.block_lt_of_cell? w2 _ hc) (show g ≠ _ by omega)).trans hc
      have hdr : fs.drop i = f :: fs.drop (i + 1) := by
        rw [List.drop_eq_getElem_cons hif]
        have := hf.out
        rw [List.getElem?_eq_getElem hif] at this
        injection this with this
        rw [this]
      rw [hdr] at HR
      clear hc hdr hf hif
      by_cases hps : p = s.size
      · have d1 : ((p : Int) == (s.size : Int)) = true := by rw [beq_iff_eq]; omega
        have HE : Hid (R = (ins0,5,(p : Int))) := Lib.hid (HR.out.trans (rd_short (by omega)))
        clear HR hps
        go_wp2_with fail
        refine bodyPost_ret (v := .tuple #[insV ins0,.int .i64 5,.int .i64 p]) ?_ rfl ⟨?_,?_⟩
        · simp [results,Tryz.f27,go_sem,q0,q1,q2,q3,q4,insV,ins0]
        · rw [HE.out]
        · exact ((((HB.out.setCell (Nat.le_refl _) _).setCell (Nat.le_refl _) _).setCell (Nat.le_refl _) _).setCell (Nat.le_refl _) _).setCell (Nat.le_refl _) _
      · have hp1 : p < s.size := by omega
        have d1 : ((p : Int) == (s.size : Int)) = false := by rw [beq_eq_false_iff_ne]; omega
        have d2 : (p : Int) + 1 ≤ (s.size : Int) := by omega
        have d3 : (0 : Int) ≤ (p : Int) + 1 := by omega
        obtain ⟨T,hT⟩ : ∃ T : ByteArray,Hid (s.extract (p + 1) s.size = T) := ⟨_,rfl⟩
        have hTl : T.data.toList = s.data.toList.drop (p + 1) := by
          rw [← hT.out,ext_list,List.take_of_length_le]
          rw [List.length_drop,hsl]
          exact Nat.le_refl _
        have hTz : T.size = s.size - (p + 1) := by rw [← hT.out,ByteArray.size_extract]; omega
        have hsl2 : ∀ W,(Instr.slice 9 (.string s) (some (.int .i64 ((p : Int) + 1))) none none).run Tryz.prog W = .ok (.string T) W := fun W => by
          rw [← hT.out]
          simp [go_sem,d2,d3]
        have hC := cut_one T (by omega) 32 wr
        have HRF : Hid (∀ (P : ByteArray) (k : Nat),P.size ≤ s.size → Calls Tryz.prog 42 #[.pointer (some ⟨w.heap.size + 1,0,none⟩),.int .i64 f,.string P,.int .i64 n] (wr.drewN k) fun e w' => FldPost V P (w.heap.size + 1) f y n w (wr.drewN k) e w') := Lib.hid (fun P k hP =>
          readField_any V P (by omega) (w.heap.size + 1) f hf3 y n w (wr.drewN k) HA.out (by omega) (below_drewN HB.out k) HX.out)
        clear q0 q1 q2 q3 q4 f0 f1 f2 f3 f4 XRr
        go_wp2_with fail
        refine hC.mono ?_
        rintro e w3 ⟨hP,k,rfl⟩
        obtain ⟨P,Rr,fd,rfl,hPl,hPz,_⟩ := hP
        have hRF := HRF.out P k (by omega)
        have hPs : P.data.toList = upB 32 (s.data.toList.drop (p + 1)) := by rw [hPl,hTl]
        obtain ⟨p',hp'⟩ : ∃ p',Hid (p + 1 + P.size = p') := ⟨_,rfl⟩
        have ep : (p : Int) + 1 + (P.size : Int) = (p' : Int) := by have := hp'.out; omega
        have hp2 : p' ≤ s.size := by have := hp'.out; omega
        have HPs := Lib.hid hPs
        clear hPs hPl hT hTl hC HRF hPz hTz
        go_wp2_with fail
        refine hRF.mono ?_
        rintro e w4 ⟨rfl,HX4,HG4,HB4⟩
        clear hRF
        obtain ⟨yy,hyy⟩ : ∃ r,Hid (rdField V.fp y f P.data.toList n = r) := ⟨_,rfl⟩
        rw [hyy.out] at HX4 ⊢
        obtain ⟨y',E⟩ := yy
        simp only at HX4 ⊢
        have HGt := gb_trans HG.out (gb_trans (gb_below (some (w.heap.size + 1)) (below_drewN (Below.refl _ wr) k)) HG4)
        have XRr := gb_x HGt R2.out (by omega)
        obtain ⟨q0,q1,q2,q3,q4⟩ := XRr.ins
        have f0 := XRr.fz 0
        have f1 := XRr.fz 1
        have f2 := XRr.fz 2
        have f3 := XRr.fz 3
        have f4 := XRr.fz 4
        simp only [ins0] at q0 q1 q2 q3 q4
        by_cases hE : E = 0
        · subst hE
          have HR' : Hid (R = rdLine V.fp s.data.toList n (fs.drop (i + 1)) y' p') := Lib.hid (by
            rw [HR.out,rd_go (by omega) HPs.out hyy.out,← hp'.out,szl])
          have HX4' := Lib.hid HX4
          have HGt' := Lib.hid HGt
          have HB4' := Lib.hid HB4
          clear HR hyy HX4 HGt HB4 HG4 HX HG HB HPs hp' q0 q1 q2 q3 q4 f0 f1 f2 f3 f4 XRr
          go_wp2_with fail
          first
            | exact ⟨⟨i + 1,p',y',by go_num,by omega,by first | rfl | go_num,hp2,HX4',HR',HGt',HB4'⟩,by simp [intOf]; omega⟩
            | (go_roundw
               case rel => exact ⟨i + 1,p',y',by go_num,by omega,by first | rfl | go_num,hp2,HX4',HR',HGt',HB4'⟩
               case measure => simp [intOf]; omega)
        · have dE : (E == 0) = false := by simpa using hE
          have HE : Hid (R = (ins0,E,(p : Int) + 1)) := Lib.hid (HR.out.trans (rd_wrong (by omega) HPs.out hyy.out hE))
          have HB4' := Lib.hid HB4
          clear HR hyy HX4 HGt HB4 HG4 HX HG HB HPs hp' hE XRr
          go_wp2_with fail
          refine bodyPost_ret (v := .tuple #[insV ins0,.int .i64 E,.int .i64 ((p : Int) + 1)]) ?_ rfl ⟨?_,?_⟩
          · simp [results,Tryz.f27,go_sem,q0,q1,q2,q3,q4,insV,ins0]
          · rw [HE.out]
          · exact ((((HB4'.out.setCell (Nat.le_refl _) _).setCell (Nat.le_refl _) _).setCell (Nat.le_refl _) _).setCell (Nat.le_refl _) _).setCell (Nat.le_refl _) _
    · have hltd : decide ((i : Int) < (nf : Int)) = false := by simp; omega
      have hge : (nf : Int) ≤ (i : Int) := by omega
      have edr : fs.drop i = [] := List.drop_of_length_le (by rw [hn'.out]; omega)
      rw [edr] at HR
      clear edr
      by_cases hps : p < s.size
      · have d1 : (p : Int) < (s.size : Int) := by omega
        have HE : Hid (R = (ins0,6,(p : Int))) := Lib.hid (HR.out.trans (rd_rest (by omega)))
        clear HR HX HG XRr
        go_wp2_with fail
        refine bodyPost_ret (v := .tuple #[insV ins0,.int .i64 6,.int .i64 p]) ?_ rfl ⟨?_,?_⟩
        · simp [results,Tryz.f27,go_sem,q0,q1,q2,q3,q4,insV,ins0]
        · rw [HE.out]
        · exact ((((HB.out.setCell (Nat.le_refl _) _).setCell (Nat.le_refl _) _).setCell (Nat.le_refl _) _).setCell (Nat.le_refl _) _).setCell (Nat.le_refl _) _
      · have d1 : decide ((p : Int) < (s.size : Int)) = false := by simp; omega
        have d2 : (s.size : Int) ≤ (p : Int) := by omega
        have HE : Hid (R = (y,0,0)) := Lib.hid (HR.out.trans (rd_done (by omega)))
        obtain ⟨x0,x1,x2,x3,x4⟩ := HX.out.ins
        clear HR HX HG XRr
        go_wp2_with fail
        refine bodyPost_ret (v := .tuple #[insV y,.int .i64 0,.int .i64 0]) ?_ rfl ⟨?_,?_⟩
        · simp [results,Tryz.f27,go_sem,q0,q1,q2,q3,q4,insV]
        · rw [HE.out]
        · exact ((((HB.out.setCell (Nat.le_refl _) _).setCell (Nat.le_refl _) _).setCell (Nat.le_refl _) _).setCell (Nat.le_refl _) _).setCell (Nat.le_refl _) _
end Go.Proofs.YtalaajniammggaaGreatDoor
