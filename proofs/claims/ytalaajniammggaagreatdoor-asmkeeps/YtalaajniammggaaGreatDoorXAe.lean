/- A number's text, guessed; a number that is read. -/
import Derived.Test.YtalaajniammggaaGreatDoorXAb
import Derived.Test.YtalaajniammggaaGreatDoorXCb
import Derived.BigQuiet
import Derived.Lib.Hide
namespace Go.Proofs.YtalaajniammggaaGreatDoor
open Go.RowKit
def Guess (fp : Int → List UInt8) (t : List UInt8) (v : Int) (ok : Bool) : Prop :=
 (ok = true → InR v) ∧ ∀ o u,InR u → immL fp o u = t → ok = true ∧ u = v
section
variable {fp : Int → List UInt8}
theorem head_itoa {v : Int} {l : List UInt8} (e : Lib.itoa v = 102 :: l) : False := by
 have := itoa_chars v 102 (by rw [e]; simp)
 revert this
 decide
theorem guess_f_no {r : List UInt8} (h : ∀ v,InR v → fp v ≠ r) (v : Int) : Guess fp (102 :: r) v false := by
 refine ⟨fun h => absurd h (by simp),fun o u hu he => ?_⟩
 unfold immL at he
 split at he
 ·injection he with _ he
  exact absurd he (h u hu)
 ·exact (head_itoa he).elim
theorem guess_f_yes (F : FP fp) {r : List UInt8} {v : Int} (hv : InR v) (h : fp v = r) : Guess fp (102 :: r) v true := by
 refine ⟨fun _ => hv,fun o u hu he => ⟨rfl,?_⟩⟩
 unfold immL at he
 split at he
 ·injection he with _ he
  exact F.inj u v hu.1 hu.2 hv.1 hv.2 (he.trans h.symm)
 ·exact (head_itoa he).elim
theorem guess_i {t : List UInt8} (hp : Lib.hasPrefix t [102] = false) {o u : Int} (hu : InR u) (he : immL fp o u = t) : Lib.atoiAll t = .ok u := by
 unfold immL at he
 split at he
 ·subst he
  simp [Lib.hasPrefix] at hp
 ·rw [← he]
  exact atoi_itoa u hu
theorem guess_i_no {t : List UInt8} (hp : Lib.hasPrefix t [102] = false) (h : ∀ v,Lib.atoiAll t ≠ .ok v) (v : Int) : Guess fp t v false :=
 ⟨fun h => absurd h (by simp),fun _ u hu he => absurd (guess_i hp hu he) (h u)⟩
theorem guess_i_yes {t : List UInt8} (hp : Lib.hasPrefix t [102] = false) {v : Int} (h : Lib.atoiAll t = .ok v) : Guess fp t v true :=
 ⟨fun _ => Lib.atoiAll_bounds h,fun _ u hu he => ⟨rfl,by
  have := guess_i hp hu he
  rw [h] at this
  injection this with this
  exact this.symm⟩⟩
theorem pre_split {t : List UInt8} (h : Lib.hasPrefix t [102] = true) : t = 102 :: Lib.trimPrefix t [102] := by
 unfold Lib.trimPrefix
 rw [if_pos h]
 cases t with
 | nil => simp [Lib.hasPrefix] at h
 | cons c r =>
  simp [Lib.hasPrefix] at h
  simp [h]
end
theorem sz_list (s : ByteArray) : s.data.toList.length = s.size := Array.length_toList
set_option maxRecDepth 100000 in
set_option maxHeartbeats 1000000 in
theorem guess_any (V : Env) (s : ByteArray) (hs : s.size ≤ 140737488355328) (w : World) (A : V.A w) :
  Calls Tryz.prog 72 #[.string s] w fun e w' => ∃ (v : Int) (ok : Bool),Hid (Guess V.fp s.data.toList v ok) ∧ e = .returned (.tuple #[.int .i64 v,.bool ok]) ∧ Below w.heap.size w w' := by
 have h1 := Tryz.strings_CutPrefix s ⟨#[102]⟩
 obtain ⟨t,ht⟩ : ∃ t : ByteArray,Hid (t = ⟨(Lib.trimPrefix s.data.toList (⟨#[102]⟩ : ByteArray).data.toList).toArray⟩) := ⟨_,Lib.hid rfl⟩
 rw [← ht.out] at h1
 have htl : t.data.toList = Lib.trimPrefix s.data.toList [102] := by rw [ht.out]
 have hts : t.size ≤ 140737488355328 := by
  have h2 := sz_list t
  have h3 := sz_list s
  rw [htl] at h2
  unfold Lib.trimPrefix at h2
  split at h2 <;> simp at h2 <;> omega
 have hP := V.pa t hts w A
 have e0 : (⟨#[102]⟩ : ByteArray).data.toList = [102] := rfl
 rw [e0] at h1
 obtain ⟨te,pe,hsyn⟩ := V.syn A
 obtain ⟨tr,pr,hrng⟩ := V.rng A
 have p1 := fun v h => Tryz.strconv_ParseInt_10_at64_ok s (by omega) v h w
 have p2 := fun h => Tryz.strconv_ParseInt_10_at64_syntax s (by omega) h _ w hsyn (.inr ⟨_,_,rfl⟩)
 have p3 := fun h => Tryz.strconv_ParseInt_10_at64_range s (by omega) h _ w hrng (.inr ⟨_,_,rfl⟩)
 rw [Lib.parseIntB_64] at p1 p2 p3
 cases hb : Lib.hasPrefix s.data.toList [102] with
 | true =>
  have hsp := pre_split hb
  rw [hb] at h1
  have HG1 : Hid (∀ y : Int,(∀ v,InR v → V.fp v ≠ t.data.toList) → Guess V.fp s.data.toList y false) := Lib.hid (fun y h => by rw [hsp,← htl]; exact guess_f_no h y)
  have HG2 : Hid (∀ y : Int,InR y → V.fp y = t.data.toList → Guess V.fp s.data.toList y true) := Lib.hid (fun y h1 h2 => by rw [hsp,← htl]; exact guess_f_yes V.F h1 h2)
  clear p1 p2 p3 ht htl hsp hb hsyn hrng
  go_enter Tryz.func72,Tryz.ntmps72
  go_wp2_with fail
  refine (h1 _).mono ?_
  rintro e w1 ⟨rfl,rfl⟩
  go_wp2_with fail
  refine hP.mono ?_
  rintro e w2 ⟨y,k,hyk,rfl,b2⟩
  rcases hyk with ⟨rfl,rfl,hno⟩ | ⟨hy,rfl,hyes⟩
  ·have G := Lib.hid (HG1.out 0 hno)
   clear hno HG1 HG2
   go_wp2_with fail
   go_ret2
   exact ⟨_,_,G,rfl,b2⟩
  ·have G := Lib.hid (HG2.out y hy hyes)
   clear hyes HG1 HG2
   go_wp2_with fail
   go_ret2
   exact ⟨_,_,G,rfl,b2⟩
 | false =>
  rw [hb] at h1
  have HG1 : Hid (∀ y : Int,(∀ v,Lib.atoiAll s.data.toList ≠ .ok v) → Guess V.fp s.data.toList y false) := Lib.hid (fun y h => guess_i_no hb h y)
  have HG2 : Hid (∀ y : Int,Lib.atoiAll s.data.toList = .ok y → Guess V.fp s.data.toList y true) := Lib.hid (fun y h => guess_i_yes hb h)
  have key : Calls Tryz.prog 91 #[.string s,.int .i64 10,.int .i64 64] w fun e w' => ∃ v err ok,e = .returned (.tuple #[.int .i64 v,err]) ∧ (err = .nilIface ∧ ok = true ∨ (∃ T p,err = .iface T p) ∧ ok = false) ∧ Hid (Guess V.fp s.data.toList v ok) ∧ Below w.heap.size w w' := by
   cases hR : Lib.atoiAll s.data.toList with
   | ok v =>
    refine (p1 v hR).mono ?_
    rintro e w' ⟨rfl,hw⟩
    refine ⟨v,_,true,rfl,.inl ⟨rfl,rfl⟩,Lib.hid (HG2.out v hR),?_⟩
    rcases hw with rfl | ⟨t,rfl⟩
    ·exact Below.refl _ _
    ·exact Lib.bytesWorld_below w 5 t
   | «syntax» =>
    refine (p2 hR).mono ?_
    rintro e w' ⟨N,rfl,_,_,hbb⟩
    exact ⟨_,_,false,rfl,.inr ⟨⟨_,_,rfl⟩,rfl⟩,Lib.hid (HG1.out _ (fun v h => by rw [hR] at h; cases h)),hbb⟩
   | range =>
    refine (p3 hR).mono ?_
    rintro e w' ⟨N,rfl,_,_,hbb⟩
    exact ⟨_,_,false,rfl,.inr ⟨⟨_,_,rfl⟩,rfl⟩,Lib.hid (HG1.out _ (fun v h => by rw [hR] at h; cases h)),hbb⟩
  clear p1 p2 p3 ht htl hb hsyn hrng hP HG1 HG2
  go_enter Tryz.func72,Tryz.ntmps72
  go_wp2_with fail
  refine (h1 _).mono ?_
  rintro e w1 ⟨rfl,rfl⟩
  go_wp2_with fail
  refine key.mono ?_
  rintro e w2 ⟨v,err,ok,rfl,he,G,b2⟩
  rcases he with ⟨rfl,rfl⟩ | ⟨⟨T,p,rfl⟩,rfl⟩
  ·go_wp2_with fail
   go_quiet (fail)
   go_wp2_with fail
   go_ret2
   exact ⟨_,_,G,rfl,below_drewN b2 _⟩
  ·go_wp2_with fail
   go_quiet (fail)
   go_wp2_with fail
   go_ret2
   exact ⟨_,_,G,rfl,below_drewN b2 _⟩
end Go.Proofs.YtalaajniammggaaGreatDoor

/- A register, a number, a field: read into an instruction that lies in memory. -/
namespace Go.Proofs.YtalaajniammggaaGreatDoor
open Go.RowKit
def XAt (w : World) (b : Nat) (x : Ins) : Prop := w.heap[b]? = some (.cells #[.int .i64 x.op,.int .i64 x.a,.int .i64 x.b,.int .i64 x.c,.int .i64 x.imm] 37 (0,0))
theorem XAt.ins {w : World} {b : Nat} {x : Ins} (h : XAt w b x) : InsAt w b 0 x := by
 constructor <;> rw [Lib.cell_of_heap h] <;> rfl
theorem XAt.fz {w : World} {b : Nat} {x : Ins} (h : XAt w b x) (i : Nat) : w.frozen? ⟨b,i,none⟩ = false := Lib.frozen_of_heap h i
theorem XAt.lt {w : World} {b : Nat} {x : Ins} (h : XAt w b x) : b < w.heap.size := by
 rcases Nat.lt_or_ge b w.heap.size with h' | h'
 ·exact h'
 ·unfold XAt at h
  simp [Array.getElem?_eq_none h'] at h
theorem XAt.kept {w w' : World} {b : Nat} {x : Ins} (h : XAt w b x) (hb : Below w.heap.size w w') : XAt w' b x := (hb.block b h.lt).trans h
theorem XAt.set {w : World} {b : Nat} {x : Ins} (h : XAt w b x) (f : Nat) (hf : f ≤ 3) (v : Int) : XAt (w.setCell ⟨b,f + 1,none⟩ (.int .i64 v)) b (setF x f v) := by
 unfold XAt at h ⊢
 rcases (show f = 0 ∨ f = 1 ∨ f = 2 ∨ f = 3 by omega) with rfl | rfl | rfl | rfl <;> simp [World.setCell,Array.getElem?_modify,h,setF]
theorem gb_refl (w : World) (r : Option Nat) : w.grownBy w r := ⟨rfl,rfl,rfl,Nat.le_refl _,fun _ _ _ => rfl⟩
theorem gb_below {w w' : World} (r : Option Nat) (h : Below w.heap.size w w') : w.grownBy w' r := ⟨h.os,h.tape,h.output,h.size,fun k hk _ => h.block k hk⟩
theorem gb_set (w : World) (b i : Nat) (v : Value) : w.grownBy (w.setCell ⟨b,i,none⟩ v) (some b) :=
 ⟨rfl,rfl,rfl,by simp [World.setCell],fun k _ hk => Below.heap_setCell _ _ _ _ (fun e => hk (by simp [e]))⟩
theorem gb_trans {a b c : World} {r : Option Nat} (h : a.grownBy b r) (k : b.grownBy c r) : a.grownBy c r :=
 ⟨k.os.trans h.os,k.tape.trans h.tape,k.output.trans h.output,Nat.le_trans h.size k.size,fun i hi hr => (k.block i (Nat.lt_of_lt_of_le hi h.size) hr).trans (h.block i hi hr)⟩
theorem regOf_none {t : List UInt8} (h : ∀ q : Nat,q < 8 → t ≠ regL q) : regOf t = none := by
 cases e : regOf t with
 | none => rfl
 | some r =>
  obtain ⟨h1,h2,h3⟩ := regOf_some e
  have := h r.toNat (by omega)
  rw [show ((r.toNat : Nat) : Int) = r by omega] at this
  exact absurd h3 this
theorem regOf_is {t : List UInt8} {r : Nat} (hr : r < 8) (h : t = regL r) : regOf t = some (r : Int) := by
 rw [h]
 exact regOf_yes (by omega) (by omega)
set_option maxRecDepth 100000 in
set_option maxHeartbeats 1000000 in
theorem readReg_any (s : ByteArray) (b f : Nat) (hf : f < 3) (x : Ins) (w : World) (hx : XAt w b x) :
    Calls Tryz.prog 58 #[.pointer (some ⟨b,f + 1,none⟩),.string s] w fun e w' => (match regOf s.data.toList with | some r => e = .returned (.int .i64 0) ∧ XAt w' b (setF x f r) | none => e = .returned (.int .i64 10) ∧ XAt w' b x) ∧ w.grownBy w' (some b) := by
  have hI : ∀ r : Nat,r < 8 → ∀ W,_ := fun r hr W => itoa_reg r hr W
  have hR : ∀ r : Nat,r < 8 → Hid ((⟨#[114]⟩ : ByteArray) ++ ⟨(Lib.decDigits r).toArray⟩ = ⟨(regL r).toArray⟩) := fun r hr => Lib.hid (by
    rw [regL_nat r (by omega),Lib.decDigits_one (by omega)]
    exact ba_app [114] [UInt8.ofNat (48 + r)])
  have hZ : ∀ r : Nat,r < 8 → (⟨(Lib.decDigits r).toArray⟩ : ByteArray).size = 1 := fun r hr => by rw [ba_sz,Lib.decDigits_one (by omega)]; rfl
  have hc : w.cell? ⟨b,f + 1,none⟩ = some (.int .i64 (getF x f)) := by
    rw [Lib.cell_of_heap hx]
    rcases (show f = 0 ∨ f = 1 ∨ f = 2 by omega) with rfl | rfl | rfl <;> rfl
  have hfz := hx.fz (f + 1)
  have HX := Lib.hid hx
  generalize getF x f = old at *
  obtain ⟨F1,hF1⟩ : ∃ F,Hid (f + 1 = F) := ⟨_,rfl⟩
  rw [hF1.out] at hc hfz ⊢
  obtain ⟨Q,hQ⟩ : ∃ Q : Ending → World → Prop,Hid (Q = fun e w' => (match regOf s.data.toList with | some r => e = .returned (.int .i64 0) ∧ XAt w' b (setF x f r) | none => e = .returned (.int .i64 10) ∧ XAt w' b x) ∧ w.grownBy w' (some b)) := ⟨_,rfl⟩
  rw [← hQ.out]
  have Q1 : ∀ r : Nat,r < 8 → s.data.toList = regL r → Q (.returned (.int .i64 0)) (w.setCell ⟨b,F1,none⟩ (.int .i64 r)) := fun r hr he => by
    rw [hQ.out,← hF1.out]
    simp only
    rw [regOf_is hr he]
    exact ⟨⟨by trivial,HX.out.set f (by omega) r⟩,gb_set _ _ _ _⟩
  have Q2 : (∀ q : Nat,q < 8 → s.data.toList ≠ regL q) → Q (.returned (.int .i64 10)) w := fun h => by
    rw [hQ.out]
    simp only
    rw [regOf_none h]
    exact ⟨⟨by trivial,HX.out⟩,gb_refl _ _⟩
  have HQ1 := Lib.hid Q1
  have HQ2 := Lib.hid Q2
  clear Q1 Q2 hQ HX hx
  go_enter Tryz.func58,Tryz.ntmps58
  go_wp2_with fail
  go_loopw [5,6] (fun _ s6 wr => ∃ r : Nat,s6 = .int .i64 r ∧ r ≤ 8 ∧ Hid (∀ q : Nat,q < r → s.data.toList ≠ regL q) ∧ wr = w) (fun _ s6 _ => 8 - (intOf s6).toNat)
  case atStart => exact ⟨0,rfl,by omega,Lib.hid (fun q hq => absurd hq (Nat.not_lt_zero q)),rfl⟩
  case round =>
    obtain ⟨r,rfl,hr,HN,rfl⟩ := hrel
    by_cases hlt : r < 8
    · have hlt' : (r : Int) < 8 := by omega
      have hI := hI r hlt
      have hR := hR r hlt
      have hZ := hZ r hlt
      obtain ⟨D,hD⟩ : ∃ D : ByteArray,Hid (D = ⟨(Lib.decDigits r).toArray⟩) := ⟨_,rfl⟩
      rw [← hD.out] at hI hR hZ
      have ad := add_ok ⟨#[114]⟩ D (by show 1 + D.size ≤ _; omega)
      obtain ⟨S,hS⟩ : ∃ S : ByteArray,Hid ((⟨#[114]⟩ : ByteArray) ++ D = S) := ⟨_,rfl⟩
      rw [hS.out] at ad hR
      have eS : S.toList = regL r := by rw [hR.out,Lib.toList_data,ba_list]
      clear hD hS
      by_cases he : s.data.toList = regL r
      · have d : (s.toList == S.toList) = true := by rw [eS,Lib.toList_data,he]; simp
        have HQ := Lib.hid (HQ1.out r hlt he)
        clear HN HQ1 HQ2 he hR eS
        go_wp2_with fail
        refine (hI _).mono ?_
        rintro e w1 ⟨rfl,rfl⟩
        go_wp2_with fail
        exact HQ
      · have d : (s.toList == S.toList) = false := by rw [eS,Lib.toList_data]; simpa using he
        have HN' : Hid (∀ q : Nat,q < r + 1 → s.data.toList ≠ regL q) := Lib.hid (fun q hq => by
          by_cases e : q = r
          · rw [e]; exact he
          · exact HN.out q (by omega))
        clear HN HQ1 HQ2 he hR eS
        go_wp2_with fail
        refine (hI _).mono ?_
        rintro e w1 ⟨rfl,rfl⟩
        go_wp2_with fail
        first
          | exact ⟨⟨r + 1,by go_num,by omega,HN',by trivial⟩,by simp [intOf]; omega⟩
          | (go_roundw
             case rel => exact ⟨r + 1,by go_num,by omega,HN',by trivial⟩
             case measure => simp [intOf]; omega)
    · have hltd : decide ((r : Int) < 8) = false := by simp; omega
      have HQ := Lib.hid (HQ2.out (fun q hq => HN.out q (by omega)))
      clear HN HQ1 HQ2
      go_wp2_with fail
      exact HQ
end Go.Proofs.YtalaajniammggaaGreatDoor

/- A number and a field, read into an instruction that lies in memory. -/
namespace Go.Proofs.YtalaajniammggaaGreatDoor
open Go.RowKit
theorem num_some {fp : Int → List UInt8} (F : FP fp) {t : List UInt8} {v o : Int} {ok : Bool} (h : Guess fp t v ok) (hok : ok = true) (he : immL fp o v = t) : numOf fp o t = some v := numOf_yes F (h.1 hok) he
theorem num_none {fp : Int → List UInt8} {t : List UInt8} {v o : Int} {ok : Bool} (h : Guess fp t v ok) (hno : ok = true → immL fp o v ≠ t) : numOf fp o t = none :=
 numOf_no (fun u hu he => by
  obtain ⟨h1,h2⟩ := h.2 o u hu he
  subst h2
  exact hno h1 he)
set_option maxRecDepth 100000 in
set_option maxHeartbeats 1000000 in
theorem readNum_any (V : Env) (s : ByteArray) (hs : s.size ≤ 140737488355328) (b : Nat) (x : Ins) (w0 w : World) (A : V.A w0) (hB : w0.heap.size ≤ b) (h0 : Below w0.heap.size w0 w) (hx : XAt w b x) :
  Calls Tryz.prog 59 #[.pointer (some ⟨b,0,none⟩),.string s] w fun e w' => (match numOf V.fp x.op s.data.toList with | some v => e = .returned (.int .i64 0) ∧ XAt w' b (setF x 3 v) | none => e = .returned (.int .i64 4) ∧ XAt w' b x) ∧ w.grownBy w' (some b) ∧ Below w0.heap.size w0 w' := by
 have hG := guess_any V s hs w (V.kept A h0)
 have HX := Lib.hid hx
 have HA := Lib.hid A
 obtain ⟨Q,hQ⟩ : ∃ Q : Ending → World → Prop,Hid (Q = fun e w' => (match numOf V.fp x.op s.data.toList with | some v => e = .returned (.int .i64 0) ∧ XAt w' b (setF x 3 v) | none => e = .returned (.int .i64 4) ∧ XAt w' b x) ∧ w.grownBy w' (some b) ∧ Below w0.heap.size w0 w') := ⟨_,rfl⟩
 rw [← hQ.out]
 have Q1 : ∀ (v : Int) (W : World),Below w.heap.size w W → numOf V.fp x.op s.data.toList = some v → Q (.returned (.int .i64 0)) (W.setCell ⟨b,4,none⟩ (.int .i64 v)) := fun v W hW he => by
  rw [hQ.out]
  simp only
  rw [he]
  exact ⟨⟨by trivial,(HX.out.kept hW).set 3 (by omega) v⟩,gb_trans (gb_below _ hW) (gb_set _ _ _ _),(h0.trans (hW.mono h0.size)).setCell hB _⟩
 have Q2 : ∀ (W : World),Below w.heap.size w W → numOf V.fp x.op s.data.toList = none → Q (.returned (.int .i64 4)) W := fun W hW he => by
  rw [hQ.out]
  simp only
  rw [he]
  exact ⟨⟨by trivial,HX.out.kept hW⟩,gb_below _ hW,h0.trans (hW.mono h0.size)⟩
 have HQ1 := Lib.hid Q1
 have HQ2 := Lib.hid Q2
 clear Q1 Q2 hQ hx A
 go_enter Tryz.func59,Tryz.ntmps59
 go_wp2_with fail
 refine hG.mono ?_
 rintro e w1 ⟨v,ok,G,rfl,b1⟩
 clear hG
 cases ok with
 | false =>
  have HQ := Lib.hid (HQ2.out w1 b1 (num_none G.out (fun h => absurd h (by simp))))
  clear HQ1 HQ2 G
  go_wp2_with fail
  exact HQ
 | true =>
  have hv := G.out.1 rfl
  obtain ⟨k0,k1,k2,k3,k4⟩ := (HX.out.kept b1).ins
  have hfz := (HX.out.kept b1).fz 4
  have A1 : V.A w1 := V.kept HA.out (h0.trans (b1.mono h0.size))
  have hN := numText_any V x.op v hv w1 A1
  obtain ⟨S,hS⟩ : ∃ S : ByteArray,Hid (S = ⟨(immL V.fp x.op v).toArray⟩) := ⟨_,rfl⟩
  rw [← hS.out] at hN
  have eS : S.toList = immL V.fp x.op v := by rw [hS.out,Lib.toList_data,ba_list]
  have hXk := Lib.hid (HX.out.kept b1)
  clear hS
  by_cases he : immL V.fp x.op v = s.data.toList
  ·have d : (S.toList == s.toList) = true := by rw [eS,Lib.toList_data,he]; simp
   have hq := num_some V.F G.out rfl he
   have HQ := Lib.hid (fun (W : World) (h : Below w1.heap.size w1 W) => HQ1.out v W (b1.trans (h.mono b1.size)) hq)
   clear HQ1 HQ2 G he eS hq
   go_wp2_with fail
   refine hN.mono ?_
   rintro e w2 ⟨rfl,b2⟩
   have HQ' := Lib.hid (HQ.out w2 b2)
   obtain ⟨j0,j1,j2,j3,j4⟩ := (hXk.out.kept b2).ins
   have jfz := (hXk.out.kept b2).fz 4
   clear HQ
   go_wp2_with fail
   exact HQ'
  ·have d : (S.toList == s.toList) = false := by rw [eS,Lib.toList_data]; simpa using he
   have hq := num_none (o := x.op) G.out (fun _ => he)
   have HQ := Lib.hid (fun (W : World) (h : Below w1.heap.size w1 W) => HQ2.out W (b1.trans (h.mono b1.size)) hq)
   clear HQ1 HQ2 G he eS hq
   go_wp2_with fail
   refine hN.mono ?_
   rintro e w2 ⟨rfl,b2⟩
   have HQ' := Lib.hid (HQ.out w2 b2)
   clear HQ
   go_wp2_with fail
   exact HQ'
end Go.Proofs.YtalaajniammggaaGreatDoor

/- A field, read into an instruction that lies in memory. -/
namespace Go.Proofs.YtalaajniammggaaGreatDoor
open Go.RowKit
def FldPost (V : Env) (s : ByteArray) (b f : Nat) (x : Ins) (n : Int) (w0 w : World) (e : Ending) (w' : World) : Prop :=
 e = .returned (.int .i64 (rdField V.fp x f s.data.toList n).2) ∧ XAt w' b (rdField V.fp x f s.data.toList n).1 ∧ w.grownBy w' (some b) ∧ Below w0.heap.size w0 w'
theorem regPost (V : Env) {s : ByteArray} {b f : Nat} (hf : f < 3) {x : Ins} {n : Int} {w0 w : World} (hB : w0.heap.size ≤ b) (h0 : Below w0.heap.size w0 w) {e : Ending} {w' : World}
  (h : (match regOf s.data.toList with | some r => e = .returned (.int .i64 0) ∧ XAt w' b (setF x f r) | none => e = .returned (.int .i64 10) ∧ XAt w' b x) ∧ w.grownBy w' (some b)) : ∃ E : Int,e = .returned (.int .i64 E) ∧ FldPost V s b f x n w0 w (.returned (.int .i64 E)) w' := by
 obtain ⟨h1,h2⟩ := h
 have hb : Below w0.heap.size w0 w' := h0.grown h2 h0.size (fun k hk => by simp at hk; omega)
 cases e1 : regOf s.data.toList with
 | some r =>
  rw [e1] at h1
  have er : rdField V.fp x f s.data.toList n = (setF x f r,0) := by unfold rdField; rw [if_pos hf,e1]
  exact ⟨0,h1.1,by rw [er],by rw [er]; exact h1.2,h2,hb⟩
 | none =>
  rw [e1] at h1
  have er : rdField V.fp x f s.data.toList n = (x,10) := by unfold rdField; rw [if_pos hf,e1]
  exact ⟨10,h1.1,by rw [er],by rw [er]; exact h1.2,h2,hb⟩
set_option maxRecDepth 100000 in
set_option maxHeartbeats 1000000 in
theorem readField_any (V : Env) (s : ByteArray) (hs : s.size ≤ 140737488355328) (b f : Nat) (hf : f ≤ 3) (x : Ins) (n : Int) (w0 w : World) (A : V.A w0) (hB : w0.heap.size ≤ b) (h0 : Below w0.heap.size w0 w) (hx : XAt w b x) :
  Calls Tryz.prog 42 #[.pointer (some ⟨b,0,none⟩),.int .i64 f,.string s,.int .i64 n] w fun e w' => FldPost V s b f x n w0 w e w' := by
 have hR : ∀ g : Nat,g < 3 → _ := fun g hg => readReg_any s b g hg x w hx
 have hN := readNum_any V s hs b x w0 w A hB h0 hx
 obtain ⟨Q,hQ⟩ : ∃ Q : Ending → World → Prop,Hid (Q = fun e w' => FldPost V s b f x n w0 w e w') := ⟨_,rfl⟩
 rw [← hQ.out]
 have HA := Lib.hid A
 have H0 := Lib.hid h0
 clear A hx
 rcases (show f = 0 ∨ f = 1 ∨ f = 2 ∨ f = 3 by omega) with rfl | rfl | rfl | rfl
 ·have hR := hR 0 (by omega)
  clear hN
  go_enter Tryz.func42,Tryz.ntmps42
  go_wp2_with fail
  refine hR.mono ?_
  intro e w' hp
  obtain ⟨E,rfl,hq⟩ := regPost V (n := n) (by omega) hB H0.out hp
  have HQ : Hid (Q (.returned (.int .i64 E)) w') := Lib.hid (by rw [hQ.out]; exact hq)
  clear hp hq hQ
  go_wp2_with fail
  exact HQ
 ·have hR := hR 1 (by omega)
  clear hN
  go_enter Tryz.func42,Tryz.ntmps42
  go_wp2_with fail
  refine hR.mono ?_
  intro e w' hp
  obtain ⟨E,rfl,hq⟩ := regPost V (n := n) (by omega) hB H0.out hp
  have HQ : Hid (Q (.returned (.int .i64 E)) w') := Lib.hid (by rw [hQ.out]; exact hq)
  clear hp hq hQ
  go_wp2_with fail
  exact HQ
 ·have hR := hR 2 (by omega)
  clear hN
  go_enter Tryz.func42,Tryz.ntmps42
  go_wp2_with fail
  refine hR.mono ?_
  intro e w' hp
  obtain ⟨E,rfl,hq⟩ := regPost V (n := n) (by omega) hB H0.out hp
  have HQ : Hid (Q (.returned (.int .i64 E)) w') := Lib.hid (by rw [hQ.out]; exact hq)
  clear hp hq hQ
  go_wp2_with fail
  exact HQ
 ·clear hR
  go_enter Tryz.func42,Tryz.ntmps42
  go_wp2_with fail
  refine hN.mono ?_
  rintro e w' ⟨h1,h2,h3⟩
  cases e1 : numOf V.fp x.op s.data.toList with
  | none =>
   rw [e1] at h1
   obtain ⟨rfl,h4⟩ := h1
   have er : rdField V.fp x 3 s.data.toList n = (x,4) := by unfold rdField; rw [if_neg (by omega),e1]
   have HQ : Hid (Q (.returned (.int .i64 4)) w') := Lib.hid (by rw [hQ.out]; exact ⟨by rw [er],by rw [er]; exact h4,h2,h3⟩)
   clear e1 h4 er hQ h2 hN
   go_wp2_with fail
   exact HQ
  | some v =>
   rw [e1] at h1
   obtain ⟨rfl,h4⟩ := h1
   have er : rdField V.fp x 3 s.data.toList n = (setF x 3 v,(wrong (setF x 3 v) n 8).1) := by unfold rdField; rw [if_neg (by omega),e1]
   have hC := check_any (setF x 3 v) n 8 w' (V.fld (V.kept HA.out h3))
   have HQ : Hid (∀ W,Below w'.heap.size w' W → Q (.returned (.int .i64 (wrong (setF x 3 v) n 8).1)) W) := Lib.hid (fun W hW => by
    rw [hQ.out]
    exact ⟨by rw [er],by rw [er]; exact h4.kept hW,gb_trans h2 (gb_below _ hW),h3.trans (hW.mono h3.size)⟩)
   obtain ⟨k0,k1,k2,k3,k4⟩ := h4.ins
   generalize setF x 3 v = y at *
   generalize (wrong y n 8).1 = E at *
   unfold insV at hC
   clear e1 h4 er hQ h2 hN
   go_wp2_with fail
   refine hC.mono ?_
   rintro e w2 ⟨rfl,b2⟩
   have HQ' := Lib.hid (HQ.out w2 b2)
   clear HQ
   go_wp2_with fail
   exact HQ'
end Go.Proofs.YtalaajniammggaaGreatDoor
