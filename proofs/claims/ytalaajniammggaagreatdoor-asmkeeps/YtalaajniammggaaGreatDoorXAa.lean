/- Instructions as text: lines and programs, over lists of bytes; fp tells the text of a float's bits. -/
import Derived.Lib.ItoaNum
import Derived.Lib.ItoaLen
import Derived.Test.YtalaajniammggaaGreatDoorXCa
import Derived.Lib.AtoiAllCases
namespace Go.Proofs.YtalaajniammggaaGreatDoor
open Go.RowKit
def wordsL : List (List UInt8) := [
 [101,120,105,116],
 [115,101,116],
 [109,111,118,101],
 [97,100,100],
 [115,117,98],
 [109,117,108],
 [100,105,118],
 [114,101,109],
 [97,110,100],
 [111,114],
 [120,111,114],
 [115,104,108],
 [115,104,114],
 [108,101,115,115],
 [101,113,117,97,108],
 [102,97,100,100],
 [102,115,117,98],
 [102,109,117,108],
 [102,100,105,118],
 [102,108,101,115,115],
 [116,111,102,108,111,97,116],
 [116,111,105,110,116],
 [106,117,109,112],
 [105,102],
 [115,101,110,100],
 [114,101,99,118],
 [116,114,121],
 [116,105,109,101,114],
 [115,108,101,101,112],
 [108,111,99,107],
 [117,110,108,111,99,107],
 [111,117,116],
 [110,111,119],
 [115,101,108,102]]
def wordL (o : Int) : List UInt8 := wordsL.getD o.toNat []
def regL (r : Int) : List UInt8 := 114 :: Lib.itoa r
structure FP (fp : Int → List UInt8) : Prop where
 inj : ∀ a b : Int,-9223372036854775808 ≤ a → a ≤ 9223372036854775807 → -9223372036854775808 ≤ b → b ≤ 9223372036854775807 → fp a = fp b → a = b
 ok : ∀ a : Int,∀ c ∈ fp a,c ≠ 10 ∧ c ≠ 32
 len : ∀ a : Int,(fp a).length ≤ 25
def Far (o i : Int) : Prop := o = 1 ∧ (i < -4503599627370496 ∨ 4503599627370496 < i)
instance (o i : Int) : Decidable (Far o i) := by unfold Far; exact inferInstance
section
variable (fp : Int → List UInt8)
def immL (o i : Int) : List UInt8 := if Far o i then 102 :: fp i else Lib.itoa i
def fieldsN (o : Int) : List Nat := (if hA o = true then [0] else []) ++ ((if hB o = true then [1] else []) ++ ((if hC o = true then [2] else []) ++ (if hI o = true then [3] else [])))
def fldL (x : Ins) : Nat → List UInt8
 | 0 => regL x.a
 | 1 => regL x.b
 | 2 => regL x.c
 | _ => immL fp x.op x.imm
def restL (x : Ins) (fs : List Nat) : List UInt8 := fs.flatMap fun f => 32 :: fldL fp x f
def lineL (x : Ins) : List UInt8 := wordL x.op ++ restL fp x (fieldsN x.op)
def textL (l : List Ins) : List UInt8 := l.flatMap fun x => lineL fp x ++ [10]
def upB (c : UInt8) (s : List UInt8) : List UInt8 := s.takeWhile fun x => x != c
def regOf (t : List UInt8) : Option Int := if t = regL 0 then some 0 else if t = regL 1 then some 1 else if t = regL 2 then some 2 else if t = regL 3 then some 3 else if t = regL 4 then some 4 else if t = regL 5 then some 5 else if t = regL 6 then some 6 else if t = regL 7 then some 7 else none
open Classical in
noncomputable def numOf (o : Int) (t : List UInt8) : Option Int :=
 if h : ∃ v : Int,-9223372036854775808 ≤ v ∧ v ≤ 9223372036854775807 ∧ immL fp o v = t then some h.choose else none
def setF (x : Ins) (f : Nat) (v : Int) : Ins := match f with
 | 0 => ⟨x.op,v,x.b,x.c,x.imm⟩
 | 1 => ⟨x.op,x.a,v,x.c,x.imm⟩
 | 2 => ⟨x.op,x.a,x.b,v,x.imm⟩
 | _ => ⟨x.op,x.a,x.b,x.c,v⟩
noncomputable def rdField (x : Ins) (f : Nat) (t : List UInt8) (n : Int) : Ins × Int :=
 if f < 3 then (match regOf t with | some r => (setF x f r,0) | none => (x,10))
 else match numOf fp x.op t with | some v => (setF x 3 v,(wrong (setF x 3 v) n 8).1) | none => (x,4)
def ins0 : Ins := ⟨0,0,0,0,0⟩
noncomputable def rdLine (line : List UInt8) (n : Int) : List Nat → Ins → Nat → Ins × Int × Int
 | [],x,p => if p < line.length then (ins0,6,p) else (x,0,0)
 | f :: fs,x,p => if p = line.length then (ins0,5,p) else
   if (rdField fp x f (upB 32 (line.drop (p + 1))) n).2 ≠ 0 then (ins0,(rdField fp x f (upB 32 (line.drop (p + 1))) n).2,p + 1)
   else rdLine line n fs (rdField fp x f (upB 32 (line.drop (p + 1))) n).1 (p + 1 + (upB 32 (line.drop (p + 1))).length)
def opOf (t : List UInt8) : Option Nat := wordsL.findIdx? fun x => x == t
noncomputable def lnL (line : List UInt8) (n : Int) : Ins × Int × Int :=
 match opOf (upB 32 line) with
 | none => (ins0,9,0)
 | some o => rdLine fp line n (fieldsN o) ⟨o,0,0,0,0⟩ (wordL o).length
noncomputable def parseL (n : Int) (s : List UInt8) (acc : List Ins) : List Ins × Int × Int × Int :=
 if _h0 : s = [] then (acc,0,0,0) else
 if 256 ≤ acc.length then ([],3,acc.length + 1,0) else
 if (lnL fp (upB 10 s) n).2.1 ≠ 0 then ([],(lnL fp (upB 10 s) n).2.1,acc.length + 1,(lnL fp (upB 10 s) n).2.2) else
 if (upB 10 s).length = s.length then ([],5,acc.length + 1,(upB 10 s).length) else
 parseL n (s.drop ((upB 10 s).length + 1)) (acc ++ [(lnL fp (upB 10 s) n).1])
termination_by s.length
decreasing_by
 have : 0 < s.length := List.length_pos_iff.2 (by assumption)
 simp only [List.length_drop]
 omega
def endsN (s : List UInt8) : Nat := s.count 10
end
end Go.Proofs.YtalaajniammggaaGreatDoor

/- Decimal numbers there and back; registers; the numbers of instructions. -/
namespace Go.Proofs.YtalaajniammggaaGreatDoor
open Go.RowKit
theorem dd_dig : ∀ (u : Nat),(∀ c ∈ Lib.decDigits u,48 ≤ c.toNat ∧ c.toNat ≤ 57) ∧ Lib.decDigits u ≠ [] := by
 intro u
 induction u using Nat.strongRecOn with
 | _ u ih =>
  by_cases h : u < 10
  ·rw [Lib.decDigits_one h]
   refine ⟨fun c hc => ?_,by simp⟩
   simp only [List.mem_singleton] at hc
   subst hc
   rw [UInt8.toNat_ofNat']
   omega
  ·rw [Lib.decDigits,dif_neg h]
   refine ⟨fun c hc => ?_,by simp⟩
   rcases List.mem_append.1 hc with hc | hc
   ·exact (ih (u / 10) (by omega)).1 c hc
   ·simp only [List.mem_singleton] at hc
    subst hc
    rw [UInt8.toNat_ofNat']
    omega
theorem pu_append : ∀ (l : List UInt8) (acc v : Nat) (r : List UInt8),Lib.parseUint10 acc l = .ok v → Lib.parseUint10 acc (l ++ r) = Lib.parseUint10 v r
 | [],acc,v,r,h => by
  simp only [Lib.parseUint10] at h
  injection h with h
  subst h
  rfl
 | c :: l,acc,v,r,h => by
  simp only [Lib.parseUint10,List.cons_append] at h ⊢
  split at h
  ·next h1 =>
   split at h
   ·cases h
   ·next h2 =>
    split at h
    ·cases h
    ·next h3 =>
     rw [if_pos h1,if_neg h2,if_neg h3]
     exact pu_append l _ v r h
  ·cases h
theorem pu_dd : ∀ (u : Nat),u < 18446744073709551616 → Lib.parseUint10 0 (Lib.decDigits u) = .ok u := by
 intro u
 induction u using Nat.strongRecOn with
 | _ u ih =>
  intro hu
  by_cases h : u < 10
  ·rw [Lib.decDigits_one h]
   have e : (UInt8.ofNat (48 + u)).toNat = 48 + u := by rw [UInt8.toNat_ofNat']; omega
   simp only [Lib.parseUint10,e]
   rw [if_pos (by omega),if_neg (by omega),if_neg (by omega)]
   congr 1
   omega
  ·rw [Lib.decDigits,dif_neg h,pu_append _ _ _ _ (ih (u / 10) (by omega) (by omega))]
   have e : (UInt8.ofNat (48 + u % 10)).toNat = 48 + u % 10 := by rw [UInt8.toNat_ofNat']; omega
   simp only [Lib.parseUint10,e]
   rw [if_pos (by omega),if_neg (by omega),if_neg (by omega)]
   congr 1
   omega
def InR (v : Int) : Prop := -9223372036854775808 ≤ v ∧ v ≤ 9223372036854775807
theorem mag_dd (u : Nat) (hu : u < 18446744073709551616) : Lib.parseMag (Lib.decDigits u) = .ok u := by
 unfold Lib.parseMag
 rw [if_neg (dd_dig u).2,pu_dd u hu]
theorem atoi_itoa (v : Int) (h : InR v) : Lib.atoiAll (Lib.itoa v) = .ok v := by
 unfold InR at h
 unfold Lib.itoa
 by_cases h0 : v < 0
 ·rw [if_pos h0,Lib.atoiAll_minus,mag_dd _ (by omega)]
  simp only [Lib.signed]
  rw [if_neg (by omega)]
  congr 1
  omega
 ·rw [if_neg h0]
  obtain ⟨hd,hn⟩ := dd_dig v.toNat
  have hm := mag_dd v.toNat (by omega)
  cases e : Lib.decDigits v.toNat with
  | nil => exact absurd e hn
  | cons c r =>
   have hc := hd c (by rw [e]; simp)
   rw [Lib.atoiAll_plain c r (by omega) (by omega),← e,hm]
   simp only [Lib.signless]
   rw [if_neg (by omega)]
   congr 1
   omega
theorem itoa_inj {a b : Int} (ha : InR a) (hb : InR b) (h : Lib.itoa a = Lib.itoa b) : a = b := by
 have h1 := atoi_itoa a ha
 rw [h,atoi_itoa b hb] at h1
 injection h1 with h1
 exact h1.symm
theorem itoa_chars (v : Int) : ∀ c ∈ Lib.itoa v,c.toNat = 45 ∨ (48 ≤ c.toNat ∧ c.toNat ≤ 57) := by
 intro c hc
 unfold Lib.itoa at hc
 split at hc
 ·rcases List.mem_cons.1 hc with rfl | hc
  ·left; rfl
  ·exact Or.inr ((dd_dig _).1 c hc)
 ·exact Or.inr ((dd_dig _).1 c hc)
def Cln (l : List UInt8) : Prop := ∀ c ∈ l,c ≠ 10 ∧ c ≠ 32
theorem cln_itoa (v : Int) : Cln (Lib.itoa v) := fun c hc => by
 have h := itoa_chars v c hc
 constructor <;>
 ·rintro rfl
  revert h
  decide
theorem Cln.app {a b : List UInt8} (ha : Cln a) (hb : Cln b) : Cln (a ++ b) := fun c hc => by
 rcases List.mem_append.1 hc with h | h
 ·exact ha c h
 ·exact hb c h
theorem Cln.cons {a : UInt8} {b : List UInt8} (h1 : a ≠ 10) (h2 : a ≠ 32) (hb : Cln b) : Cln (a :: b) := fun c hc => by
 rcases List.mem_cons.1 hc with rfl | h
 ·exact ⟨h1,h2⟩
 ·exact hb c h
section
variable {fp : Int → List UInt8}
theorem cln_imm (F : FP fp) (o v : Int) : Cln (immL fp o v) := by
 unfold immL
 split
 ·exact Cln.cons (by decide) (by decide) (F.ok v)
 ·exact cln_itoa v
theorem cln_reg (r : Int) : Cln (regL r) := Cln.cons (by decide) (by decide) (cln_itoa r)
theorem cln_word (o : Int) : Cln (wordL o) := by
 unfold wordL
 by_cases h : o.toNat < 34
 ·have key : ∀ k : Fin 34,∀ c ∈ wordsL.getD k.val [],c ≠ 10 ∧ c ≠ 32 := by decide +kernel
  exact key ⟨_,h⟩
 ·rw [List.getD_eq_getElem?_getD,List.getElem?_eq_none (by simp [wordsL]; omega)]
  intro c hc
  simp at hc
theorem cln_fld (F : FP fp) (x : Ins) (f : Nat) : Cln (fldL fp x f) := by
 unfold fldL
 split
 ·exact cln_reg _
 ·exact cln_reg _
 ·exact cln_reg _
 ·exact cln_imm F _ _
theorem imm_inj (F : FP fp) {o a b : Int} (ha : InR a) (hb : InR b) (h : immL fp o a = immL fp o b) : a = b := by
 have hh : ∀ v (l : List UInt8),102 :: l = Lib.itoa v → False := fun v l e => by
  have := itoa_chars v 102 (by rw [← e]; simp)
  revert this
  decide
 unfold immL at h
 split at h
 ·split at h
  ·injection h with _ h
   exact F.inj a b ha.1 ha.2 hb.1 hb.2 h
  ·exact (hh _ _ h).elim
 ·split at h
  ·exact (hh _ _ h.symm).elim
  ·exact itoa_inj ha hb h
theorem numOf_yes (F : FP fp) {o v : Int} {t : List UInt8} (hv : InR v) (h : immL fp o v = t) : numOf fp o t = some v := by
 unfold numOf
 have he : ∃ v : Int,-9223372036854775808 ≤ v ∧ v ≤ 9223372036854775807 ∧ immL fp o v = t := ⟨v,hv.1,hv.2,h⟩
 rw [dif_pos he]
 have hs := he.choose_spec
 exact congrArg some (imm_inj F ⟨hs.1,hs.2.1⟩ hv (hs.2.2.trans h.symm))
theorem numOf_some {o v : Int} {t : List UInt8} (h : numOf fp o t = some v) : InR v ∧ immL fp o v = t := by
 unfold numOf at h
 split at h
 ·next he =>
  injection h with h
  subst h
  have hs := he.choose_spec
  exact ⟨⟨hs.1,hs.2.1⟩,hs.2.2⟩
 ·cases h
theorem numOf_no {o : Int} {t : List UInt8} (h : ∀ v,InR v → immL fp o v ≠ t) : numOf fp o t = none := by
 cases e : numOf fp o t with
 | none => rfl
 | some v => exact absurd (numOf_some e).2 (h v (numOf_some e).1)
theorem regL_nat (r : Nat) (h : r < 10) : regL r = [114,UInt8.ofNat (48 + r)] := by
 unfold regL Lib.itoa
 rw [if_neg (by omega),Int.toNat_natCast,Lib.decDigits_one h]
theorem regL_inj {a b : Int} (ha : InR a) (hb : InR b) (h : regL a = regL b) : a = b := by
 unfold regL at h
 injection h with _ h
 exact itoa_inj ha hb h
theorem regOf_some {t : List UInt8} {r : Int} (h : regOf t = some r) : 0 ≤ r ∧ r < 8 ∧ t = regL r := by
 unfold regOf at h
 repeat' split at h
 all_goals first
  | (injection h with h; subst h; exact ⟨by decide,by decide,by assumption⟩)
  | cases h
theorem regOf_yes {r : Int} (h0 : 0 ≤ r) (h8 : r < 8) : regOf (regL r) = some r := by
 cases e : regOf (regL r) with
 | some q =>
  obtain ⟨h1,h2,h3⟩ := regOf_some e
  rw [regL_inj ⟨by omega,by omega⟩ ⟨by omega,by omega⟩ h3]
 | none =>
  exfalso
  have hr : r = 0 ∨ r = 1 ∨ r = 2 ∨ r = 3 ∨ r = 4 ∨ r = 5 ∨ r = 6 ∨ r = 7 := by omega
  unfold regOf at e
  rcases hr with rfl | rfl | rfl | rfl | rfl | rfl | rfl | rfl <;>
  ·repeat' split at e
   all_goals first
    | contradiction
    | cases e
end
theorem upB_none {c : UInt8} {a : List UInt8} (h : ∀ x ∈ a,x ≠ c) : upB c a = a := by
 induction a with
 | nil => rfl
 | cons y r ih =>
  have hy : (y != c) = true := by simpa using h y (by simp)
  unfold upB at ih ⊢
  rw [List.takeWhile_cons_of_pos (by simpa using hy),ih (fun x hx => h x (by simp [hx]))]
theorem upB_cut {c : UInt8} {a : List UInt8} (b : List UInt8) (h : ∀ x ∈ a,x ≠ c) : upB c (a ++ c :: b) = a := by
 induction a with
 | nil => simp [upB]
 | cons y r ih =>
  have hy : (y != c) = true := by simpa using h y (by simp)
  unfold upB at ih ⊢
  rw [List.cons_append,List.takeWhile_cons_of_pos (by simpa using hy),ih (fun x hx => h x (by simp [hx]))]
theorem upB_len (c : UInt8) (a : List UInt8) : (upB c a).length ≤ a.length := by
 unfold upB
 exact (List.takeWhile_prefix _).length_le
theorem upB_rest (c : UInt8) (a : List UInt8) : a.drop (upB c a).length = [] ∨ ∃ r,a.drop (upB c a).length = c :: r := by
 induction a with
 | nil => left; rfl
 | cons y r ih =>
  by_cases hy : y = c
  ·subst hy
   right
   exact ⟨r,by simp [upB]⟩
  ·have e : upB c (y :: r) = y :: upB c r := by
    unfold upB
    rw [List.takeWhile_cons_of_pos (by simpa using hy)]
   rw [e]
   simpa using ih
theorem upB_split (c : UInt8) (a : List UInt8) : a = upB c a ++ a.drop (upB c a).length := by
 have h := List.prefix_iff_eq_take.1 (List.takeWhile_prefix (p := fun x => x != c) (l := a))
 unfold upB
 conv => lhs; rw [← List.take_append_drop (List.takeWhile (fun x => x != c) a).length a]
 rw [← h]
end Go.Proofs.YtalaajniammggaaGreatDoor

/- A line there and back. -/
namespace Go.Proofs.YtalaajniammggaaGreatDoor
open Go.RowKit
def getF (x : Ins) : Nat → Int
 | 0 => x.a
 | 1 => x.b
 | 2 => x.c
 | _ => x.imm
theorem op_setF (x : Ins) (f : Nat) (v : Int) : (setF x f v).op = x.op := by
 unfold setF
 split <;> rfl
theorem get_setF_same (x : Ins) (f : Nat) (hf : f ≤ 3) (v : Int) : getF (setF x f v) f = v := by
 have : f = 0 ∨ f = 1 ∨ f = 2 ∨ f = 3 := by omega
 rcases this with rfl | rfl | rfl | rfl <;> rfl
theorem get_setF_other (x : Ins) (f g : Nat) (hf : f ≤ 3) (hg : g ≤ 3) (h : g ≠ f) (v : Int) : getF (setF x f v) g = getF x g := by
 have h1 : f = 0 ∨ f = 1 ∨ f = 2 ∨ f = 3 := by omega
 have h2 : g = 0 ∨ g = 1 ∨ g = 2 ∨ g = 3 := by omega
 rcases h1 with rfl | rfl | rfl | rfl <;> rcases h2 with rfl | rfl | rfl | rfl <;> first | rfl | exact absurd rfl h
theorem ins_ext {x y : Ins} (ho : x.op = y.op) (h : ∀ g,g ≤ 3 → getF x g = getF y g) : x = y := by
 have h0 := h 0 (by omega)
 have h1 := h 1 (by omega)
 have h2 := h 2 (by omega)
 have h3 := h 3 (by omega)
 cases x; cases y
 simp only [getF] at h0 h1 h2 h3
 simp only at ho
 subst ho h0 h1 h2 h3
 rfl
def Ord (fs : List Nat) : Prop := fs.Pairwise (· < ·) ∧ ∀ f ∈ fs,f ≤ 3
theorem fields_ord (o : Int) : Ord (fieldsN o) := by
 unfold fieldsN Ord
 cases hA o <;> cases hB o <;> cases hC o <;> cases hI o <;> simp
theorem fields_mem (o : Int) : (0 ∈ fieldsN o ↔ hA o = true) ∧ (1 ∈ fieldsN o ↔ hB o = true) ∧ (2 ∈ fieldsN o ↔ hC o = true) ∧ (3 ∈ fieldsN o ↔ hI o = true) := by
 unfold fieldsN
 cases hA o <;> cases hB o <;> cases hC o <;> cases hI o <;> simp
section
variable {fp : Int → List UInt8}
theorem rest_head (x : Ins) (fs : List Nat) : restL fp x fs = [] ∨ ∃ r,restL fp x fs = 32 :: r := by
 cases fs with
 | nil => left; rfl
 | cons f r => right; exact ⟨fldL fp x f ++ restL fp x r,by simp [restL]⟩
theorem upB_app {t r : List UInt8} (ht : ∀ c ∈ t,c ≠ 32) (hr : r = [] ∨ ∃ q,r = 32 :: q) : upB 32 (t ++ r) = t := by
 rcases hr with rfl | ⟨q,rfl⟩
 ·rw [List.append_nil]; exact upB_none ht
 ·exact upB_cut q ht
theorem rdLine_there (F : FP fp) (x : Ins) (n : Int) (hw : (wrong x n 8).1 = 0) (hx : InR x.imm) : ∀ (fs : List Nat) (y : Ins) (pre : List UInt8),Ord fs → y.op = x.op → (∀ g,g ≤ 3 → g ∉ fs → getF y g = getF x g) → (∀ f ∈ fs,f < 3 → 0 ≤ getF x f ∧ getF x f < 8) →
  rdLine fp (pre ++ restL fp x fs) n fs y pre.length = (x,0,0)
 | [],y,pre,_,ho,hg,_ => by
  have e : y = x := ins_ext ho (fun g h => hg g h (by simp))
  subst e
  simp [rdLine,restL]
 | f :: fs,y,pre,hO,ho,hg,hr => by
  have hf3 : f ≤ 3 := hO.2 f (by simp)
  have hO' : Ord fs := ⟨(List.pairwise_cons.1 hO.1).2,fun g h => hO.2 g (by simp [h])⟩
  have hnf : f ∉ fs := fun h => absurd ((List.pairwise_cons.1 hO.1).1 f h) (by omega)
  have e1 : restL fp x (f :: fs) = 32 :: (fldL fp x f ++ restL fp x fs) := by simp [restL]
  have e2 : (pre ++ restL fp x (f :: fs)).drop (pre.length + 1) = fldL fp x f ++ restL fp x fs := by
   rw [e1,← List.drop_drop,List.drop_left]; rfl
  have e3 : upB 32 (fldL fp x f ++ restL fp x fs) = fldL fp x f := upB_app (fun c hc => (cln_fld F x f c hc).2) (rest_head x fs)
  have n1 : ¬ (pre.length = (pre ++ restL fp x (f :: fs)).length) := by rw [e1]; simp
  have key : rdField fp y f (fldL fp x f) n = (setF y f (getF x f),0) := by
   by_cases h3 : f < 3
   ·have hb := hr f (by simp) h3
    have el : fldL fp x f = regL (getF x f) := by
     have : f = 0 ∨ f = 1 ∨ f = 2 := by omega
     rcases this with rfl | rfl | rfl <;> rfl
    unfold rdField
    rw [if_pos h3,el,regOf_yes hb.1 hb.2]
   ·have e : f = 3 := by omega
    subst e
    have enil : fs = [] := by
     cases fs with
     | nil => rfl
     | cons g r =>
      have h1 := (List.pairwise_cons.1 hO.1).1 g (by simp)
      have h2 := hO.2 g (by simp)
      omega
    subst enil
    have es : setF y 3 x.imm = x := by
     refine ins_ext ((op_setF _ _ _).trans ho) (fun g hg3 => ?_)
     by_cases h : g = 3
     ·subst h; rfl
     ·rw [get_setF_other _ _ _ (by omega) hg3 h]
      exact hg g hg3 (by simpa using h)
    have en : numOf fp y.op (fldL fp x 3) = some x.imm := numOf_yes F hx (by rw [ho]; rfl)
    unfold rdField
    rw [if_neg h3,en]
    show (setF y 3 x.imm,(wrong (setF y 3 x.imm) n 8).1) = (setF y 3 x.imm,0)
    rw [es,hw]
  have ih := rdLine_there F x n hw hx fs (setF y f (getF x f)) (pre ++ 32 :: fldL fp x f) hO' ((op_setF _ _ _).trans ho)
   (fun g hg3 hgf => by
    by_cases h : g = f
    ·subst h; exact get_setF_same y g hg3 _
    ·rw [get_setF_other y f g hf3 hg3 h]
     exact hg g hg3 (by simp [h,hgf]))
   (fun g h => hr g (by simp [h]))
  have e4 : pre ++ restL fp x (f :: fs) = (pre ++ 32 :: fldL fp x f) ++ restL fp x fs := by rw [e1]; simp
  have e5 : (pre ++ 32 :: fldL fp x f).length = pre.length + 1 + (fldL fp x f).length := by simp; omega
  rw [rdLine,if_neg n1,e2,e3,key,if_neg (by simp),e4,← e5]
  exact ih
theorem regE_out {r : Int} {h : Bool} (e : regE r h = 0) (hh : h = false) : r = 0 := by
 subst hh
 unfold regE at e
 simp only [Bool.false_eq_true,if_false] at e
 split at e
 ·assumption
 ·simp at e
theorem immE_out {o i n k : Int} (e : immE o i n k = 0) (hh : hI o = false) : i = 0 := by
 unfold immE at e
 rw [hh] at e
 simp only [Bool.false_eq_true,if_false] at e
 split at e
 ·assumption
 ·simp at e
theorem opOf_word : ∀ k : Fin 34,opOf (wordL (k.val : Int)) = some k.val := by decide +kernel
theorem opOf_yes {o : Int} (h0 : 0 ≤ o) (h1 : o < 34) : opOf (wordL o) = some o.toNat := by
 have h := opOf_word ⟨o.toNat,by omega⟩
 have e : ((o.toNat : Nat) : Int) = o := by omega
 simp only [e] at h
 exact h
theorem words_len : wordsL.length = 34 := by decide
theorem opOf_some {t : List UInt8} {k : Nat} (h : opOf t = some k) : k < 34 ∧ wordL k = t := by
 unfold opOf at h
 rw [List.findIdx?_eq_some_iff_getElem] at h
 obtain ⟨hk,h1,_⟩ := h
 refine ⟨by rw [words_len] at hk; exact hk,?_⟩
 unfold wordL
 rw [Int.toNat_natCast,List.getD_eq_getElem?_getD,List.getElem?_eq_getElem hk]
 simpa using h1
theorem lnL_there (F : FP fp) (x : Ins) (n : Int) (hw : (wrong x n 8).1 = 0) (hx : InR x.imm) : lnL fp (lineL fp x) n = (x,0,0) := by
 obtain ⟨o0,o1,ra,rb,rc,ri⟩ := wrong_ok hw
 have eu : upB 32 (lineL fp x) = wordL x.op := upB_app (fun c hc => (cln_word x.op c hc).2) (rest_head x _)
 unfold lnL
 rw [eu,opOf_yes o0 o1]
 have e : ((x.op.toNat : Nat) : Int) = x.op := by omega
 simp only [e]
 obtain ⟨m0,m1,m2,m3⟩ := fields_mem x.op
 refine rdLine_there F x n hw hx (fieldsN x.op) ⟨x.op,0,0,0,0⟩ (wordL x.op) (fields_ord _) rfl ?_ ?_
 ·intro g hg hn
  have : g = 0 ∨ g = 1 ∨ g = 2 ∨ g = 3 := by omega
  rcases this with rfl | rfl | rfl | rfl
  ·exact (regE_out ra (by simpa [m0] using hn)).symm
  ·exact (regE_out rb (by simpa [m1] using hn)).symm
  ·exact (regE_out rc (by simpa [m2] using hn)).symm
  ·exact (immE_out ri (by simpa [m3] using hn)).symm
 ·intro g _ h3
  have : g = 0 ∨ g = 1 ∨ g = 2 := by omega
  rcases this with rfl | rfl | rfl
  ·exact regE_ok ra
  ·exact regE_ok rb
  ·exact regE_ok rc
theorem rdLine_back (line : List UInt8) (n : Int) : ∀ (fs : List Nat) (y : Ins) (p : Nat) (x : Ins),Ord fs → p ≤ line.length → (line.drop p = [] ∨ ∃ r,line.drop p = 32 :: r) → (rdLine fp line n fs y p).2.1 = 0 → (rdLine fp line n fs y p).1 = x →
    line.drop p = restL fp x fs ∧ x.op = y.op ∧ (∀ g,g ≤ 3 → g ∉ fs → getF x g = getF y g) ∧ (∀ f ∈ fs,f < 3 → 0 ≤ getF x f ∧ getF x f < 8) ∧ (3 ∈ fs → (wrong x n 8).1 = 0 ∧ InR x.imm)
  | [],y,p,x,_,hp,_,he,hx => by
    unfold rdLine at he hx
    split at he
    · simp at he
    · next h =>
      rw [if_neg h] at hx
      simp only at hx
      subst hx
      exact ⟨by rw [List.drop_of_length_le (by omega)]; rfl,rfl,fun _ _ _ => rfl,fun _ h => by simp at h,fun h => by simp at h⟩
  | f :: fs, y, p,x,hO,hp,hd,he,hx => by
    have hf3 : f ≤ 3 := hO.2 f (by simp)
    have hO' : Ord fs := ⟨(List.pairwise_cons.1 hO.1).2,fun g h => hO.2 g (by simp [h])⟩
    have hnf : f ∉ fs := fun h => absurd ((List.pairwise_cons.1 hO.1).1 f h) (by omega)
    unfold rdLine at he hx
    by_cases hpl : p = line.length
    · rw [if_pos hpl] at he; simp at he
    · rw [if_neg hpl] at he hx
      obtain ⟨t,ht⟩ : ∃ t,t = upB 32 (line.drop (p + 1)) := ⟨_,rfl⟩
      rw [← ht] at he hx
      by_cases hE : (rdField fp y f t n).2 ≠ 0
      · rw [if_pos hE] at he; exact absurd he hE
      · rw [if_neg hE] at he hx
        have hE' : (rdField fp y f t n).2 = 0 := Decidable.not_not.1 hE
        have hlt : p < line.length := by omega
        have e1 : ∃ c r,line.drop p = c :: r ∧ line.drop (p + 1) = r := by
          rw [List.drop_eq_getElem_cons hlt]
          exact ⟨_,_,rfl,rfl⟩
        obtain ⟨c,r,ec,er⟩ := e1
        have ec32 : c = 32 := by
          rcases hd with h | ⟨r',h⟩
          · rw [ec] at h; cases h
          · rw [ec] at h; injection h
        subst ec32
        rw [er] at ht
        have hsp := upB_split 32 r
        rw [← ht] at hsp
        have htl : t.length ≤ r.length := by rw [ht]; exact upB_len _ _
        have hrl : r.length = line.length - (p + 1) := by rw [← er]; simp
        have hdp : line.drop (p + 1 + t.length) = r.drop t.length := by rw [← er,List.drop_drop]
        have hrest : line.drop (p + 1 + t.length) = [] ∨ ∃ q,line.drop (p + 1 + t.length) = 32 :: q := by
          rw [hdp,ht]; exact upB_rest 32 r
        obtain ⟨b1,b2,b3,b4,b5⟩ := rdLine_back line n fs (rdField fp y f t n).1 (p + 1 + t.length) x hO' (by omega) hrest he hx
        -- the field itself
        have key : ∃ v,rdField fp y f t n = (setF y f v,0) ∧ (f < 3 → 0 ≤ v ∧ v < 8 ∧ t = regL v) ∧ (f = 3 → InR v ∧ immL fp y.op v = t ∧ (wrong (setF y 3 v) n 8).1 = 0) := by
          unfold rdField at hE' ⊢
          by_cases h3 : f < 3
          · rw [if_pos h3] at hE' ⊢
            cases e : regOf t with
            | none => rw [e] at hE'; simp at hE'
            | some v =>
              obtain ⟨v0,v8,vt⟩ := regOf_some e
              exact ⟨v,rfl,fun _ => ⟨v0,v8,vt⟩,fun h => by omega⟩
          · rw [if_neg h3] at hE' ⊢
            have ef : f = 3 := by omega
            cases e : numOf fp y.op t with
            | none => rw [e] at hE'; simp at hE'
            | some v =>
              rw [e] at hE'
              simp only at hE'
              obtain ⟨v0,vt⟩ := numOf_some e
              refine ⟨v,by rw [ef]; simp [hE'],fun h => absurd h h3,fun _ => ⟨v0,vt,hE'⟩⟩
        obtain ⟨v,kv,k3,k4⟩ := key
        rw [kv] at b2 b3 he hx
        have hxo : x.op = y.op := b2.trans (op_setF _ _ _)
        have hxf : getF x f = v := (b3 f hf3 hnf).trans (get_setF_same y f hf3 v)
        have efl : fldL fp x f = t := by
          by_cases h3 : f < 3
          · obtain ⟨_,_,vt⟩ := k3 h3
            rw [vt,← hxf]
            have : f = 0 ∨ f = 1 ∨ f = 2 := by omega
            rcases this with rfl | rfl | rfl <;> rfl
          · have ef : f = 3 := by omega
            subst ef
            obtain ⟨_,vt,_⟩ := k4 rfl
            rw [← vt,← hxf,← hxo]
            rfl
        refine ⟨?_,hxo,?_,?_,?_⟩
        · rw [ec]
          have : restL fp x (f :: fs) = 32 :: (fldL fp x f ++ restL fp x fs) := by simp [restL]
          rw [this,efl,← b1,hdp]
          exact congrArg (List.cons 32) hsp
        · intro g hg hn
          have hgf : g ≠ f := fun h => hn (by simp [h])
          exact (b3 g hg (fun h => hn (by simp [h]))).trans (get_setF_other y f g hf3 hg hgf v)
        · intro g hg h3
          rcases List.mem_cons.1 hg with rfl | hg
          · rw [hxf]
            exact ⟨(k3 h3).1,(k3 h3).2.1⟩
          · exact b4 g hg h3
        · intro hm
          rcases List.mem_cons.1 hm with h | hm
          · have ef : f = 3 := h.symm
            subst ef
            have enil : fs = [] := by
              cases fs with
              | nil => rfl
              | cons g r =>
                have h1 := (List.pairwise_cons.1 hO.1).1 g (by simp)
                have h2 := hO.2 g (by simp)
                omega
            subst enil
            obtain ⟨v0,_,vw⟩ := k4 rfl
            have ex : x = setF y 3 v := ins_ext (hxo.trans (op_setF _ _ _).symm) (fun g hg => b3 g hg (by simp))
            rw [ex]
            exact ⟨vw,v0⟩
          · exact b5 hm
theorem lnL_back (line : List UInt8) (n : Int) (x : Ins) (he : (lnL fp line n).2.1 = 0) (hx : (lnL fp line n).1 = x) : lineL fp x = line ∧ (wrong x n 8).1 = 0 ∧ InR x.imm := by
 unfold lnL at he hx
 cases e : opOf (upB 32 line) with
 | none => rw [e] at he; simp at he
 | some o =>
  rw [e] at he hx
  simp only at he hx
  obtain ⟨ho,hwd⟩ := opOf_some e
  have hl : (wordL (o : Int)).length ≤ line.length := by rw [hwd]; exact upB_len _ _
  have hr : line.drop (wordL (o : Int)).length = [] ∨ ∃ r,line.drop (wordL (o : Int)).length = 32 :: r := by rw [hwd]; exact upB_rest 32 line
  obtain ⟨b1,b2,b3,b4,b5⟩ := rdLine_back line n (fieldsN o) ⟨o,0,0,0,0⟩ (wordL (o : Int)).length x (fields_ord _) hl hr he hx
  simp only at b2
  obtain ⟨m0,m1,m2,m3⟩ := fields_mem (o : Int)
  have regs : ∀ g (h : Bool),g < 3 → (g ∈ fieldsN (o : Int) ↔ h = true) → regE (getF x g) h = 0 := by
   intro g h hg hm
   by_cases hh : h = true
   ·have := b4 g (hm.2 hh) hg
    unfold regE
    rw [if_pos hh,if_pos this]
   ·have hn : g ∉ fieldsN (o : Int) := fun hin => hh (hm.1 hin)
    have h1 := b3 g (by omega) hn
    have h2 : getF (⟨o,0,0,0,0⟩ : Ins) g = 0 := by
     have : g = 0 ∨ g = 1 ∨ g = 2 := by omega
     rcases this with rfl | rfl | rfl <;> rfl
    unfold regE
    rw [if_neg hh,if_pos (h1.trans h2)]
  refine ⟨?_,?_⟩
  ·unfold lineL
   rw [b2,← b1,hwd]
   exact (upB_split 32 line).symm
  ·by_cases hi : hI (o : Int) = true
   ·exact b5 (m3.2 hi)
   ·have hn : 3 ∉ fieldsN (o : Int) := fun hin => hi (m3.1 hin)
    have h0 : x.imm = 0 := b3 3 (by omega) hn
    refine ⟨?_,by unfold InR; omega⟩
    have r0 := regs 0 _ (by omega) m0
    have r1 := regs 1 _ (by omega) m1
    have r2 := regs 2 _ (by omega) m2
    simp only [getF] at r0 r1 r2
    unfold wrong
    rw [b2,if_neg (by omega),if_neg (by simp [r0]),if_neg (by simp [r1]),if_neg (by simp [r2])]
    have hie : immE (o : Int) x.imm n 8 = 0 := by unfold immE; rw [if_neg hi,if_pos h0]
    rw [if_neg (by simp [hie])]
theorem rdLine_at (line : List UInt8) (n : Int) : ∀ (fs : List Nat) (y : Ins) (p : Nat),p ≤ line.length → 0 ≤ (rdLine fp line n fs y p).2.2 ∧ (rdLine fp line n fs y p).2.2 ≤ line.length
 | [],y,p,hp => by
  unfold rdLine
  split <;> simp <;> omega
 | f :: fs,y,p,hp => by
  unfold rdLine
  by_cases hpl : p = line.length
  ·rw [if_pos hpl]; simp; omega
  ·rw [if_neg hpl]
   split
   ·simp; omega
   ·refine rdLine_at line n fs _ _ ?_
    have := upB_len 32 (line.drop (p + 1))
    simp only [List.length_drop] at this
    omega
theorem lnL_at (line : List UInt8) (n : Int) : 0 ≤ (lnL fp line n).2.2 ∧ (lnL fp line n).2.2 ≤ line.length := by
 unfold lnL
 cases e : opOf (upB 32 line) with
 | none => simp
 | some o =>
  obtain ⟨ho,hwd⟩ := opOf_some e
  have hl : (wordL (o : Int)).length ≤ line.length := by rw [hwd]; exact upB_len _ _
  exact rdLine_at line n _ _ _ hl
end
end Go.Proofs.YtalaajniammggaaGreatDoor

/- A program's text there and back. -/
namespace Go.Proofs.YtalaajniammggaaGreatDoor
open Go.RowKit
section
variable {fp : Int → List UInt8}
theorem line_no10 (F : FP fp) (x : Ins) : ∀ c ∈ lineL fp x,c ≠ 10 := by
 intro c hc
 unfold lineL restL at hc
 rcases List.mem_append.1 hc with h | h
 ·exact (cln_word _ c h).1
 ·obtain ⟨f,_,hf⟩ := List.mem_flatMap.1 h
  rcases List.mem_cons.1 hf with rfl | hf
  ·decide
  ·exact (cln_fld F x f c hf).1
theorem ends_text (F : FP fp) (l : List Ins) : endsN (textL fp l) = l.length := by
 unfold endsN
 induction l with
 | nil => rfl
 | cons x r ih =>
  have e : textL fp (x :: r) = lineL fp x ++ ([10] ++ textL fp r) := by simp [textL]
  have e0 : (lineL fp x).count 10 = 0 := List.count_eq_zero.2 (fun h => line_no10 F x 10 h rfl)
  rw [e,List.count_append,List.count_append,e0,ih]
  simp
  omega
theorem parse_there (F : FP fp) (n : Int) : ∀ (l acc : List Ins),acc.length + l.length ≤ 256 → (∀ x ∈ l,(wrong x n 8).1 = 0 ∧ InR x.imm) → parseL fp n (textL fp l) acc = (acc ++ l,0,0,0)
 | [],acc,_,_ => by
  have e : textL fp [] = [] := rfl
  rw [e,parseL]
  simp
 | x :: r,acc,hl,h => by
  have e : textL fp (x :: r) = lineL fp x ++ 10 :: textL fp r := by simp [textL]
  have hne : textL fp (x :: r) ≠ [] := by rw [e]; simp
  have eu : upB 10 (textL fp (x :: r)) = lineL fp x := by rw [e]; exact upB_cut _ (line_no10 F x)
  have hx := h x (by simp)
  have er := lnL_there F x n hx.1 hx.2
  have ed : (textL fp (x :: r)).drop ((lineL fp x).length + 1) = textL fp r := by rw [e,← List.drop_drop,List.drop_left]; rfl
  simp only [List.length_cons] at hl
  rw [parseL,dif_neg hne,if_neg (by omega),eu,er,if_neg (by simp),if_neg (by rw [e]; simp),ed]
  rw [parse_there F n r (acc ++ [x]) (by simp; omega) (fun y hy => h y (by simp [hy]))]
  simp
theorem parse_back (n : Int) (k : Nat) : ∀ (s : List UInt8) (acc : List Ins),s.length ≤ k → (parseL fp n s acc).2.1 = 0 →
  (parseL fp n s acc).2.2 = (0,0) ∧ ∃ l,(parseL fp n s acc).1 = acc ++ l ∧ textL fp l = s ∧ (acc.length ≤ 256 → acc.length + l.length ≤ 256) ∧ ∀ x ∈ l,(wrong x n 8).1 = 0 ∧ InR x.imm := by
 induction k with
 | zero =>
  intro s acc hk _
  have e : s = [] := List.length_eq_zero_iff.1 (by omega)
  subst e
  rw [parseL]
  simp only [dite_true]
  exact ⟨trivial,[],by simp,rfl,by simp,by simp⟩
 | succ k ih =>
  intro s acc hk he
  by_cases h0 : s = []
  ·subst h0
   rw [parseL]
   simp only [dite_true]
   exact ⟨trivial,[],by simp,rfl,by simp,by simp⟩
  ·rw [parseL,dif_neg h0] at he ⊢
   by_cases h1 : 256 ≤ acc.length
   ·rw [if_pos h1] at he; simp at he
   ·rw [if_neg h1] at he ⊢
    by_cases h2 : (lnL fp (upB 10 s) n).2.1 ≠ 0
    ·rw [if_pos h2] at he; exact absurd he h2
    ·rw [if_neg h2] at he ⊢
     by_cases h3 : (upB 10 s).length = s.length
     ·rw [if_pos h3] at he; simp at he
     ·rw [if_neg h3] at he ⊢
      obtain ⟨x,hx⟩ : ∃ x,(lnL fp (upB 10 s) n).1 = x := ⟨_,rfl⟩
      rw [hx] at he ⊢
      obtain ⟨b1,b2,b3⟩ := lnL_back (upB 10 s) n x (Decidable.not_not.1 h2) hx
      obtain ⟨c0,l,c1,c2,c3,c4⟩ := ih (s.drop ((upB 10 s).length + 1)) (acc ++ [x]) (by simp; omega) he
      refine ⟨c0,x :: l,by rw [c1]; simp,?_,?_,?_⟩
      ·have e : textL fp (x :: l) = lineL fp x ++ 10 :: textL fp l := by simp [textL]
       rw [e,b1,c2]
       have hs := upB_split 10 s
       rcases upB_rest 10 s with h | ⟨r,h⟩
       ·have := congrArg List.length h
        simp at this
        have := upB_len 10 s
        omega
       ·conv => rhs; rw [hs,h]
        rw [← List.drop_drop,h]
        rfl
      ·intro _
       have := c3 (by simp; omega)
       simp at this ⊢
       omega
      ·intro y hy
       rcases List.mem_cons.1 hy with rfl | hy
       ·exact ⟨b2,b3⟩
       ·exact c4 y hy
theorem parse_wrong (n : Int) (k : Nat) : ∀ (s : List UInt8) (acc : List Ins),s.length ≤ k → (parseL fp n s acc).2.1 ≠ 0 →
  (parseL fp n s acc).1 = [] ∧ 1 ≤ (parseL fp n s acc).2.2.1 ∧ 0 ≤ (parseL fp n s acc).2.2.2 ∧ (parseL fp n s acc).2.2.2 ≤ s.length := by
 induction k with
 | zero =>
  intro s acc hk he
  have e : s = [] := List.length_eq_zero_iff.1 (by omega)
  subst e
  rw [parseL] at he
  simp at he
 | succ k ih =>
  intro s acc hk he
  by_cases h0 : s = []
  ·subst h0
   rw [parseL] at he
   simp at he
  ·have hul := upB_len 10 s
   rw [parseL,dif_neg h0] at he ⊢
   by_cases h1 : 256 ≤ acc.length
   ·rw [if_pos h1]; simp; omega
   ·rw [if_neg h1] at he ⊢
    by_cases h2 : (lnL fp (upB 10 s) n).2.1 ≠ 0
    ·rw [if_pos h2]
     have := lnL_at (fp := fp) (upB 10 s) n
     refine ⟨rfl,by simp only; omega,this.1,?_⟩
     have h3 := this.2
     simp only
     omega
    ·rw [if_neg h2] at he ⊢
     by_cases h3 : (upB 10 s).length = s.length
     ·rw [if_pos h3]; simp; omega
     ·rw [if_neg h3] at he ⊢
      have := ih _ _ (by simp; omega) he
      refine ⟨this.1,this.2.1,this.2.2.1,?_⟩
      have h4 := this.2.2.2
      simp only [List.length_drop] at h4
      omega
noncomputable def readP (fp : Int → List UInt8) (s : List UInt8) : List Ins × Int × Int × Int := parseL fp (endsN s) s []
theorem may_iff {l : List Ins} : (mayL l 8).1 = 0 ↔ l.length ≤ 256 ∧ ∀ x ∈ l,(wrong x l.length 8).1 = 0 := by
 unfold mayL
 rw [if_neg (by omega)]
 constructor
 ·intro h
  split at h
  ·simp at h
  ·next h1 =>
   refine ⟨by omega,fun x hx => ?_⟩
   obtain ⟨i,hi,rfl⟩ := List.getElem_of_mem hx
   have := firstE_zero l.length 8 l 0 h i hi
   rwa [List.getD_eq_getElem?_getD,List.getElem?_eq_getElem hi] at this
 ·rintro ⟨h1,h2⟩
  rw [if_neg (by omega),firstE_none]
  intro j hj
  rw [List.getD_eq_getElem?_getD,List.getElem?_eq_getElem hj]
  exact h2 _ (List.getElem_mem hj)
theorem may_zero {l : List Ins} (h : (mayL l 8).1 = 0) : mayL l 8 = (0,0) := by
 obtain ⟨h1,h2⟩ := may_iff.1 h
 unfold mayL
 rw [if_neg (by omega),if_neg (by omega),firstE_none]
 intro j hj
 rw [List.getD_eq_getElem?_getD,List.getElem?_eq_getElem hj]
 exact h2 _ (List.getElem_mem hj)
theorem read_print (F : FP fp) {l : List Ins} (h : (mayL l 8).1 = 0) (hf : ∀ x ∈ l,InR x.imm) : readP fp (textL fp l) = (l,0,0,0) := by
 obtain ⟨h1,h2⟩ := may_iff.1 h
 unfold readP
 rw [ends_text F,parse_there F _ l [] (by simpa using h1) (fun x hx => ⟨h2 x hx,hf x hx⟩)]
 rfl
theorem print_read (F : FP fp) {s : List UInt8} {m : List Ins} {e a b : Int} (hr : readP fp s = (m,e,a,b)) : (e = 0 → a = 0 ∧ b = 0 ∧ textL fp m = s ∧ (mayL m 8).1 = 0 ∧ ∀ x ∈ m,InR x.imm) ∧ (e ≠ 0 → m = [] ∧ 1 ≤ a ∧ 0 ≤ b ∧ b ≤ s.length) := by
 unfold readP at hr
 refine ⟨fun he => ?_,fun he => ?_⟩
 ·have h := parse_back (fp := fp) (endsN s) s.length s [] (Nat.le_refl _) (by rw [hr]; exact he)
  rw [hr] at h
  obtain ⟨h0,l,h1,h2,h3,h4⟩ := h
  simp only [List.nil_append,Prod.mk.injEq] at h0 h1
  subst h1
  have hn : endsN s = m.length := by rw [← h2]; exact ends_text F m
  refine ⟨h0.1,h0.2,h2,may_iff.2 ⟨by simpa using h3 (by simp),fun x hx => ?_⟩,fun x hx => (h4 x hx).2⟩
  rw [← hn]
  exact (h4 x hx).1
 ·have h := parse_wrong (fp := fp) (endsN s) s.length s [] (Nat.le_refl _) (by rw [hr]; exact he)
  rw [hr] at h
  exact h
end
end Go.Proofs.YtalaajniammggaaGreatDoor

/- One instruction changed: one line is another; the lines of a text. -/
namespace Go.Proofs.YtalaajniammggaaGreatDoor
open Go.RowKit
theorem getD_mem {l : List Ins} {j : Nat} (hj : j < l.length) : l.getD j default ∈ l := by
 rw [List.getD_eq_getElem?_getD,List.getElem?_eq_getElem hj]
 exact List.getElem_mem hj
section
variable {fp : Int → List UInt8}
end
end Go.Proofs.YtalaajniammggaaGreatDoor

/- Parse, step by step. -/
namespace Go.Proofs.YtalaajniammggaaGreatDoor
open Go.RowKit
section
variable {fp : Int → List UInt8} {n : Int} {s : List UInt8} {acc : List Ins}
theorem prs_nil (h : s = []) : parseL fp n s acc = (acc,0,0,0) := by rw [parseL,dif_pos h]
theorem prs_many (h : s ≠ []) (ha : 256 ≤ acc.length) : parseL fp n s acc = ([],3,(acc.length : Int) + 1,0) := by rw [parseL,dif_neg h,if_pos ha]
theorem prs_word (h : s ≠ []) (ha : ¬ 256 ≤ acc.length) (ho : opOf (upB 32 (upB 10 s)) = none) : parseL fp n s acc = ([],9,(acc.length : Int) + 1,0) := by
 have e : lnL fp (upB 10 s) n = (ins0,9,0) := by unfold lnL; rw [ho]
 rw [parseL,dif_neg h,if_neg ha,e,if_pos (by simp)]
theorem ln_some {line : List UInt8} {o : Nat} (ho : opOf (upB 32 line) = some o) : lnL fp line n = rdLine fp line n (fieldsN o) ⟨o,0,0,0,0⟩ (wordL (o : Int)).length := by unfold lnL; rw [ho]
theorem prs_wrong (h : s ≠ []) (ha : ¬ 256 ≤ acc.length) {x : Ins} {E p : Int} (hl : lnL fp (upB 10 s) n = (x,E,p)) (hE : E ≠ 0) : parseL fp n s acc = ([],E,(acc.length : Int) + 1,p) := by
 rw [parseL,dif_neg h,if_neg ha,hl,if_pos hE]
theorem prs_short (h : s ≠ []) (ha : ¬ 256 ≤ acc.length) {x : Ins} {p : Int} (hl : lnL fp (upB 10 s) n = (x,0,p)) (he : (upB 10 s).length = s.length) : parseL fp n s acc = ([],5,(acc.length : Int) + 1,((upB 10 s).length : Int)) := by
 rw [parseL,dif_neg h,if_neg ha,hl,if_neg (by simp),if_pos he]
theorem prs_go (h : s ≠ []) (ha : ¬ 256 ≤ acc.length) {x : Ins} {p : Int} (hl : lnL fp (upB 10 s) n = (x,0,p)) (he : (upB 10 s).length ≠ s.length) : parseL fp n s acc = parseL fp n (s.drop ((upB 10 s).length + 1)) (acc ++ [x]) := by
 conv => lhs; rw [parseL,dif_neg h,if_neg ha,hl,if_neg (by simp),if_neg he]
end
theorem op_found {t : List UInt8} {k : Nat} (hk : k < 34) (h : wordsL.getD k [] = t) : opOf t = some k := by
 have := opOf_word ⟨k,hk⟩
 unfold wordL at this
 rw [Int.toNat_natCast] at this
 rw [← h]
 exact this
theorem op_none {t : List UInt8} (h : ∀ k,k < 34 → wordsL.getD k [] ≠ t) : opOf t = none := by
 cases e : opOf t with
 | none => rfl
 | some k =>
  obtain ⟨h1,h2⟩ := opOf_some e
  unfold wordL at h2
  rw [Int.toNat_natCast] at h2
  exact absurd h2 (h k h1)
end Go.Proofs.YtalaajniammggaaGreatDoor
