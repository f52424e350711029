/- What the floats' package gives to asm's walks. -/
import Derived.Test.YtalaajniammggaaGreatDoorXEh
import Derived.Test.YtalaajniammggaaGreatDoorXAb
import Derived.Test.YtalaajniammggaaGreatDoorXLa
import Derived.Test.YtalaajniammggaaGreatDoorXCb
import Derived.Lib.LaidU8
import Derived.Lib.OwnBridge
import Derived.ChangeArms
import Derived.ChangeSlices
import Derived.Lay
import Derived.LaidLaws
import Derived.ProofKit
import Derived.OpenShut
import Derived.SizedLaws
import Derived.SevenTiedAt
import Derived.Deep.Strs
namespace Go.Proofs.YtalaajniammggaaGreatDoor
open Go.RowKit
theorem dig_cln {c : UInt8} (h : IsDig c) : c ≠ 10 ∧ c ≠ 32 := by
 unfold IsDig at h
 constructor <;>
 ·rintro rfl
  revert h
  decide
theorem hx_cln : ∀ k : Fin 16,hx k.val ≠ 10 ∧ hx k.val ≠ 32 := by decide
theorem hexL_cln : ∀ (u : Nat),Cln (hexL u) := by
 intro u
 induction u using Nat.strongRecOn with
 | _ u ih =>
  by_cases h : u < 16
  ·rw [hexL_small h]
   intro c hc
   simp only [List.mem_singleton] at hc
   subst hc
   exact hx_cln ⟨u,h⟩
  ·rw [hexL_big h]
   exact (ih (u / 16) (by omega)).app (fun c hc => by
    simp only [List.mem_singleton] at hc
    subst hc
    exact hx_cln ⟨u % 16,by omega⟩)
theorem cln_list {l : List UInt8} (h : l.all (fun c => c != 10 && c != 32) = true) : Cln l := fun c hc => by
 have := List.all_eq_true.1 h c hc
 simpa using this
theorem print_cln (x : Nat) : Cln (printL x) := by
 unfold printL
 split
 ·exact (cln_list (by decide)).app (hexL_cln x)
 ·unfold numL
  split
  ·cases negOf x
   ·exact cln_list (by decide)
   ·exact cln_list (by decide)
  ·unfold txtL prefL
   refine Cln.app (Cln.app (Cln.app (Cln.app ?_ ?_) ?_) (cln_list (by decide))) (cln_itoa _)
   ·cases negOf x
    ·exact cln_list (by decide)
    ·exact cln_list (by decide)
   ·intro c hc
    simp only [List.mem_singleton] at hc
    subst hc
    exact dig_cln (gF_isDig x 0)
   ·split
    ·exact Cln.cons (by decide) (by decide) (fun c hc => dig_cln (moreD_dig x _ c hc))
    ·exact cln_list (by decide)
def fpP (v : Int) : List UInt8 := printL (wd v)
theorem fpP_FP : FP fpP where
 inj a b ha1 ha2 hb1 hb2 h := by
  have e := print_inj (wd_lt a) (wd_lt b) h
  have h1 := wd_back a ha1 ha2
  rw [e,wd_back b hb1 hb2] at h1
  exact h1.symm
 ok a := print_cln _
 len a := print_len _ (wd_lt a)
def envA (w : World) : Prop := All w ∧ Fld w ∧ Wds w
def env : Env where
 fp := fpP
 F := fpP_FP
 A := envA
 kept h hb := ⟨h.1.kept hb,h.2.1.kept hb,h.2.2.kept hb⟩
 fld h := h.2.1
 wds h := h.2.2
 tab h := h.1.tabs.ten
 syn h := h.1.errz.syn
 rng h := h.1.errz.ran
 pr v w h := print_any v w h.1.tabs h.1.rowz h.1.zer
 pa s hs w h := by
  by_cases hx : ∃ v,InR v ∧ fpP v = s.data.toList
  ·obtain ⟨v,hv,he⟩ := hx
   have es : s = ⟨(printL (wd v)).toArray⟩ := by
    apply ByteArray.ext
    rw [show printL (wd v) = s.data.toList from he]
   have hr := parse_right' atof_right (wd v) (wd_lt v) w h.1
   rw [← es,wd_back v hv.1 hv.2] at hr
   refine hr.mono ?_
   rintro e w' ⟨rfl,hb⟩
   exact ⟨v,0,.inr ⟨hv,rfl,he⟩,rfl,hb⟩
  ·refine (parse_total atof_total s hs w h.1).mono ?_
   rintro e w' ⟨y,k,hyk,rfl,hb⟩
   rcases hyk with ⟨rfl,rfl⟩ | ⟨y1,y2,rfl,hy⟩
   ·exact ⟨0,4,.inl ⟨rfl,rfl,fun v hv he => hx ⟨v,hv,he⟩⟩,rfl,hb⟩
   ·exact ⟨y,0,.inr ⟨⟨y1,y2⟩,rfl,hy⟩,rfl,hb⟩
end Go.Proofs.YtalaajniammggaaGreatDoor

/- What every row of asm's needs: the variables as the walks ask them; what came in. -/
namespace Go.Proofs.YtalaajniammggaaGreatDoor
open Go.ChangeShapes Go.WideShapes Go.ChangeAt Go.RowKit
theorem laidOut : laidOutB Tryz.prog = true := by kernel_rfl
theorem var_block {w : World} (h : w.ShapedOpen Tryz.prog) : ∀ g : Nat,g < Tryz.prog.globals.size → (((begin Tryz.prog (fun _ _ => 0) default).world.heap[g]?).bind Obj.row?).isSome = true → ∃ (c : Array Value) (t : TypeId),w.heap[g]? = some (.cells c t (0,0)) ∧ ∀ n,(((begin Tryz.prog (fun _ _ => 0) default).world.heap[g]?).bind Obj.row?).map (fun r => r.1.size) = some n → c.size = n := by
 intro g hg hs
 obtain ⟨⟨zero,t⟩,hz⟩ := Option.isSome_iff_exists.1 hs
 obtain ⟨cs,hcs,hsz,_⟩ := h.1 g zero t hg hz
 refine ⟨cs,t,hcs,fun n hn => ?_⟩
 rw [hz] at hn
 simp only [Option.map_some,Option.some.injEq] at hn
 rw [hsz,hn]
theorem globs : Tryz.prog.globals.size = 17 := by kernel_rfl
theorem blk_of {w : World} (h : w.ShapedOpen Tryz.prog) : Blk w := by
 obtain ⟨ca,ta,ha,_⟩ := var_block h 13 (by rw [globs]; decide) (by kernel_rfl)
 obtain ⟨cb,tb,hb,_⟩ := var_block h 12 (by rw [globs]; decide) (by kernel_rfl)
 exact ⟨ca,cb,ta,tb,ha,hb⟩
theorem fld_of_laid {w : World} (h : laidMet Tryz.prog laidAll w) : Fld w := by
 have h := Lib.laidMet.reads h (n := "firebreak/code.fields") (d := Rows.laid_firebreak_code_fields) (by simp [laidAll, Rows.asmNamesRow])
 obtain ⟨g,t,cs,fuel,p,hg,ht,hv,hr⟩ := h
 have e1 : Tryz.prog.globalNamed "firebreak/code.fields" = some 2 := by kernel_rfl
 obtain rfl : 2 = g := Option.some.inj (e1.symm.trans hg)
 have e2 : (Tryz.prog.globals[2]?).map (·.type) = some 97 := by kernel_rfl
 obtain rfl : 97 = t := Option.some.inj (e2.symm.trans ht)
 have c1 : Tryz.prog.cellsOf 5 = 1 := by kernel_rfl
 have c2 : Tryz.prog.cellsOf 97 = 34 := by kernel_rfl
 have hdd : (Rows.laid_firebreak_code_fields : DataW Unit) = Lib.tabData .u8 tabF := by kernel_rfl
 rw [hdd] at hr
 have hcs := Lib.cells_of_tab Tryz.underlying97 Tryz.underlying5 c1 c2 hr
 intro i hi
 rw [World.var?_cell hg hv i,← Array.getElem?_toList,hcs]
 have hl : i < tabF.length := hi
 simp [List.getD_eq_getElem?_getD,hl]
def wordsD : List (DataW Unit) := wordsL.map fun l => .lit (.string l)
theorem wds_of_laid {w : World} (h : laidMet Tryz.prog laidAll w) (hsh : w.ShapedOpen Tryz.prog) : Wds w := by
 have h := Lib.laidMet.reads h (n := "firebreak/asm.words") (d := Rows.laid_firebreak_asm_words) (by simp [laidAll, Rows.asmNamesRow])
 obtain ⟨g,t,cs,fuel,p,hg,ht,hv,hr⟩ := h
 have e1 : Tryz.prog.globalNamed "firebreak/asm.words" = some 0 := by kernel_rfl
 obtain rfl : 0 = g := Option.some.inj (e1.symm.trans hg)
 have e2 : (Tryz.prog.globals[0]?).map (·.type) = some 51 := by kernel_rfl
 obtain rfl : 51 = t := Option.some.inj (e2.symm.trans ht)
 have hdd : (Rows.laid_firebreak_asm_words : DataW Unit) = .agg wordsD := by kernel_rfl
 rw [hdd] at hr
 obtain ⟨xs,m,_,hx,hcl,hxl,hall⟩ := DataW.trod_array Tryz.underlying51 hr
 have c1 : Tryz.prog.cellsOf 9 = 1 := by kernel_rfl
 have hx1 : wordsD = xs.map (·.1) := by
  have := congrArg Prod.fst hx
  simpa using this
 have key : ∀ i,i < 34 → w.cell? ⟨0,i,none⟩ = some (.string ⟨(wordsL.getD i []).toArray⟩) := by
  intro i hi
  have h1 := hall i hi
  have hxi : i < xs.length := by omega
  rw [List.getElem?_eq_getElem hxi,c1,Nat.mul_one] at h1
  obtain ⟨s,hs1,hs2,_⟩ := DataW.trod_string Tryz.underlying9 h1
  have h2 : (xs.map (·.1))[i]? = some (.lit (.string s.data.toList)) := by
   rw [List.getElem?_map,List.getElem?_eq_getElem hxi,hs2]
   rfl
  rw [← hx1] at h2
  have hwl : i < wordsL.length := by rw [words_len]; exact hi
  unfold wordsD at h2
  rw [List.getElem?_map,List.getElem?_eq_getElem hwl] at h2
  simp only [Option.map_some,Option.some.injEq,DataW.lit.injEq,Lit.string.injEq] at h2
  have es : s = ⟨(wordsL.getD i []).toArray⟩ := by
   rw [List.getD_eq_getElem?_getD,List.getElem?_eq_getElem hwl,Option.getD_some,h2]
  rw [World.var?_cell hg hv i,← Array.getElem?_toList,← es]
  have := congrArg (·[0]?) hs1
  simpa [List.getElem?_take,List.getElem?_drop] using this
 obtain ⟨c,tc,hc,hsz⟩ := var_block hsh 0 (by rw [globs]; decide) (by kernel_rfl)
 have hsz := hsz 34 (by kernel_rfl)
 refine ⟨tc,(0,0),?_⟩
 rw [hc]
 have : c = wordsA := by
  apply Array.ext_getElem?
  intro i
  by_cases hi : i < 34
  ·have k := key i hi
   rw [Lib.cell_of_heap hc] at k
   rw [k,wordsA_at i hi]
  ·rw [Array.getElem?_eq_none (by omega),Array.getElem?_eq_none (by rw [wordsA_size]; omega)]
 rw [this]
theorem env_of {w : World} (h : laidMet Tryz.prog laidAll w) (hsh : w.ShapedOpen Tryz.prog) : env.A w := ⟨all_of_laid h (blk_of hsh),fld_of_laid h,wds_of_laid h hsh⟩
theorem cellsIns : Tryz.prog.cellsOf 37 = 5 := by kernel_rfl
theorem cellsInt : Tryz.prog.cellsOf 3 = 1 := by kernel_rfl
theorem cellsI64 : Tryz.prog.cellsOf 2 = 1 := by kernel_rfl
theorem ins_of_cells {w : World} {b o : Nat} {x : Ins} (h : ∀ r,r < 5 → w.cell? ⟨b,o + r,none⟩ = (insCells x)[r]?) : InsAt w b o x := ⟨h 0 (by omega),h 1 (by omega),h 2 (by omega),h 3 (by omega),h 4 (by omega)⟩
set_option maxRecDepth 100000 in
theorem view_prog {H : Type} {enc : TypeId × Value → H} {W : World} {a : Option Addr} {len cap : Nat} {d : DataW H} {p : List MemPlace} (h : DataW.Trod enc Tryz.prog W 0 (fun _ => true) true 23 (.slice a len cap) d p) :
  ∃ l : List Ins,l.length = len ∧ len ≤ cap ∧ (a = none → cap = 0) ∧ Prg W a l ∧ ∀ x ∈ l,InR x.imm := by
 obtain ⟨fuel,hf⟩ := h
 rcases DataW.trod_slice Tryz.underlying23 hf with ⟨hcs,hx⟩ | ⟨a',len',cap',elems,rest,n,_,hcs,hx,hb,hl,hm,hlen,hel,_,_⟩
 ·simp [Value.cells] at hcs
  obtain ⟨rfl,rfl,rfl⟩ := hcs
  exact ⟨[],rfl,Nat.le_refl _,fun _ => rfl,fun i hi => absurd hi (Nat.not_lt_zero i),fun x hx => by simp at hx⟩
 ·simp [Value.cells] at hcs
  obtain ⟨rfl,rfl,rfl⟩ := hcs
  have each : ∀ i,i < len → ∃ x : Ins,(∀ r,r < 5 → W.cell? ((a'.add (i * 5)).add r) = (insCells x)[r]?) ∧ InR x.imm := by
   intro i hi
   have h1 := hel i hi
   have h2 : ∃ y,elems[i]? = some y := ⟨_,List.getElem?_eq_getElem (by omega)⟩
   obtain ⟨y,hy⟩ := h2
   rw [hy,cellsIns,Option.bind_eq_some_iff] at h1
   obtain ⟨cs,hc,ht⟩ := h1
   obtain ⟨ys,m,_,_,hcl,hyl,hall⟩ := DataW.trod_struct Tryz.underlying37 ht
   rw [cellsIns] at hcl
   have t0 := hall 0 _ rfl
   have t1 := hall 1 _ rfl
   have t2 := hall 2 _ rfl
   have t3 := hall 3 _ rfl
   have t4 := hall 4 _ rfl
   match cs,hcl,ys,hyl with
   | [c0,c1,c2,c3,c4],_,[z0,z1,z2,z3,z4],_ =>
    obtain ⟨n0,e0,_,w0⟩ := DataW.trod_int Tryz.underlying3 t0
    obtain ⟨n1,e1,_,w1⟩ := DataW.trod_int Tryz.underlying3 t1
    obtain ⟨n2,e2,_,w2⟩ := DataW.trod_int Tryz.underlying3 t2
    obtain ⟨n3,e3,_,w3⟩ := DataW.trod_int Tryz.underlying3 t3
    obtain ⟨n4,e4,_,w4⟩ := DataW.trod_int Tryz.underlying2 t4
    simp [cellsInt,cellsI64] at e0 e1 e2 e3 e4
    subst e0 e1 e2 e3 e4
    have hcell := (World.cells?_some hc).2.2
    have b4 := bounds_i64 w4
    refine ⟨⟨n0,n1,n2,n3,n4⟩,fun r hr => ?_,b4⟩
    rw [hcell r (by simpa using hr)]
    rfl
  have all : ∀ k,k ≤ len → ∃ l : List Ins,l.length = k ∧ (∀ i,i < k → ∀ r,r < 5 → W.cell? ((a'.add (i * 5)).add r) = (insCells (l.getD i default))[r]?) ∧ ∀ x ∈ l,InR x.imm := by
   intro k
   induction k with
   | zero => intro _; exact ⟨[],rfl,fun i hi => absurd hi (Nat.not_lt_zero i),fun x hx => by simp at hx⟩
   | succ k ih =>
    intro hk
    obtain ⟨l,hl',hall,hfit⟩ := ih (by omega)
    obtain ⟨x,hx,hfx⟩ := each k (by omega)
    refine ⟨l ++ [x],by simp [hl'],fun i hi r hr => ?_,fun y hy => ?_⟩
    ·by_cases hik : i < k
     ·have e : (l ++ [x]).getD i default = l.getD i default := by
       rw [List.getD_eq_getElem?_getD,List.getD_eq_getElem?_getD,List.getElem?_append_left (by omega)]
      rw [e]
      exact hall i hik r hr
     ·obtain rfl : i = k := by omega
      have e : (l ++ [x]).getD i default = x := by
       rw [List.getD_eq_getElem?_getD,List.getElem?_append_right (by omega),hl']
       simp
      rw [e]
      exact hx r hr
    ·rcases List.mem_append.1 hy with h | h
     ·exact hfit y h
     ·simp at h; rw [h]; exact hfx
  obtain ⟨l,hl',hall,hfit⟩ := all len (Nat.le_refl _)
  refine ⟨l,hl',hl,(fun h => by cases h),fun i hi => ?_,hfit⟩
  obtain ⟨b,off,spot⟩ := a'
  have hspot : spot = none := by
   have h0 := hall 0 (by omega) 0 (by omega)
   have h1 : W.cell? (((⟨b,off,spot⟩ : Addr).add (0 * 5)).add 0) = some (.int .i64 (l.getD 0 default).op) := h0
   simpa [Addr.add] using World.cell?_spot h1
  subst hspot
  refine ⟨b,off,rfl,ins_of_cells (fun r hr => ?_)⟩
  have := hall i (by omega) r hr
  rw [Addr.add_lit,Addr.add_lit] at this
  exact this
end Go.Proofs.YtalaajniammggaaGreatDoor
