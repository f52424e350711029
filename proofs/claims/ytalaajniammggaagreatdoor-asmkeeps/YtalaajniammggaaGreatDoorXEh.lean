/- What the rows list of the library's variables, as the walks want it. -/
import Derived.Test.YtalaajniammggaaGreatDoorXEf
import Derived.Test.YtalaajniammggaaGreatDoorXLa
import Derived.ChangeSame
namespace Go.Proofs.YtalaajniammggaaGreatDoor
open Go.RowKit Go.Lib
theorem rd_slice {w : World} {name : String} {g t e n : Nat} {ds : List (DataW Unit)} (hg0 : Tryz.prog.globalNamed name = some g) (ht0 : (Tryz.prog.globals[g]?).map (·.type) = some t) (hu : Tryz.prog.underlying t = some (.slice e)) (hn : ds.length = n)
  (h : VarReads Tryz.prog w name (.slice ds [])) :
  ∃ (a : Addr) (k : Nat),w.cell? ⟨g,0,none⟩ = some (.slice (some a) n n) ∧ ∀ i d,ds[i]? = some d → ∃ q,(w.cells? 0 (a.add (i * Tryz.prog.cellsOf e)) (Tryz.prog.cellsOf e)).bind (DataW.trod (fun _ => ()) Tryz.prog w 0 (fun _ => true) false k e) = some (d,q) := by
 obtain ⟨g',t',cs,fuel,p,hg,ht,hv,hr⟩ := h
 obtain rfl : g = g' := Option.some.inj (hg0.symm.trans hg)
 obtain rfl : t = t' := Option.some.inj (ht0.symm.trans ht)
 have hc := World.var?_cell hg hv 0
 rcases DataW.trod_slice hu hr with ⟨-,hx⟩ | ⟨a,len,cap,elems,rest,k,rfl,hcs,hx,-,hlc,-,hel,hcell,hsp,-⟩
 ·have := congrArg Prod.fst hx
  simp at this
 ·have hx1 := congrArg Prod.fst hx
  simp only [DataW.slice.injEq] at hx1
  obtain ⟨hE,hR⟩ := hx1
  have hlen : len = n := by
   have := congrArg List.length hE
   simp at this
   omega
  have hrl := (hsp rfl).1
  have hcap : cap = n := by
   have := congrArg List.length hR
   simp at this
   omega
  subst hlen hcap
  refine ⟨a,k,by rw [hc,← Array.getElem?_toList,hcs]; rfl,fun i d hd => ?_⟩
  have hi : i < cap := by
   have := (List.getElem?_eq_some_iff.1 hd).1
   omega
  have h0 := hcell i hi
  rw [hE,List.getElem?_map] at hd
  obtain ⟨x,hx2,rfl⟩ := Option.map_eq_some_iff.1 hd
  exact ⟨x.2,by rw [h0,hx2]⟩
theorem one_spot {w : World} {a : Addr} {v : Value} (h : w.cell? (a.add 0) = some v) : ∃ R o,a = ⟨R,o,none⟩ := by
 obtain ⟨R,o,sR⟩ := a
 have e0 : (Addr.add ⟨R,o,sR⟩ 0) = ⟨R,o,sR⟩ := by simp [Addr.add]
 rw [e0] at h
 obtain rfl : sR = none := Go.Proofs.cell_spot h
 exact ⟨R,o,rfl⟩
theorem rd_powz {w : World} (h : VarReads Tryz.prog w "internal/strconv.float64pow10" Rows.laid_internal_strconv_float64pow10) : Powz w := by
 have hd : (Rows.laid_internal_strconv_float64pow10 : DataW Unit) = .slice (tenF.map fun v => .lit (.float .f64 v)) [] := rfl
 rw [hd] at h
 obtain ⟨a,k,h1,h2⟩ := rd_slice (g := 16) (t := 237) (n := 23) (by kernel_rfl) (by kernel_rfl) Tryz.underlying237 rfl h
 have c1 : Tryz.prog.cellsOf 107 = 1 := by kernel_rfl
 have key : ∀ j,j < 23 → w.cell? (a.add j) = some (.float .f64 (tenF.getD j 0)) := by
  intro j hj
  obtain ⟨v,hv⟩ : ∃ v,tenF[j]? = some v := ⟨_,List.getElem?_eq_getElem (by exact hj)⟩
  obtain ⟨q,hq⟩ := h2 j (.lit (.float .f64 v)) (by rw [List.getElem?_map,hv]; rfl)
  rw [c1,Nat.mul_one] at hq
  obtain ⟨cl,hcl,htr⟩ := Option.bind_eq_some_iff.1 hq
  have hfl : ∃ z,cl = [.float .f64 z] ∧ (DataW.lit (.float .f64 v) : DataW Unit) = .lit (.float .f64 z) := by
   cases k with
   | zero => simp [DataW.trod] at htr
   | succ k =>
    unfold DataW.trod at htr
    rw [Tryz.underlying107] at htr
    split at htr <;> simp_all
  obtain ⟨z,rfl,hz⟩ := hfl
  simp only [DataW.lit.injEq,Lit.float.injEq,true_and] at hz
  subst hz
  rw [List.getD_eq_getElem?_getD,hv]
  exact Go.ChangeShapes.cell_of_cells?_one hcl
 obtain ⟨R,o,rfl⟩ := one_spot (key 0 (by omega))
 refine ⟨R,o,h1,fun j hj => ?_⟩
 have := key j hj
 rw [Addr.add_lit] at this
 exact this
theorem rd_powtab {w : World} (h : VarReads Tryz.prog w "internal/strconv.powtab" Rows.laid_internal_strconv_powtab) : ∃ b o, w.cell? ⟨15, 0, none⟩ = some (.slice (some ⟨b, o, none⟩) 9 9) ∧ ∀ j, j < 9 → w.cell? ⟨b, o + j, none⟩ = some (.int .i64 ((powL.getD j 0 : Nat) : Int)) := by
 have hd : (Rows.laid_internal_strconv_powtab : DataW Unit) = .slice (powL.map fun (v : Nat) => .lit (.int .i64 (v : Int))) [] := rfl
 rw [hd] at h
 obtain ⟨a,k,h1,h2⟩ := rd_slice (g := 15) (t := 62) (n := 9) (by kernel_rfl) (by kernel_rfl) Tryz.underlying62 rfl h
 have c1 : Tryz.prog.cellsOf 3 = 1 := by kernel_rfl
 have key : ∀ j,j < 9 → w.cell? (a.add j) = some (.int .i64 ((powL.getD j 0 : Nat) : Int)) := by
  intro j hj
  obtain ⟨v,hv⟩ : ∃ v,powL[j]? = some v := ⟨_,List.getElem?_eq_getElem (by exact hj)⟩
  obtain ⟨q,hq⟩ := h2 j (.lit (.int .i64 (v : Int))) (by rw [List.getElem?_map,hv]; rfl)
  rw [c1,Nat.mul_one] at hq
  obtain ⟨cl,hcl,htr⟩ := Option.bind_eq_some_iff.1 hq
  obtain ⟨z,rfl,hz,-⟩ := DataW.trod_int Tryz.underlying3 htr
  have hz := congrArg Prod.fst hz
  simp only [DataW.lit.injEq,Lit.int.injEq,true_and] at hz
  subst hz
  rw [List.getD_eq_getElem?_getD,hv]
  exact Go.ChangeShapes.cell_of_cells?_one hcl
 obtain ⟨R,o,rfl⟩ := one_spot (key 0 (by omega))
 refine ⟨R,o,h1,fun j hj => ?_⟩
 have := key j hj
 rw [Addr.add_lit] at this
 exact this
theorem two_cells {w : World} {a : Addr} {cl : List Value} (h : w.cells? 0 a 2 = some cl) : ∃ x y,cl = [x,y] ∧ w.cell? (a.add 0) = some x ∧ w.cell? (a.add 1) = some y := by
 unfold World.cells? at h
 rw [if_pos (Nat.zero_le _)] at h
 cases hx : w.cell? (a.add 0) with
 | none => simp [List.range_succ,hx] at h
 | some x =>
  cases hy : w.cell? (a.add 1) with
  | none => simp [List.range_succ,hx,hy] at h
  | some y =>
   simp [List.range_succ,hx,hy] at h
   exact ⟨x,y,h.symm,rfl,rfl⟩
theorem rd_cheats {w : World} (h : VarReads Tryz.prog w "internal/strconv.leftcheats" Rows.laid_internal_strconv_leftcheats) : Chz w := by
 have hd : (Rows.laid_internal_strconv_leftcheats : DataW Unit) = .slice (Pinned.cheatRows.map fun x => .agg [.lit (.int .i64 x.1),.lit (.string x.2)]) [] := rfl
 rw [hd] at h
 obtain ⟨a,k,h1,h2⟩ := rd_slice (g := 11) (t := 212) (n := 61) (by kernel_rfl) (by kernel_rfl) Tryz.underlying212 (by rw [List.length_map]; kernel_rfl) h
 have c1 : Tryz.prog.cellsOf 211 = 2 := by kernel_rfl
 have c3 : Tryz.prog.cellsOf 3 = 1 := by kernel_rfl
 have c9 : Tryz.prog.cellsOf 9 = 1 := by kernel_rfl
 have key : ∀ j x,Pinned.cheatRows[j]? = some x → w.cell? ((a.add (j * 2)).add 0) = some (.int .i64 (x.1 : Int)) ∧ w.cell? ((a.add (j * 2)).add 1) = some (.string ⟨x.2.toArray⟩) := by
  intro j x hx
  obtain ⟨q,hq⟩ := h2 j (.agg [.lit (.int .i64 x.1),.lit (.string x.2)]) (by rw [List.getElem?_map,hx]; rfl)
  rw [c1] at hq
  obtain ⟨cl,hcl,htr⟩ := Option.bind_eq_some_iff.1 hq
  obtain ⟨u,v,rfl,hu,hv⟩ := two_cells hcl
  obtain ⟨y0,y1,n,hy,-,t0,t1⟩ := Go.ChangeShapes.trod_struct2 Tryz.underlying211 htr
  have hy := congrArg Prod.fst hy
  simp only [DataW.agg.injEq,List.cons.injEq,and_true] at hy
  simp only [c3,c9,List.drop_zero,List.drop_succ_cons,List.take_succ_cons,List.take_zero] at t0 t1
  obtain ⟨z,e0,hz,-⟩ := DataW.trod_int Tryz.underlying3 t0
  obtain ⟨s,e1,hs,-⟩ := DataW.trod_string Tryz.underlying9 t1
  have hz := congrArg Prod.fst hz
  have hs := congrArg Prod.fst hs
  rw [← hy.1] at hz
  rw [← hy.2] at hs
  simp only [DataW.lit.injEq,Lit.int.injEq,true_and,Lit.string.injEq] at hz hs
  simp only [List.cons.injEq,and_true] at e0 e1
  rw [hu,hv,e0,e1,← hz,hs]
  exact ⟨rfl,rfl⟩
 have k0 := (key 0 _ rfl).1
 rw [Nat.zero_mul] at k0
 have e00 : (a.add 0).add 0 = a.add 0 := by simp [Addr.add]
 rw [e00] at k0
 obtain ⟨R,o,rfl⟩ := one_spot k0
 refine ⟨R,o,h1,fun j x hx => ?_⟩
 obtain ⟨k1,k2⟩ := key j x hx
 simp only [Addr.add_lit,Nat.add_zero] at k1 k2
 exact ⟨k1,k2⟩
set_option maxRecDepth 100000 in
theorem rd_zer {w : World} (h : VarReads Tryz.prog w "math/bits.deBruijn64tab" Rows.laid_math_bits_deBruijn64tab) : Zer w := by
 obtain ⟨g,t,cs,fuel,p,hg,ht,hv,hr⟩ := h
 have e1 : Tryz.prog.globalNamed "math/bits.deBruijn64tab" = some 6 := by kernel_rfl
 obtain rfl : 6 = g := Option.some.inj (e1.symm.trans hg)
 have e2 : (Tryz.prog.globals[6]?).map (·.type) = some 161 := by kernel_rfl
 obtain rfl : 161 = t := Option.some.inj (e2.symm.trans ht)
 unfold Rows.laid_math_bits_deBruijn64tab at hr
 obtain ⟨fuel',d,q,hdi,htr⟩ := Lib.array_elem Tryz.underlying161 hr 15 (by omega)
 have hd : (.lit (.int .u8 4) : DataW Unit) = d := Option.some.inj hdi
 subst hd
 have c1 : Tryz.prog.cellsOf 5 = 1 := by kernel_rfl
 obtain ⟨z,hz,hx,-⟩ := DataW.trod_int Tryz.underlying5 htr
 have hx := congrArg Prod.fst hx
 simp only [DataW.lit.injEq,Lit.int.injEq,true_and] at hx
 subst hx
 rw [c1] at hz
 unfold Zer
 rw [World.var?_cell hg hv 15,← Array.getElem?_toList]
 have := congrArg (·[0]?) hz
 simp only [List.getElem?_take,List.getElem?_drop] at this
 simpa using this
theorem rd_info3 {w : World} (h : VarReads Tryz.prog w "internal/strconv.float64info" Rows.laid_internal_strconv_float64info) : w.cell? ⟨13, 1, none⟩ = some (.int .u64 11) ∧ w.cell? ⟨13, 2, none⟩ = some (.int .i64 (-1023)) := by
 obtain ⟨g,t,cs,fuel,p,hg,ht,hv,hr⟩ := h
 have e1 : Tryz.prog.globalNamed "internal/strconv.float64info" = some 13 := by kernel_rfl
 obtain rfl : 13 = g := Option.some.inj (e1.symm.trans hg)
 have e2 : (Tryz.prog.globals[13]?).map (·.type) = some 221 := by kernel_rfl
 obtain rfl : 221 = t := Option.some.inj (e2.symm.trans ht)
 obtain ⟨xs,n,rfl,hx,hl,hxl,hall⟩ := DataW.trod_struct Tryz.underlying221 hr
 have hc1 := World.var?_cell hg hv 1
 have hc2 := World.var?_cell hg hv 2
 have hx1 := congrArg Prod.fst hx
 simp only [Rows.laid_internal_strconv_float64info,DataW.agg.injEq] at hx1
 match xs,hx1 with
 | [x0,x1,x2],hx1 =>
  simp only [List.map_cons,List.cons.injEq,List.map_nil,and_true] at hx1
  have h1 : DataW.trod (fun _ => ()) Tryz.prog w 0 (fun _ => true) false n 102 ((cs.toList.drop 1).take (Tryz.prog.cellsOf 102)) = [x0,x1,x2][1]? := hall 1 _ rfl
  have h2 : DataW.trod (fun _ => ()) Tryz.prog w 0 (fun _ => true) false n 3 ((cs.toList.drop 2).take (Tryz.prog.cellsOf 3)) = [x0,x1,x2][2]? := hall 2 _ rfl
  have c1 : Tryz.prog.cellsOf 102 = 1 := by kernel_rfl
  have c3 : Tryz.prog.cellsOf 3 = 1 := by kernel_rfl
  simp only [List.getElem?_cons_succ,List.getElem?_cons_zero] at h1 h2
  obtain ⟨z1,hz1,hxz1,-⟩ := DataW.trod_int Tryz.underlying102 h1
  obtain ⟨z2,hz2,hxz2,-⟩ := DataW.trod_int Tryz.underlying3 h2
  have q1 : DataW.lit (.int .u64 11) = (.lit (.int .u64 z1) : DataW Unit) := by rw [hx1.2.1,hxz1]
  have q2 : DataW.lit (.int .i64 (-1023)) = (.lit (.int .i64 z2) : DataW Unit) := by rw [hx1.2.2,hxz2]
  simp only [DataW.lit.injEq,Lit.int.injEq,true_and] at q1 q2
  rw [c1] at hz1
  rw [c3] at hz2
  rw [hc1,hc2,← Array.getElem?_toList,← Array.getElem?_toList,q1,q2]
  have w1 := congrArg (·[0]?) hz1
  have w2 := congrArg (·[0]?) hz2
  simp only [List.getElem?_take,List.getElem?_drop] at w1 w2
  exact ⟨by simpa using w1,by simpa using w2⟩
set_option maxRecDepth 100000 in
theorem iface_of {w : World} {fuel : Nat} {cs : List Value} {nm : String} {d : DataW Unit} {p : List MemPlace} (h : DataW.trod (fun _ => ()) Tryz.prog w 0 (fun _ => true) false fuel 47 cs = some (.iface nm d,p)) : ∃ u v,cs = [.iface u v] := by
 cases fuel with
 | zero => simp [DataW.trod] at h
 | succ n =>
  unfold DataW.trod at h
  rw [Tryz.underlying47] at h
  split at h <;> simp_all
theorem rd_err {w : World} {name : String} {g : Nat} {nm : String} {d : DataW Unit} (hg0 : Tryz.prog.globalNamed name = some g) (ht0 : (Tryz.prog.globals[g]?).map (·.type) = some 47) (h : VarReads Tryz.prog w name (.iface nm d)) : ∃ t p,w.cell? ⟨g,0,none⟩ = some (.iface t p) := by
 obtain ⟨g',t',cs,fuel,p,hg,ht,hv,hr⟩ := h
 obtain rfl : g = g' := Option.some.inj (hg0.symm.trans hg)
 obtain rfl : 47 = t' := Option.some.inj (ht0.symm.trans ht)
 obtain ⟨u,v,hcs⟩ := iface_of hr
 exact ⟨u,v,by rw [World.var?_cell hg hv 0,← Array.getElem?_toList,hcs]; rfl⟩
theorem all_of_laid {w : World} (h : laidMet Tryz.prog laidAll w) (G : Blk w) : All w := by
 have T := tabs_of_laid h
 have m := fun n d (hm : (n,d) ∈ laidAll) => Lib.laidMet.reads h hm
 have ht := m "internal/strconv.pow10Tab" Rows.laid_internal_strconv_pow10Tab (by simp [laidAll, Rows.asmNamesRow])
 have hi := m "internal/strconv.float64info" Rows.laid_internal_strconv_float64info (by simp [laidAll, Rows.asmNamesRow])
 obtain ⟨i1,i2⟩ := rd_info3 hi
 refine ⟨T,fun i hi => ?_,rd_zer (m _ _ (by simp [laidAll,Rows.asmNamesRow])),rd_powz (m _ _ (by simp [laidAll,Rows.asmNamesRow])),⟨?_,?_⟩,⟨rd_cheats (m _ _ (by simp [laidAll,Rows.asmNamesRow])),rd_powtab (m _ _ (by simp [laidAll,Rows.asmNamesRow])),T.mant,i1,i2⟩,G⟩
 ·obtain ⟨x,hx,k1,k2⟩ := rd_tab ht i hi
  rw [Nat.mul_comm 2 i] at k1 k2
  exact ⟨x,hx,k1,k2⟩
 ·exact rd_err (name := "strconv.ErrSyntax") (by kernel_rfl) (by kernel_rfl) (m "strconv.ErrSyntax" Rows.laid_strconv_ErrSyntax (by simp [laidAll, Rows.asmNamesRow]))
 ·exact rd_err (name := "strconv.ErrRange") (by kernel_rfl) (by kernel_rfl) (m "strconv.ErrRange" Rows.laid_strconv_ErrRange (by simp [laidAll, Rows.asmNamesRow]))
end Go.Proofs.YtalaajniammggaaGreatDoor
