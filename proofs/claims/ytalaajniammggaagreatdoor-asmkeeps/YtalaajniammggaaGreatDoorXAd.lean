/- Print. -/
import Derived.Test.YtalaajniammggaaGreatDoorXAb
import Derived.Deep.RegionWith
import Derived.Deep.CutRange
import Derived.Deep.CutBlock
import Derived.BigQuiet
namespace Go.Proofs.YtalaajniammggaaGreatDoor
open Go.RowKit
theorem write_any (B b : Nat) (l : List UInt8) (S : List UInt8) (s : ByteArray) (hs : Hid (s = ⟨S.toArray⟩)) (w : World) (h : Lib.IsBuilder 45 5 B b (Lib.byteCells l) w) (hlen : l.length + S.length ≤ 140737488355328) (hBw : B ≤ w.heap.size) :
  Calls Tryz.prog 19 #[.pointer (some ⟨b,0,none⟩),.string s] w fun e w' => e = .returned (.tuple #[.int .i64 s.size,.nilIface]) ∧ Hid (Lib.IsBuilder 45 5 B b (Lib.byteCells (l ++ S)) w') ∧ Hid (Below B w w') := by
 have h1 := Any.Builder_WriteString Tryz.lays166 Tryz.Builder_Extra_166 B b (Lib.byteCells l) s w h (by rw [hs.out,ba_sz]; simpa [Lib.byteCells] using hlen) hBw
 refine Calls.mono h1 ?_
 rintro e w' ⟨he,hb,hB⟩
 refine ⟨he,Lib.hid ?_,Lib.hid hB⟩
 have e1 : Lib.byteCells (l ++ S) = Lib.byteCells l ++ Lib.strCells s := by rw [hs.out]; simp [Lib.byteCells,Lib.strCells]
 rw [e1]
 exact .inr hb
theorem builder_kept {B b : Nat} {bs : List Value} {w w' : World} (h : Lib.IsBuilder 45 5 B b bs w) (hb : Below w.heap.size w w') : Lib.IsBuilder 45 5 B b bs w' := by
 have key : ∀ p,Lib.BuilderAt 45 5 B b p bs w → Lib.BuilderAt 45 5 B b p bs w' := fun p h => by
  have hlt := h.lt
  obtain ⟨h1,v,h2,h3,h4⟩ := h
  exact ⟨h1,v,(hb.block b hlt).trans h2,owns_below h3 hb,h4⟩
 rcases h with h | h
 ·exact .inl (key _ h)
 ·exact .inr (key _ h)
def printA (fp : Int → List UInt8) (l : List Ins) : List UInt8 × Int × Int := if (mayL l 8).1 = 0 then (textL fp l,0,0) else ([],(mayL l 8).1,(mayL l 8).2)
theorem insR_of {x : Ins} {n k : Int} (h : (wrong x n k).1 = 0) (hi : InR x.imm) : InsR x := by
 obtain ⟨_,_,a,b,c,_⟩ := wrong_ok h
 have a := regE_ok a
 have b := regE_ok b
 have c := regE_ok c
 exact ⟨⟨by omega,by omega⟩,⟨by omega,by omega⟩,⟨by omega,by omega⟩,hi⟩
theorem line_le {fp : Int → List UInt8} (F : FP fp) {x : Ins} (hx : InsR x) : (lineL fp x).length ≤ 134 := by
 have key : ∀ fs : List Nat,(restL fp x fs).length ≤ 31 * fs.length := fun fs => by
  induction fs with
  | nil => simp [restL]
  | cons f r ih =>
   have := fld_len F hx f
   simp [restL] at ih ⊢
   omega
 have h4 : (fieldsN x.op).length ≤ 4 := by
  unfold fieldsN
  cases hA x.op <;> cases hB x.op <;> cases hC x.op <;> cases hI x.op <;> simp
 have h1 := word_len x.op
 have h2 := key (fieldsN x.op)
 unfold lineL
 rw [List.length_append]
 omega
theorem text_snoc (fp : Int → List UInt8) (l : List Ins) (x : Ins) : textL fp (l ++ [x]) = textL fp l ++ (lineL fp x ++ [10]) := by simp [textL]
theorem lineB_line (fp : Int → List UInt8) (x : Ins) : lineB (wordL x.op) ((fieldsN x.op).map (fldL fp x)) = lineL fp x ++ [10] := by
 rw [← line_parts]; rfl
def lineE (fp : Int → List UInt8) (x : Ins) : List UInt8 := lineL fp x ++ [10]
set_option maxRecDepth 100000 in
set_option maxHeartbeats 4000000 in
theorem print_prog (V : Env) (a : Option Addr) (cap : Nat) (l : List Ins) (hf : ∀ x ∈ l,InR x.imm) (w : World) (hP : Prg w a l) (A : V.A w) :
    Calls Tryz.prog 11 #[.slice a l.length cap] w fun e w' => e = .returned (.tuple #[.string ⟨(printA V.fp l).1.toArray⟩,.int .i64 (printA V.fp l).2.1,.int .i64 (printA V.fp l).2.2]) ∧ Below w.heap.size w w' := by
  have hm := may_any a cap l 8 w hP (V.fld A)
  have HA := Lib.hid A
  have HP := Lib.hid hP
  by_cases hz : (mayL l 8).1 = 0
  · have ez := may_zero hz
    have e1 : printA V.fp l = (textL V.fp l,0,0) := by unfold printA; rw [if_pos hz]
    rw [ez] at hm
    rw [e1]
    obtain ⟨hlen,hall⟩ := may_iff.1 hz
    have HX : Hid (∀ x ∈ l,(wrong x l.length 8).1 = 0 ∧ InsR x) := Lib.hid (fun x hx => ⟨hall x hx,insR_of (hall x hx) (hf x hx)⟩)
    obtain ⟨n,hn⟩ : ∃ n,Hid (l.length = n) := ⟨_,rfl⟩
    rw [hn.out] at hm hlen ⊢
    obtain ⟨T,hT⟩ : ∃ T : ByteArray,Hid (T = ⟨(textL V.fp l).toArray⟩) := ⟨_,rfl⟩
    simp only
    rw [← hT.out]
    clear hP A hz ez e1 hall hf
    go_enter Tryz.func11,Tryz.ntmps11
    go_wp2_with fail
    refine hm.mono ?_
    rintro e w1 ⟨rfl,b1⟩
    clear hm
    have hBld := Lib.hid (Lib.fresh_isBuilder 45 5 w1)
    have hB0 : Below w1.heap.size w1 (w1.alloc (.cells #[.pointer none,.slice none 0 0] 45)) := (Below.refl _ w1).alloc (Nat.le_refl _) _
    go_wp2_with fail
    go_loopw [9,21] (fun _ s21 wr => ∃ k : Nat,s21 = .int .i64 k ∧ k ≤ n ∧ Hid (Lib.IsBuilder 45 5 w1.heap.size w1.heap.size (Lib.byteCells (textL V.fp (l.take k))) wr) ∧ Hid ((textL V.fp (l.take k)).length ≤ 135 * k) ∧ Below w1.heap.size w1 wr) (fun _ s21 _ => n - (intOf s21).toNat)
    case atStart => exact ⟨0,rfl,by omega,hBld,Lib.hid (by simp [textL]),hB0⟩
    case round =>
      obtain ⟨k,rfl,hk,HB,HT,hb⟩ := hrel
      have hsz := hb.size
      by_cases hlt : k < n
      · have hlt' : (k : Int) < (n : Int) := by omega
        have hkl : k < l.length := by rw [hn.out]; exact hlt
        obtain ⟨bb,off,ea,hx⟩ := HP.out k hkl
        have b1r : Below w.heap.size w wr := b1.trans (hb.mono b1.size)
        have hx := hx.kept b1r
        have hmem : l.getD k default ∈ l := getD_mem hkl
        obtain ⟨hwx,hRx⟩ := HX.out _ hmem
        have hsn : l.take (k + 1) = l.take k ++ [l.getD k default] := by
          rw [List.take_add_one,List.getD_eq_getElem?_getD,List.getElem?_eq_getElem hkl]
          rfl
        generalize l.getD k default = x at *
        obtain ⟨o,ho,ho34⟩ : ∃ o : Nat,x.op = (o : Int) ∧ o < 34 := ⟨x.op.toNat,by have := wrong_ok hwx; omega,by have := wrong_ok hwx; omega⟩
        have Awr : V.A wr := V.kept HA.out b1r
        obtain ⟨cx,hcx⟩ : ∃ c,Hid (c = Obj.cells #[.int .i64 o,.int .i64 x.a,.int .i64 x.b,.int .i64 x.c,.int .i64 x.imm] 37) := ⟨_,rfl⟩
        have kb : Below wr.heap.size wr (wr.alloc cx) := (Below.refl _ wr).alloc (Nat.le_refl _) cx
        obtain ⟨S,hS⟩ : ∃ S : ByteArray,Hid (S = ⟨(lineE V.fp x).toArray⟩) := ⟨_,rfl⟩
        have hlx := line_le V.F hRx
        have HL' : Hid (Lib.byteCells (textL V.fp (l.take (k + 1))) = Lib.byteCells (textL V.fp (l.take k) ++ (lineL V.fp x ++ [10]))) := Lib.hid (by rw [hsn,text_snoc])
        have HT' : Hid ((textL V.fp (l.take (k + 1))).length ≤ 135 * (k + 1)) := Lib.hid (by have := HT.out; rw [hsn,text_snoc]; simp; omega)
        have W1 : ∀ (W : World),Below wr.heap.size wr W → W.cell? ⟨0,o,none⟩ = some (.string ⟨(wordL x.op).toArray⟩) := fun W hW => by
          have := wds_cell (V.wds (V.kept Awr hW)) o ho34
          rw [this]
          unfold wordL
          rw [ho]
          rfl
        have W2 : ∀ (W : World),Below wr.heap.size wr W → ∀ args,args = #[insV x] → Calls Tryz.prog 21 args W fun e w' => ∃ aa cc nn,e = .returned (.slice aa nn cc) ∧ Below W.heap.size W w' ∧ Hid (∀ W',Below w'.heap.size w' W' → ∀ ws,ws = Value.string ⟨(wordL x.op).toArray⟩ → Calls Tryz.prog 20 #[ws,.slice aa nn cc] W' fun e w' => e = .returned (.string S) ∧ w' = W') := fun W hW args hargs => by
          subst hargs
          refine (fieldTexts_any V x hRx W (V.kept Awr hW)).mono ?_
          rintro e w' ⟨v,nn,rfl,hrow,hnn,hbb⟩
          obtain ⟨aa,cc,rfl⟩ := own_slice hrow
          refine ⟨aa,cc,nn,rfl,hbb,Lib.hid (fun W' hW' ws hws => ?_)⟩
          subst hws
          have hst := str_of_own (owns_below hrow hW') (by simpa using hnn)
          have h4 : (fieldsN x.op).length ≤ 4 := by
            unfold fieldsN
            cases hA x.op <;> cases hB x.op <;> cases hC x.op <;> cases hI x.op <;> simp
          have := lineOf_any (wordL x.op) (word_len _) ((fieldsN x.op).map (fldL V.fp x)) (fun s hs => by
            obtain ⟨f,_,rfl⟩ := List.mem_map.1 hs
            exact fld_len V.F hRx f) (by simpa using h4) aa cc W' hst
          rw [lineB_line,show lineL V.fp x ++ [10] = lineE V.fp x from rfl,← hS.out,List.length_map,hnn] at this
          exact this
        have W3 : ∀ (W : World),Below wr.heap.size wr W → Calls Tryz.prog 19 #[.pointer (some ⟨w1.heap.size,0,none⟩),.string S] W fun e w' => e = .returned (.tuple #[.int .i64 S.size,.nilIface]) ∧ Hid (Lib.IsBuilder 45 5 w1.heap.size w1.heap.size (Lib.byteCells (textL V.fp (l.take (k + 1)))) w') ∧ Hid (Below w1.heap.size w1 w') := fun W hW => by
          have hW1 : Below w1.heap.size w1 W := hb.trans (hW.mono hsz)
          refine (write_any w1.heap.size w1.heap.size (textL V.fp (l.take k)) (lineL V.fp x ++ [10]) S hS W (builder_kept HB.out hW) (by have := HT.out; simp; omega) hW1.size).mono ?_
          rintro e w' ⟨he,h1,h2⟩
          exact ⟨he,Lib.hid (by rw [HL'.out]; exact h1.out),Lib.hid (hW1.trans h2.out)⟩
        obtain ⟨ws,hws⟩ : ∃ ws : ByteArray,Hid (ws = ⟨(wordL x.op).toArray⟩) := ⟨_,rfl⟩
        rw [← hws.out] at W1 W2
        obtain ⟨k0,k1,k2,k3,k4⟩ := hx
        unfold insV at W2
        rw [ho] at k0 W2
        have hlo : (o : Int) < 34 := by omega
        subst ea
        clear HL' HB HT hsn hmem hlx hws hS hwx
        have kb1 : Below wr.heap.size wr (wr.alloc (.cells #[.int .i64 o,.int .i64 x.a,.int .i64 x.b,.int .i64 x.c,.int .i64 x.imm] 37)) := (Below.refl _ wr).alloc (Nat.le_refl _) _
        have kb2 := kb1.drew
        have hq0 := W1 _ kb1
        clear kb hcx
        go_upto_block 1 with fail
        go_cut [9] from 23 to 32 (fun _ wy => Hid (Lib.IsBuilder 45 5 w1.heap.size w1.heap.size (Lib.byteCells (textL V.fp (l.take (k + 1)))) wy) ∧ Hid (Below w1.heap.size w1 wy))
        case first =>
          go_wp2_with fail
          go_region_with (first
            | (go_at_call 21; refine (W2 _ (by first | exact kb2 | exact kb1) _ rfl).mono ?_; rintro e w3 ⟨aa,cc,nn,rfl,b3,hL3⟩; have hB3 : Below wr.heap.size wr w3 := kb2.trans (b3.mono kb2.size); have q0 := W1 w3 hB3; have q1 : w3.cell? ⟨wr.heap.size,0,none⟩ = some (.int .i64 o) := (b3.cell (by simp)).trans (by simp [go_sem]))
            | (go_at_call 20; refine (hL3.out _ (Below.refl _ _) _ rfl).mono ?_; rintro e w4 ⟨rfl,rfl⟩)
            | (go_at_call 19; refine (W3 _ hB3).mono ?_; rintro e w5 ⟨rfl,g1,g2⟩))
          all_goals (go_wp2_with fail; go_meet; exact ⟨g1,g2⟩)
        case rest =>
          obtain ⟨g1,g2⟩ := hcut
          have hb' := g2.out
          go_wp2_with fail
          first
            | exact ⟨⟨k + 1,by go_num,by omega,g1,HT',hb'⟩,by simp [intOf]; omega⟩
            | (go_roundw
               case rel => exact ⟨k + 1,by go_num,by omega,g1,HT',hb'⟩
               case measure => simp [intOf]; omega)
      · have hltd : decide ((k : Int) < (n : Int)) = false := by simp; omega
        have ek : k = n := by omega
        have HS : Hid (∀ W,W = wr → Calls Tryz.prog 22 #[.pointer (some ⟨w1.heap.size,0,none⟩)] W fun e w' => e = .returned (.string T) ∧ Below w1.heap.size wr w') := Lib.hid (fun W hW => by
          subst hW
          have h := Tryz.Builder_String_any w1.heap.size w1.heap.size (textL V.fp l) W (by have := HB.out; rw [ek,← hn.out,List.take_length] at this; exact this) hsz
          rw [← hT.out] at h
          exact h)
        have HS' := HS.out wr rfl
        clear HB HT ek HS hBld
        go_wp2_with fail
        refine HS'.mono ?_
        rintro e w9 ⟨rfl,b9⟩
        go_wp2_with fail
        go_ret3
        have b10 : Below w1.heap.size w1 w9 := hb.trans b9
        exact ⟨rfl,b1.trans (b10.mono b1.size)⟩
  · have e1 : printA V.fp l = ([],(mayL l 8).1,(mayL l 8).2) := by unfold printA; rw [if_neg hz]
    rw [e1]
    have dz : ((mayL l 8).1 == 0) = false := by simpa using hz
    generalize (mayL l 8).1 = E at *
    generalize (mayL l 8).2 = P at *
    clear e1 hP A hf hz
    go_enter Tryz.func11,Tryz.ntmps11
    go_wp2_with fail
    refine hm.mono ?_
    rintro e w1 ⟨rfl,b1⟩
    go_wp2_with fail
    go_ret3
    exact ⟨rfl,b1⟩
end Go.Proofs.YtalaajniammggaaGreatDoor
