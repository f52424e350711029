/- The lines of a text. -/
import Derived.Test.YtalaajniammggaaGreatDoorXRc
import Derived.Test.YtalaajniammggaaGreatDoorXAg
import Derived.Test.YtalaajniammggaaGreatDoorXRb
import Derived.OwnWalk
import Derived.Test.YtalaajniammggaaGreatDoorXRf
namespace Go.Proofs.YtalaajniammggaaGreatDoor
open Go.RowKit
end Go.Proofs.YtalaajniammggaaGreatDoor

/- A copy changed in one place; what the second text shows. -/
namespace Go.Proofs.YtalaajniammggaaGreatDoor
open Go.RowKit
theorem addr_add (b off j : Nat) : (⟨b,off,none⟩ : Addr).add j = ⟨b,off + j,none⟩ := by
 unfold Addr.add
 split
 ·rename_i h; subst h; rfl
 ·rfl
theorem insAt_cells {w : World} {b o : Nat} {x : Ins} (h : InsAt w b o x) (r : Nat) (hr : r < 5) : w.cell? ⟨b,o + r,none⟩ = (insCells x)[r]? := by
 have : r = 0 ∨ r = 1 ∨ r = 2 ∨ r = 3 ∨ r = 4 := by omega
 rcases this with rfl | rfl | rfl | rfl | rfl
 ·exact h.c0
 ·exact h.c1
 ·exact h.c2
 ·exact h.c3
 ·exact h.c4
theorem prg_cells {w : World} {a : Option Addr} {l : List Ins} (h : Prg w a l) : ∀ ad,a = some ad → ∀ j u,(pCells l)[j]? = some u → w.cell? (ad.add j) = some u := by
 intro ad ha j u hu
 have hj : j < (pCells l).length := by
  rcases Nat.lt_or_ge j (pCells l).length with h | h
  ·exact h
  ·rw [List.getElem?_eq_none h] at hu; cases hu
 rw [pCells_len] at hj
 obtain ⟨b,off,e,hc⟩ := h (j / 5) (by omega)
 rw [ha] at e
 obtain rfl := Option.some.inj e
 have h1 := insAt_cells hc (j % 5) (by omega)
 have h2 := pCells_at l (j / 5) (j % 5) (by omega) (by omega)
 rw [show j / 5 * 5 + j % 5 = j by omega] at h2
 rw [addr_add,show off + j = off + j / 5 * 5 + j % 5 by omega,h1,← h2,hu]
theorem pCells_one (l : List Ins) : ∀ u ∈ pCells l,u.oneCell' = true := by
 intro u hu
 simp only [pCells,List.mem_flatMap] at hu
 obtain ⟨x,_,hx⟩ := hu
 simp only [insCells,List.mem_cons,List.not_mem_nil,or_false] at hx
 rcases hx with rfl | rfl | rfl | rfl | rfl <;> rfl
def set5 (xs : List Value) (k : Nat) (x : Ins) : List Value := ((((xs.set k (.int .i64 x.op)).set (k + 1) (.int .i64 x.a)).set (k + 2) (.int .i64 x.b)).set (k + 3) (.int .i64 x.c)).set (k + 4) (.int .i64 x.imm)
def put5 (w : World) (g k : Nat) (x : Ins) : World := ((((w.setCell ⟨g,k,none⟩ (.int .i64 x.op)).setCell ⟨g,k + 1,none⟩ (.int .i64 x.a)).setCell ⟨g,k + 2,none⟩ (.int .i64 x.b)).setCell ⟨g,k + 3,none⟩ (.int .i64 x.c)).setCell ⟨g,k + 4,none⟩ (.int .i64 x.imm)
theorem stored5 {w : World} {B g n cap : Nat} {e : TypeId} {s : Nat} {xs : List Value} (h : w.ownsRow B e s (.slice (some ⟨g,0,none⟩) n cap) n xs) (k : Nat) (x : Ins) :
  (put5 w g k x).ownsRow B e s (.slice (some ⟨g,0,none⟩) n cap) n (set5 xs k x) ∧ w.grownBy (put5 w g k x) (some g) := by
 have s1 := h.stored k (.int .i64 x.op)
 have s2 := s1.1.stored (k + 1) (.int .i64 x.a)
 have s3 := s2.1.stored (k + 2) (.int .i64 x.b)
 have s4 := s3.1.stored (k + 3) (.int .i64 x.c)
 have s5 := s4.1.stored (k + 4) (.int .i64 x.imm)
 refine ⟨s5.1,?_⟩
 have tr : ∀ {a b c : World},a.grownBy b (some g) → b.grownBy c (some g) → a.grownBy c (some g) := fun {a b c} p q =>
  ⟨q.os.trans p.os,q.tape.trans p.tape,q.output.trans p.output,Nat.le_trans p.size q.size,fun i hi hne => by rw [q.block i (Nat.lt_of_lt_of_le hi p.size) hne,p.block i hi hne]⟩
 exact tr (tr (tr (tr s1.2 s2.2) s3.2) s4.2) s5.2
theorem own_some5 {w : World} {B e n : Nat} {v : Value} {xs : List Value} (h : w.ownsRow B e 5 v n xs) (hn : 0 < n) : ∃ g cap,v = .slice (some ⟨g,0,none⟩) n cap ∧ B ≤ g := by
 rcases h.2 with ⟨rfl,rfl⟩ | ⟨g,cap,cur,rfl,hb,_⟩
 ·omega
 ·exact ⟨_,_,rfl,hb⟩
end Go.Proofs.YtalaajniammggaaGreatDoor

/- Rows of the call's own, for AsmKeeps. -/
namespace Go.Proofs.YtalaajniammggaaGreatDoor
open Go.RowKit
def m77 : Ins := ⟨77,0,0,0,0⟩
def m78 : Ins := ⟨78,0,0,0,0⟩
theorem pCells_app (l m : List Ins) : pCells l ++ pCells m = pCells (l ++ m) := by simp [pCells]
theorem drewN_ins {w : World} {b o : Nat} {x : Ins} (h : InsAt w b o x) (n : Nat) : InsAt (w.drewN n) b o x := ⟨h.c0,h.c1,h.c2,h.c3,h.c4⟩
theorem owns_drewN {w : World} {B n s : Nat} {e : TypeId} {v : Value} {xs : List Value} (h : w.ownsRow B e s v n xs) (k : Nat) : (w.drewN k).ownsRow B e s v n xs := h
theorem own_one {g n c k : Nat} (h : (Value.slice (some ⟨g,0,none⟩) n c).ownBlock = some k) : k = g := (Option.some.inj h).symm
theorem row_prog {w : World} {B n c : Nat} {ra : Option Addr} {l : List Ins} (h : w.ownsRow B 37 5 (.slice ra n c) n (pCells l)) : Prg w ra l ∧ l.length = n := by
 have hlen : l.length = n := by have := h.1; rw [pCells_len] at this; omega
 rcases h.2 with ⟨h1,h2⟩ | ⟨g,cap,cur,h1,_⟩
 ·refine ⟨fun i hi => by omega,hlen⟩
 ·simp only [Value.slice.injEq] at h1
  obtain ⟨rfl,_,rfl⟩ := h1
  exact ⟨(prg_of_owns h).1,hlen⟩
structure But (w w' : World) (r : Option Nat) : Prop where
 os : w'.os = w.os
 tape : w'.tape = w.tape
 output : w'.output = w.output
 size : w.heap.size ≤ w'.heap.size
 block : ∀ k,k < w.heap.size → some k ≠ r → w'.heap[k]? = w.heap[k]?
theorem But.refl (w : World) (r : Option Nat) : But w w r := ⟨rfl,rfl,rfl,Nat.le_refl _,fun _ _ _ => rfl⟩
theorem But.step {w0 w w' : World} {r q : Option Nat} (h : But w0 w r) (hg : w.grownBy w' q) (hr : ∀ g,q = some g → some g = r ∨ w0.heap.size ≤ g) : But w0 w' r :=
 ⟨hg.os.trans h.os,hg.tape.trans h.tape,hg.output.trans h.output,Nat.le_trans h.size hg.size,fun k hk h1 => by
  rw [hg.block k (Nat.lt_of_lt_of_le hk h.size) (fun e => by
   rcases hr k e.symm with h3 | h3
   ·exact h1 h3
   ·omega)]
  exact h.block k hk h1⟩
theorem But.below {w w0 w' : World} {r : Option Nat} (h : But w0 w' r) (hb : Below w.heap.size w w0) (h1 : ∀ k,r = some k → w.heap.size ≤ k) : Below w.heap.size w w' :=
 ⟨h.os.trans hb.os,h.tape.trans hb.tape,h.output.trans hb.output,Nat.le_trans hb.size h.size,fun k hk => by
  rw [h.block k (Nat.lt_of_lt_of_le hk hb.size) (fun e => by have := h1 k e.symm; omega)]
  exact hb.block k hk⟩
theorem owns_but {w w' : World} {r : Option Nat} {B n s : Nat} {e : TypeId} {v : Value} {xs : List Value} (h : w.ownsRow B e s v n xs) (ha : But w w' r) (h1 : ∀ k,v.ownBlock = some k → some k ≠ r) : w'.ownsRow B e s v n xs := by
 have hlt := h.lt
 obtain ⟨h2,h3⟩ := h
 refine ⟨h2,?_⟩
 rcases h3 with h3 | ⟨g,cap,cur,rfl,h4,h5,h6⟩
 ·exact .inl h3
 ·refine .inr ⟨g,cap,cur,rfl,h4,?_,h6⟩
  rw [ha.block g (hlt g rfl).2 (h1 g rfl)]
  exact h5
structure One (B : Nat) (W wr : World) (bp : Option Nat) (v : Value) (n : Nat) : Prop where
 ob : ∃ xs,wr.ownsRow B 37 5 v n xs
 ap : But W wr bp
 db : ∀ k,v.ownBlock = some k → some k = bp ∨ W.heap.size ≤ k
theorem One.grow {B : Nat} {W wr w1 : World} {bp : Option Nat} {v : Value} {nv n g c : Nat} {o : Obj} {xs : List Value} (h : One B W wr bp v nv)
  (o1 : w1.ownsRow B 37 5 (.slice (some ⟨g,0,none⟩) n c) n xs) (gr : (wr.alloc o).grownBy w1 v.ownBlock) (li : v.ownBlock = some g ∨ g = (wr.alloc o).heap.size) :
  One B W w1 bp (.slice (some ⟨g,0,none⟩) n c) n := by
 have hsz : (wr.alloc o).heap.size = wr.heap.size + 1 := by simp
 have hs := h.ap.size
 refine ⟨⟨xs,o1⟩,?_,?_⟩
 ·exact (h.ap.step (World.grownBy_alloc wr o none) (fun g hg => by cases hg)).step gr (fun k hk => h.db k hk)
 ·intro k hk
  obtain rfl := own_one hk
  rcases li with li | li
  ·exact h.db k li
  ·exact .inr (by omega)
theorem prs_own {R : List Ins × Int × Int × Int} {w : World} {e : Ending} {w' : World} (h : PrsPost R w e w') : ∃ a cap,e = .returned (.tuple #[.slice a R.1.length cap,.int .i64 R.2.1,.int .i64 R.2.2.1,.int .i64 R.2.2.2]) ∧ w'.ownsRow w.heap.size 37 5 (.slice a R.1.length cap) R.1.length (pCells R.1) ∧ Below w.heap.size w w' := by
 obtain ⟨sl,rfl,hb,h | h⟩ := h
 ·obtain ⟨hE,g,cap,rfl,ho⟩ := h
  exact ⟨_,cap,rfl,ho,hb⟩
 ·obtain ⟨hE,hn,rfl⟩ := h
  refine ⟨none,0,by rw [hn]; rfl,?_,hb⟩
  rw [hn]
  exact ⟨rfl,.inl ⟨rfl,rfl⟩⟩
end Go.Proofs.YtalaajniammggaaGreatDoor

/- AsmKeeps: the walk. -/
namespace Go.Proofs.YtalaajniammggaaGreatDoor
open Go.RowKit
set_option maxRecDepth 100000 in
set_option maxHeartbeats 8000000 in
theorem asmKeeps_walk (V : Env) (D : DEnv V) (a : Option Addr) (cap : Nat) (l : List Ins) (hlc : l.length ≤ cap) (hna : a = none → cap = 0) (hf : ∀ x ∈ l,InR x.imm) (s : ByteArray) (hs : s.size ≤ 140737488355328) (w : World) (hP : Prg w a l) (A : V.A w) :
    Calls Tryz.prog 8 #[.slice a l.length cap,.string s] w fun e w' => e = .returned (.bool true) ∧ Below w.heap.size w w' := by
  obtain ⟨i0,hi0,hz0,hz1,hz2⟩ := info_parts infoIns
  have hAw := awake_any V w A
  have hSh := fun W => cshort_any a l.length cap W hlc
  obtain ⟨m,hm⟩ : ∃ m,Hid (l.take 1048576 = m) := ⟨_,rfl⟩
  have hml : Hid (m.length = min l.length 1048576) := Lib.hid (by rw [← hm.out,List.length_take]; omega)
  have hPm : Hid (Prg w a m) := Lib.hid (by rw [← hm.out]; exact hP.take _)
  have hfm : Hid (∀ x ∈ m,InR x.imm) := Lib.hid (fun x hx => hf x (by rw [← hm.out] at hx; exact List.mem_of_mem_take hx))
  have hm20 : m.length ≤ 1048576 := by rw [hml.out]; omega
  rw [← hml.out] at hSh
  have hPr := fun (W : World) (h : Below w.heap.size w W) => print_prog V a m.length m hfm.out W (hPm.out.kept h) (V.kept A h)
  have hPw := fun (g : Nat) (W : World) (h : Below w.heap.size w W) (p : Prg W (some ⟨g,0,none⟩) m) => print_prog V (some ⟨g,0,none⟩) (m.length + 2) m hfm.out W p (V.kept A h)
  have hSw := fun (g : Nat) (W : World) (h : Below w.heap.size w W) (p : Prg W (some ⟨g,0,none⟩) m) => same_yes (some ⟨g,0,none⟩) a (m.length + 2) m.length m W (by omega) p (hPm.out.kept h)
  have h1 := fun (W : World) (h : Below w.heap.size w W) => parse_any V s hs W (V.kept A h)
  have h2 := fun (W : World) (h : Below w.heap.size w W) => rparse_prog V D s hs W (V.kept A h)
  have hl := read_len V.F s.data.toList
  have hn0 : a = none → m.length = 0 ∧ m.length = 0 := fun e => by have := hna e; rw [hml.out]; omega
  obtain ⟨R,hR⟩ : ∃ R,Hid (readP V.fp s.data.toList = R) := ⟨_,rfl⟩
  rw [hR.out] at h1 h2 hl
  obtain ⟨q,E,L,Q⟩ := R
  simp only at hl
  have hSm := fun (W' : World) (a b : Option Addr) (c1 c2 : Nat) (p1 : Prg W' a q) (p2 : Prg W' b q) => same_yes a b c1 c2 q W' (by omega) p1 p2
  obtain ⟨RP,hRP⟩ : ∃ R,Hid (printA V.fp m = R) := ⟨_,rfl⟩
  rw [hRP.out] at hPr hPw
  obtain ⟨T,E1,Q1⟩ := RP
  obtain ⟨S,hS⟩ : ∃ S : ByteArray,Hid (S = ⟨T.toArray⟩) := ⟨_,rfl⟩
  simp only at hPr hPw
  rw [← hS.out] at hPr hPw
  have dS : (S.toList == S.toList) = true := by simp
  have dS' : (S.toList != S.toList) = false := by simp
  have dE : (E1 != E1) = false := by simp
  have HL : Hid ((pCells m).length = m.length * 5) := hd (pCells_len m)
  obtain ⟨ln,hln⟩ : ∃ n,Hid (l.length = n) := ⟨_,rfl⟩
  rw [hln.out] at hSh hlc ⊢
  obtain ⟨N,hN⟩ : ∃ N,Hid (m.length = N) := ⟨_,rfl⟩
  obtain ⟨NQ,hNQ⟩ : ∃ N,Hid (q.length = N) := ⟨_,rfl⟩
  rw [hNQ.out] at hl
  simp only [hNQ.out] at hSm
  rw [hN.out] at hm20 hSh hPr hPw hSw hn0 HL
  clear hP hf hm hml hRP hS hR A hna hfm
  go_enter Tryz.func8,Tryz.ntmps8
  go_wp2_with fail
  refine hAw.mono ?_
  rintro e w1 ⟨rfl,B1⟩
  clear hAw
  have S1 := B1.size
  go_wp2_with fail
  refine (hSh _).mono ?_
  rintro e w1 ⟨rfl,rfl⟩
  clear hSh
  go_wp2_with (first
    | (at_make; refine wpList_make_own _ rfl _ _ 23 rfl w1.heap.size 37 i0 (.agg #[.int .i64 0,.int .i64 0,.int .i64 0,.int .i64 0,.int .i64 0]) 5 Tryz.underlying23 hi0 hz0 hz1 .i64 .i64 _ (N + 2) rfl rfl (by omega) (by rw [hz2]; omega) (by unfold maxLen; omega) (Nat.le_refl _) ?_; intro w2 hown2 hg2
       have B2 : Below w.heap.size w w2 := B1.grown hg2 S1 (fun k hk => by cases hk)
       have P2 := hPm.out.kept B2
       have S2 : w1.heap.size ≤ w2.heap.size := hg2.size
       clear hg2)
    | (at_builtin; refine wpList_append_fits_any _ rfl _ _ 23 rfl w1.heap.size 37 i0 5 Tryz.underlying23 hi0 hz1 w1.heap.size 0 (N + 2) [] rfl hown2 a N N (pCells m) rfl HL.out hn0 (prg_cells P2) (pCells_one m) (by omega) ?_; intro w3 hown3 hg3
       have B3 : Below w.heap.size w w3 := B2.grown hg3 B2.size (fun k hk => by cases hk; exact S1)
       have S3 := B3.size
       have S3' : w1.heap.size ≤ w3.heap.size := Nat.le_trans S2 hg3.size
       rw [List.nil_append] at hown3
       simp only [Nat.zero_add] at hown3
       clear hg3 P2 hown2)
    | (at_builtin; refine wpList_append_fits_any _ rfl _ _ 23 rfl w1.heap.size 37 i0 5 Tryz.underlying23 hi0 hz1 w1.heap.size N (N + 2) (pCells m) rfl (hown3.alloc _) (some ⟨_,0,none⟩) 2 2 (pCells [m77,m78]) rfl rfl (fun h => by cases h) (fun ad h => by cases h; exact cells_new (pCells [m77,m78]) _ rfl) (pCells_one _) (by omega) ?_; intro w4 hown4 hg4
       have B4 : Below w.heap.size w w4 := (B3.alloc S3 _).grown hg4 (by simp; omega) (fun k hk => by cases hk; exact S1)
       rw [pCells_app] at hown4
       clear hg4 hown3))
  have HP4 : Hid (Prg w4 (some ⟨w1.heap.size,0,none⟩) (m ++ [m77,m78])) := Lib.hid (row_prog hown4).1
  have HM4 : Hid (Prg w4 (some ⟨w1.heap.size,0,none⟩) m) := Lib.hid (by have := HP4.out.take m.length; rwa [List.take_left' rfl] at this)
  obtain ⟨gw,hgw⟩ : ∃ g,w1.heap.size = g := ⟨_,rfl⟩
  rw [hgw] at HP4 HM4 hown4 S1 S3' S2
  have hPw4 := hPw gw w4 B4 HM4.out
  simp only [hgw]
  clear hPw
  refine hPw4.mono ?_
  rintro e w5 ⟨rfl,b5⟩
  have B5 := B4.trans (b5.mono B4.size)
  have HP5 := Lib.hid (HP4.out.kept b5)
  have HM5 := Lib.hid (HM4.out.kept b5)
  have O5 := Lib.hid (owns_below hown4 b5)
  have hSw5 := hSw gw w5 B5 HM5.out
  clear hPw4 hown4 HP4 HM4 hSw b5
  go_wp2_with fail
  refine hSw5.mono ?_
  rintro e w6 ⟨rfl,n6,hw6⟩
  have k1 : InsAt w6 gw (N * 5) m77 := by
    rw [hw6]
    obtain ⟨b,off,e,h⟩ := HP5.out m.length (by simp)
    simp at e
    obtain ⟨rfl,rfl⟩ := e
    rw [← hN.out]
    exact drewN_ins (by simpa [List.getD_eq_getElem?_getD] using h) n6
  have k2 : InsAt w6 gw ((N + 1) * 5) m78 := by
    rw [hw6]
    obtain ⟨b,off,e,h⟩ := HP5.out (m.length + 1) (by simp)
    simp at e
    obtain ⟨rfl,rfl⟩ := e
    rw [← hN.out]
    exact drewN_ins (by simpa [List.getD_eq_getElem?_getD] using h) n6
  have B6 : Below w.heap.size w w6 := by rw [hw6]; exact below_drewN B5 n6
  have O6 : Hid (w6.ownsRow gw 37 5 (.slice (some ⟨gw,0,none⟩) (N + 2) (N + 2)) (N + 2) (pCells (m ++ [m77,m78]))) := Lib.hid (by rw [hw6]; exact owns_drewN O5.out n6)
  clear hw6 O5 HP5 HM5 hSw5 B5
  obtain ⟨x0,x1,x2,x3,x4⟩ := k1
  obtain ⟨y0,y1,y2,y3,y4⟩ := k2
  simp only [m77,m78] at x0 x1 x2 x3 x4 y0 y1 y2 y3 y4
  go_wp2_with fail
  clear x0 x1 x2 x3 x4 y0 y1 y2 y3 y4
  go_loopw [10,80] (fun _ v80 wr => ∃ (i : Nat) (xs : List Value),v80 = .int .i64 i ∧ i ≤ N ∧ Hid (wr.ownsRow gw 37 5 (.slice (some ⟨gw,0,none⟩) (N + 2) (N + 2)) (N + 2) xs) ∧ Below w.heap.size w wr) (fun _ v80 _ => N - (intOf v80).toNat)
  case atStart => exact ⟨0,_,rfl,Nat.zero_le _,O6,B6⟩
  case round =>
    clear O6 B6
    obtain ⟨i,xs,rfl,hi,OR,BR⟩ := hrel
    by_cases hlt : i < N
    · have hlt' : (i : Int) < (N : Int) := by omega
      have hxl := OR.out.1
      have key : ∀ r,r < 5 → ∃ u,wr.cell? ⟨gw,i * 5 + r,none⟩ = some u := fun r hr => ⟨xs[i * 5 + r]'(by omega),by rw [OR.out.cellAt _ (by omega),List.getElem?_eq_getElem (by omega)]⟩
      obtain ⟨u0,c0⟩ := key 0 (by omega)
      obtain ⟨u1,c1⟩ := key 1 (by omega)
      obtain ⟨u2,c2⟩ := key 2 (by omega)
      obtain ⟨u3,c3⟩ := key 3 (by omega)
      obtain ⟨u4,c4⟩ := key 4 (by omega)
      have f0 := OR.out.frozenAt (i * 5)
      have f1 := OR.out.frozenAt (i * 5 + 1)
      have f2 := OR.out.frozenAt (i * 5 + 2)
      have f3 := OR.out.frozenAt (i * 5 + 3)
      have f4 := OR.out.frozenAt (i * 5 + 4)
      rw [Nat.add_zero] at c0
      clear key hxl
      go_wp2_with fail
      have s5 := stored5 OR.out (i * 5) ⟨5,0,0,0,0⟩
      go_roundw
      case rel => exact ⟨i + 1,_,by go_num,by omega,hd s5.1,BR.grown s5.2 BR.size (fun k hk => by cases hk; exact S1)⟩
      case measure => simp [intOf]; omega
    · have hltd : decide ((i : Int) < (N : Int)) = false := by simp; omega
      clear OR
      go_wp2_with fail
      clear hlt hltd hi
      refine (hPr _ BR).mono ?_
      rintro e w7 ⟨rfl,b7⟩
      have B7 := BR.trans (b7.mono BR.size)
      clear hPr b7
      go_wp2_with fail
      refine (h1 _ B7).mono ?_
      intro e w8 hp
      obtain ⟨a8,c8,rfl,O8,b8⟩ := prs_own hp
      simp only [hNQ.out] at O8
      simp only [hNQ.out]
      have B8 := B7.trans (b8.mono B7.size)
      have H8 := Lib.hid O8
      have lo8 := Lib.hid (fun k hk => O8.lt k hk)
      clear hp O8
      go_wp2_with fail
      refine (h1 _ B8).mono ?_
      intro e w9 hp
      obtain ⟨a9,c9,rfl,O9,b9⟩ := prs_own hp
      simp only [hNQ.out] at O9
      simp only [hNQ.out]
      have B9 := B8.trans (b9.mono B8.size)
      have H9 := Lib.hid O9
      have lo9 := Lib.hid (fun k hk => (O9.lt k hk).1)
      clear hp O9 h1
      go_wp2_with fail
      refine (h2 _ B9).mono ?_
      intro e wa hp
      obtain ⟨aa,ca,rfl,Oa,ba⟩ := prs_own hp
      simp only [hNQ.out] at Oa
      simp only [hNQ.out]
      have Ba := B9.trans (ba.mono B9.size)
      have Ha := Lib.hid Oa
      have loa := Lib.hid (fun k hk => Nat.le_trans b9.size (Oa.lt k hk).1)
      clear hp Oa h2
      replace H9 := hd (owns_below H9.out ba)
      replace H8 := hd (owns_below (owns_below H8.out b9) ba)
      have p1 := hSm wa a8 aa c8 ca (row_prog H8.out).1 (row_prog Ha.out).1
      go_wp2_with fail
      refine p1.mono ?_
      rintro e wb ⟨rfl,nb,hwb⟩
      have Bb : Below w.heap.size w wb := by rw [hwb]; exact below_drewN Ba nb
      replace H8 : Hid (wb.ownsRow w7.heap.size 37 5 (.slice a8 NQ c8) NQ (pCells q)) := hd (by rw [hwb]; exact owns_drewN H8.out nb)
      replace H9 : Hid (wb.ownsRow w8.heap.size 37 5 (.slice a9 NQ c9) NQ (pCells q)) := hd (by rw [hwb]; exact owns_drewN H9.out nb)
      replace Ha : Hid (wb.ownsRow w9.heap.size 37 5 (.slice aa NQ ca) NQ (pCells q)) := hd (by rw [hwb]; exact owns_drewN Ha.out nb)
      have p2 := hSm wb a9 aa c9 ca (row_prog H9.out).1 (row_prog Ha.out).1
      have S7b : w7.heap.size ≤ wb.heap.size := by rw [hwb]; exact Nat.le_trans b8.size (Nat.le_trans b9.size ba.size)
      clear p1 hwb Ba B9 B8 b8 b9 ba
      go_wp2_with fail
      refine p2.mono ?_
      rintro e W ⟨rfl,nc,hW⟩
      have BW : Below w.heap.size w W := by rw [hW]; exact below_drewN Bb nc
      replace H8 : Hid (W.ownsRow w7.heap.size 37 5 (.slice a8 NQ c8) NQ (pCells q)) := hd (by rw [hW]; exact owns_drewN H8.out nc)
      replace H9 : Hid (W.ownsRow w8.heap.size 37 5 (.slice a9 NQ c9) NQ (pCells q)) := hd (by rw [hW]; exact owns_drewN H9.out nc)
      replace Ha : Hid (W.ownsRow w9.heap.size 37 5 (.slice aa NQ ca) NQ (pCells q)) := hd (by rw [hW]; exact owns_drewN Ha.out nc)
      have S78 : w7.heap.size ≤ W.heap.size := by rw [hW]; exact S7b
      clear p2 hW Bb S7b
      obtain ⟨bp,hbp⟩ : ∃ bp,Hid ((Value.slice a8 NQ c8).ownBlock = bp) := ⟨_,rfl⟩
      have S7 := B7.size
      have SW := BW.size
      go_wp2_with fail
      go_loopw [26,137] (fun _ v137 wr => ∃ (i : Nat) (xs : List Value),v137 = .int .i64 i ∧ i ≤ NQ ∧ Hid (wr.ownsRow w7.heap.size 37 5 (.slice a8 NQ c8) NQ xs) ∧ Hid (But W wr bp)) (fun _ v137 _ => NQ - (intOf v137).toNat)
      case atStart => exact ⟨0,_,rfl,Nat.zero_le _,H8,hd (But.refl _ _)⟩
      case round =>
        clear H8
        obtain ⟨i,xs,rfl,hi,OG,AG⟩ := hrel
        by_cases hlt : i < NQ
        · have hlt' : (i : Int) < (NQ : Int) := by omega
          obtain ⟨g,c',e,_⟩ := own_some5 OG.out (by omega)
          simp only [Value.slice.injEq] at e
          obtain ⟨rfl,-,rfl⟩ := e
          have hxl := OG.out.1
          have key : ∀ r,r < 5 → ∃ u,wr.cell? ⟨g,i * 5 + r,none⟩ = some u := fun r hr => ⟨xs[i * 5 + r]'(by omega),by rw [OG.out.cellAt _ (by omega),List.getElem?_eq_getElem (by omega)]⟩
          obtain ⟨u0,c0⟩ := key 0 (by omega)
          obtain ⟨u1,c1⟩ := key 1 (by omega)
          obtain ⟨u2,c2⟩ := key 2 (by omega)
          obtain ⟨u3,c3⟩ := key 3 (by omega)
          obtain ⟨u4,c4⟩ := key 4 (by omega)
          have f0 := OG.out.frozenAt (i * 5)
          have f1 := OG.out.frozenAt (i * 5 + 1)
          have f2 := OG.out.frozenAt (i * 5 + 2)
          have f3 := OG.out.frozenAt (i * 5 + 3)
          have f4 := OG.out.frozenAt (i * 5 + 4)
          rw [Nat.add_zero] at c0
          clear key hxl
          go_wp2_with fail
          have s5 := stored5 OG.out (i * 5) ⟨99,0,0,0,0⟩
          go_roundw
          case rel => exact ⟨i + 1,_,by go_num,by omega,hd s5.1,hd (AG.out.step s5.2 (fun k hk => .inl (by rw [← hbp.out,← hk]; rfl)))⟩
          case measure => simp [intOf]; omega
        · have hltd : decide ((i : Int) < (NQ : Int)) = false := by simp; omega
          go_wp2_with fail
          clear hlt hltd hi
          have GG : Hid (One w7.heap.size W wr bp (.slice a8 NQ c8) NQ) := hd ⟨⟨_,OG.out⟩,AG.out,fun k hk => .inl (by rw [← hbp.out,hk])⟩
          have hbw : Hid (∀ k,bp = some k → w.heap.size ≤ k) := hd (fun k hk => Nat.le_trans S7 (lo8.out k (hbp.out.trans hk)).1)
          have k9 : Hid (∀ k,(Value.slice a9 NQ c9).ownBlock = some k → some k ≠ bp) := hd (fun k hk e => by
            have h1 := lo9.out k hk
            have h2 := (lo8.out k (hbp.out.trans e.symm)).2
            omega)
          have ka : Hid (∀ k,(Value.slice aa NQ ca).ownBlock = some k → some k ≠ bp) := hd (fun k hk e => by
            have h1 := loa.out k hk
            have h2 := (lo8.out k (hbp.out.trans e.symm)).2
            omega)
          clear OG AG lo8 lo9 loa
          go_loopw [14,145] (fun v14 v145 wx => ∃ (i c : Nat) (ra : Option Addr),v145 = .int .i64 i ∧ i ≤ 40 ∧ v14 = .slice ra (NQ + i) c ∧ Hid (One w7.heap.size W wx bp (.slice ra (NQ + i) c) (NQ + i))) (fun _ v145 _ => 40 - (intOf v145).toNat)
          case atStart => exact ⟨0,_,_,rfl,by omega,rfl,GG⟩
          case round =>
            clear GG
            obtain ⟨i,c,ra,rfl,hi,rfl,GR⟩ := hrel
            by_cases hlt : i < 40
            · have hlt' : (i : Int) < 40 := by omega
              obtain ⟨ys,ob⟩ := GR.out.ob
              have sr := GR.out.ap.size
              have sw : w7.heap.size ≤ W.heap.size := S78
              go_wp2_with (first
                | (at_builtin; refine wpList_append_lies _ rfl _ _ 23 rfl w7.heap.size 37 i0 (.agg #[.int .i64 0,.int .i64 0,.int .i64 0,.int .i64 0,.int .i64 0]) 5 40 Tryz.underlying23 hi0 hz0 hz1 hz2 rfl (by decide) (.slice ra (NQ + i) c) _ _ rfl (ob.alloc _) ⟨_,0,none⟩ 1 1 (insCells ⟨98,0,0,0,0⟩) rfl rfl (cells_new (insCells ⟨98,0,0,0,0⟩) _ (by simp)) (by simp [insCells,Value.oneCell']) (by decide) (by unfold maxLen; omega) (by omega) (by simp; omega) _ rfl ?_
                   intro g4 c4 w4' o4 gr4 li4 lt4
                   have G2 := hd (GR.out.grow o4 gr4 li4)
                   clear o4 gr4 li4 lt4 ob))
              go_roundw
              case rel => exact ⟨i + 1,c4,_,by go_num,by omega,rfl,G2⟩
              case measure => simp [intOf]; omega
            · obtain rfl : i = 40 := by omega
              have ap := GR.out.ap
              have B8 := ap.below BW hbw.out
              have r9 := owns_but H9.out ap k9.out
              have rb := owns_but Ha.out ap ka.out
              have p3 := hSm _ a9 aa c9 ca (row_prog r9).1 (row_prog rb).1
              have dN : ((NQ : Int) + 40 == (NQ : Int) + 40) = true := by simp
              clear r9 rb ap GR H9 Ha k9 ka hbw
              go_wp2_with fail
              refine p3.mono ?_
              rintro e wz ⟨rfl,nz,rfl⟩
              go_wp2_with fail
              go_ret
              exact ⟨rfl,below_drewN B8 nz⟩
end Go.Proofs.YtalaajniammggaaGreatDoor
