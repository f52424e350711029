/- The document's whole numbers of any size: sum, less. -/
import Derived.Test.YtalaajniammggaaGreatDoorXVa
import Derived.Test.YtalaajniammggaaGreatDoorXMb
import Derived.Deep.AppendLies
import Derived.OneCell
namespace Go.Proofs.YtalaajniammggaaGreatDoor
open Go.RowKit
theorem val_take_step (l : List Nat) (k : Nat) : val (l.take (k + 1)) = val (l.take k) + BB ^ k * l.getD k 0 := by
 by_cases h : k < l.length
 ·exact val_take_succ l k h
 ·have e1 : l.take (k + 1) = l := List.take_of_length_le (by omega)
  have e2 : l.take k = l := List.take_of_length_le (by omega)
  have e3 : l.getD k 0 = 0 := by simp [List.getD,Nat.le_of_not_lt h]
  rw [e1,e2,e3]; simp
def At (w : World) (ao : Option Addr) (l : List Nat) : Prop := l.length ≠ 0 → ∃ b o,ao = some ⟨b,o,none⟩ ∧ ∀ i,i < l.length → w.cell? ⟨b,o + i,none⟩ = some (.int .u32 (l.getD i 0 : Nat))
end Go.Proofs.YtalaajniammggaaGreatDoor

/- The document's whole numbers of any size: less. -/
namespace Go.Proofs.YtalaajniammggaaGreatDoor
open Go.RowKit
set_option maxRecDepth 100000 in
set_option maxHeartbeats 2000000 in
theorem less_any (va vb : Value) (A B : Nat) (hA : A < BB ^ 400) (hAB : B ≤ A) (w : World) (h : Num w va A) (h' : Num w vb B) :
  Calls Tryz.prog 120 #[va,vb] w fun e w' => ∃ v',e = .returned v' ∧ Num w' v' (A - B) ∧ Below w.heap.size w w' := by
 obtain ⟨i0,hi,hz0,hz1,hz2⟩ := info_parts info70
 obtain ⟨l,⟨ao,cap,rfl,h1,h2,h3,h4⟩,hno,hva⟩ := h
 obtain ⟨m,⟨bo,bap,rfl,g1,g2,g3,g4⟩,gno,gva⟩ := h'
 have hl := norm_len l hno 400 (by rw [hva]; exact hA)
 have hm : m.length ≤ l.length := norm_len m gno _ (by
  have := val_lt l h3
  omega)
 obtain ⟨p,hp⟩ : ∃ a,l.length = a := ⟨_,rfl⟩
 obtain ⟨q,hq⟩ : ∃ a,m.length = a := ⟨_,rfl⟩
 rw [hp] at h1 hl hm ⊢
 rw [hq] at g1 hm ⊢
 have H4 : Hid (At w ao l) := Lib.hid h4
 have G4 : Hid (At w bo m) := Lib.hid g4
 have HP := Lib.hid (And.intro hp hq)
 have HD := Lib.hid (And.intro h3 g3)
 have HV := Lib.hid (And.intro hva gva)
 clear hp hq h3 g3 hva gva h4 g4 hno gno
 go_enter Tryz.func120,Tryz.ntmps120
 go_wp2_with fail
 go_loopw [5,6,7] (fun x c i wr => ∃ (k d : Nat) (L : List Nat),k ≤ p ∧ i = .int .i64 k ∧ c = .int .i64 (-(d : Int)) ∧ d ≤ 1 ∧ wr.ownsRow w.heap.size 120 1 x k (u32s L) ∧ Hid (L.length = k ∧ Dig L ∧ val L + val (m.take k) = val (l.take k) + BB ^ k * d) ∧ Below w.heap.size w wr) (fun _ _ i _ => p - (intOf i).toNat)
 case atStart => exact ⟨0,0,[],by omega,rfl,rfl,by decide,own_empty w,Lib.hid ⟨rfl,fun y hy => by simp at hy,by simp [val]⟩,(Below.refl _ w).alloc (Nat.le_refl _) _⟩
 case round =>
  obtain ⟨k,d,L,hk,rfl,rfl,hC,hown,HI,hb⟩ := hrel
  have hsz := hb.size
  rename World => wr
  by_cases ha : k < p
  ·obtain ⟨x,hx⟩ : ∃ x,x = l.getD k 0 := ⟨_,rfl⟩
   obtain ⟨y,hy⟩ : ∃ x,x = m.getD k 0 := ⟨_,rfl⟩
   have hxB : x < 4294967296 := by rw [hx]; exact dig_getD l HD.out.1 k
   have hyB : y < 4294967296 := by rw [hy]; exact dig_getD m HD.out.2 k
   have hst := less_step (val L) (val (l.take k)) (val (m.take k)) d x y k hC hxB hyB HI.out.2.2
   rw [hx,hy,← val_take_step,← val_take_step,← hx,← hy] at hst
   have HST := Lib.hid hst
   obtain ⟨D,hD⟩ : ∃ D,D = (x + BB - y - d) % BB := ⟨_,rfl⟩
   obtain ⟨d',hd'⟩ : ∃ D,D = if x < y + d then 1 else 0 := ⟨_,rfl⟩
   have hd1 : D < BB := by rw [hD]; exact Nat.mod_lt _ (by decide)
   have hd2 : d' ≤ 1 := by rw [hd']; split <;> omega
   have HDC := Lib.hid (And.intro hD hd')
   obtain ⟨b1,o1,rfl,c1⟩ := H4.out (by have := HP.out.1; omega)
   have k1 : wr.cell? ⟨b1,o1 + k,none⟩ = some (.int .u32 (x : Nat)) := by
    have h := c1 k (by have := HP.out.1; omega)
    rw [hx]
    exact (hb.cell (World.block_lt_of_cell? w _ h)).trans h
   have ha' : (k : Int) < (p : Int) := by omega
   clear c1
   by_cases hbq : k < q
   ·obtain ⟨b2,o2,rfl,c2⟩ := G4.out (by have := HP.out.2; omega)
    have k2 : wr.cell? ⟨b2,o2 + k,none⟩ = some (.int .u32 (y : Nat)) := by
     have h := c2 k (by have := HP.out.2; omega)
     rw [hy]
     exact (hb.cell (World.block_lt_of_cell? w _ h)).trans h
    have hb' : (k : Int) < (q : Int) := by omega
    have e1 : IntKind.u32.wrap (-(d : Int) + (x : Int) - (y : Int)) = (D : Int) := by
     rw [hD,IntKind.wrap_u32]; unfold BB; omega
    have e2 : (-(d : Int) + (x : Int) - (y : Int)) / 4294967296 = -(d' : Int) := by rw [hd']; split <;> omega
    clear c2 hst hx hy hD hd'
    go_wp2_with (at_builtin; refine wpList_append_own _ rfl _ _ 141 rfl w.heap.size 120 i0 (.int .u32 0) 1 4 Tryz.underlying141 hi hz0 hz1 hz2 rfl (by decide) _ _ _ rfl (hown.alloc _) ⟨_,0,none⟩ 1 1 [.int .u32 (D : Int)] rfl rfl (cell_one_new _ _ _) (by simp [Value.oneCell']) (by unfold maxLen; omega) (by omega) (by simp; omega) ?_; intro v1 w1 hown1 hgrow1 hx1)
    rw [u32s_snoc] at hown1
    have hb1 : Below w.heap.size w w1 := (hb.alloc hsz _).grown hgrow1 (by simp; omega) (fun j hj => (hown.lt j hj).1)
    go_roundw
    case rel =>
     refine ⟨k + 1,d',L ++ [D],by omega,by go_num,rfl,hd2,hown1,Lib.hid ⟨by simp [HI.out.1],dig_snoc L D HI.out.2.1 hd1,?_⟩,hb1⟩
     rw [val_snoc,HI.out.1,HDC.out.1,HDC.out.2]
     exact HST.out
    case measure => simp [intOf]; omega
   ·have hb' : decide ((k : Int) < (q : Int)) = false := by simp; omega
    have hy0 : y = 0 := by rw [hy]; simp [List.getD,show m.length ≤ k by have := HP.out.2; omega]
    have e1 : IntKind.u32.wrap (-(d : Int) + (x : Int)) = (D : Int) := by
     rw [hD,hy0,IntKind.wrap_u32]; unfold BB; omega
    have e2 : (-(d : Int) + (x : Int)) / 4294967296 = -(d' : Int) := by rw [hd',hy0]; split <;> omega
    clear hst hx hy hD hd' hy0
    go_wp2_with (at_builtin; refine wpList_append_own _ rfl _ _ 141 rfl w.heap.size 120 i0 (.int .u32 0) 1 4 Tryz.underlying141 hi hz0 hz1 hz2 rfl (by decide) _ _ _ rfl (hown.alloc _) ⟨_,0,none⟩ 1 1 [.int .u32 (D : Int)] rfl rfl (cell_one_new _ _ _) (by simp [Value.oneCell']) (by unfold maxLen; omega) (by omega) (by simp; omega) ?_; intro v1 w1 hown1 hgrow1 hx1)
    rw [u32s_snoc] at hown1
    have hb1 : Below w.heap.size w w1 := (hb.alloc hsz _).grown hgrow1 (by simp; omega) (fun j hj => (hown.lt j hj).1)
    go_roundw
    case rel =>
     refine ⟨k + 1,d',L ++ [D],by omega,by go_num,rfl,hd2,hown1,Lib.hid ⟨by simp [HI.out.1],dig_snoc L D HI.out.2.1 hd1,?_⟩,hb1⟩
     rw [val_snoc,HI.out.1,HDC.out.1,HDC.out.2]
     exact HST.out
    case measure => simp [intOf]; omega
  ·have hkp : k = p := by omega
   subst hkp
   have ha' : decide ((k : Int) < (k : Int)) = false := by simp
   have hfin : val L = A - B := by
    have h := HI.out.2.2
    rw [List.take_of_length_le (show m.length ≤ k by have := HP.out.2; omega),List.take_of_length_le (show l.length ≤ k by have := HP.out.1; omega),HV.out.1,HV.out.2] at h
    have hlt := val_lt L HI.out.2.1
    rw [HI.out.1] at hlt
    have hd0 : d = 0 ∨ d = 1 := by omega
    rcases hd0 with rfl | rfl
    ·omega
    ·rw [Nat.mul_one] at h; omega
   have HF := Lib.hid hfin
   have hrow := row_own hown HI.out.1 HI.out.2.1
   have hT := trim_any _ L (by rw [HI.out.1]; omega) wr hrow
   clear hfin hrow
   go_wp2_with fail
   refine hT.mono ?_
   rintro e w2 ⟨v',l',rfl,rfl,r1,r2,r3⟩
   go_wp2
   go_ret
   exact ⟨v',rfl,⟨l',r1,r3,by rw [r2]; exact HF.out⟩,hb⟩
end Go.Proofs.YtalaajniammggaaGreatDoor

/- The document's whole numbers of any size: bits, small. -/
namespace Go.Proofs.YtalaajniammggaaGreatDoor
open Go.RowKit
end Go.Proofs.YtalaajniammggaaGreatDoor

/- Two rows of the call's own behind two variables. -/
namespace Go.Proofs.YtalaajniammggaaGreatDoor
open Go.RowKit
structure Var (B : Nat) (w : World) (R g c : Nat) (L : List Nat) : Prop where
 cell : w.cell? ⟨R,0,none⟩ = some (.slice (some ⟨g,0,none⟩) L.length c)
 soft : w.frozen? ⟨R,0,none⟩ = false
 own : w.ownsRow B 120 1 (.slice (some ⟨g,0,none⟩) L.length c) L.length (u32s L)
 base : B ≤ R
structure St (B : Nat) (w : World) (Q g c : Nat) (L : List Nat) (S h d : Nat) (M : List Nat) : Prop where
 vq : Var B w Q g c L
 vs : Var B w S h d M
 ne : g ≠ h ∧ g ≠ Q ∧ g ≠ S ∧ h ≠ Q ∧ h ≠ S ∧ Q ≠ S
theorem Var.drew {B : Nat} {w : World} {R g c : Nat} {L : List Nat} (v : Var B w R g c L) : Var B w.drew R g c L := ⟨v.cell,v.soft,v.own,v.base⟩
theorem St.drew {B : Nat} {w : World} {Q g c : Nat} {L : List Nat} {S h d : Nat} {M : List Nat} (s : St B w Q g c L S h d M) : St B w.drew Q g c L S h d M := ⟨s.vq.drew,s.vs.drew,s.ne⟩
theorem Var.lt {B : Nat} {w : World} {R g c : Nat} {L : List Nat} (v : Var B w R g c L) : R < w.heap.size ∧ g < w.heap.size ∧ B ≤ g :=
 ⟨World.block_lt_of_cell? w _ v.cell,(v.own.lt g rfl).2,(v.own.lt g rfl).1⟩
theorem Var.far {B : Nat} {w w' : World} {R g c : Nat} {L : List Nat} (v : Var B w R g c L) (hR : w'.heap[R]? = w.heap[R]?) (hg : w'.heap[g]? = w.heap[g]?) : Var B w' R g c L := by
 refine ⟨(World.cell?_of_block (w := w) hR).trans v.cell,(World.frozen?_of_block (w := w) hR).trans v.soft,?_,v.base⟩
 obtain ⟨h1,h2⟩ := v.own
 refine ⟨h1,?_⟩
 rcases h2 with ⟨h,_⟩ | ⟨g',cap,cur,h,r1,r2,r3⟩
 ·simp at h
 ·simp only [Value.slice.injEq,Option.some.injEq,Addr.mk.injEq,and_true,true_and] at h
  obtain ⟨rfl,rfl⟩ := h
  exact .inr ⟨g,c,cur,rfl,r1,by rw [hg]; exact r2,r3⟩
theorem St.set {B : Nat} {w : World} {Q g c : Nat} {L : List Nat} {S h d : Nat} {M : List Nat} (s : St B w Q g c L S h d M) (t z : Nat) :
  St B (w.setCell ⟨g,t,none⟩ (.int .u32 (z : Int))) Q g c (L.set t z) S h d M := by
 obtain ⟨n1,n2,n3,n4,n5,n6⟩ := s.ne
 have ho : ∀ k,k ≠ g → (w.setCell ⟨g,t,none⟩ (.int .u32 (z : Int))).heap[k]? = w.heap[k]? := fun k hk => heap_setCell_other w ⟨g,t,none⟩ k _ (fun e => hk (by simpa using e))
 have hl : (L.set t z).length = L.length := by simp
 have hu : (u32s L).set t (.int .u32 (z : Int)) = u32s (L.set t z) := by simp [u32s,List.map_set]
 refine ⟨⟨?_,?_,?_,s.vq.base⟩,s.vs.far (ho S n3.symm) (ho h n1.symm),s.ne⟩
 ·rw [hl]; exact (World.cell?_of_block (w := w) (ho Q n2.symm)).trans s.vq.cell
 ·exact (World.frozen?_of_block (w := w) (ho Q n2.symm)).trans s.vq.soft
 ·rw [hl,← hu]; exact (s.vq.own.stored t _).1
theorem St.elem {B : Nat} {w : World} {Q g c : Nat} {L : List Nat} {S h d : Nat} {M : List Nat} (s : St B w Q g c L S h d M) (t : Nat) (ht : t < L.length) :
  w.cell? ⟨g,t,none⟩ = some (.int .u32 (L.getD t 0 : Nat)) ∧ w.frozen? ⟨g,t,none⟩ = false := by
 constructor
 ·rw [s.vq.own.cellAt t (by omega)]
  simp [u32s,List.getD,ht]
 ·rcases s.vq.own.2 with ⟨h',_⟩ | ⟨g',cap',cur,h',hb,hg,_⟩
  ·simp at h'
  ·simp only [Value.slice.injEq,Option.some.injEq,Addr.mk.injEq,and_true,true_and] at h'
   obtain ⟨rfl,rfl⟩ := h'
   exact frozen_of_row w g t cur 120 hg
end Go.Proofs.YtalaajniammggaaGreatDoor
