/- Rows of digits as numbers. -/
import Derived.Test.YtalaajniammggaaGreatDoorXXa
import Derived.Test.YtalaajniammggaaGreatDoorXXh
namespace Go.Proofs.YtalaajniammggaaGreatDoor
open Go.RowKit
def dval (g : Nat → Nat) : Nat → Nat
 | 0 => 0
 | n + 1 => dval g n * 10 + (g n - 48)
def Digs (g : Nat → Nat) (n : Nat) : Prop := ∀ i,i < n → 48 ≤ g i ∧ g i ≤ 57
theorem Digs.le {g : Nat → Nat} {n m : Nat} (h : Digs g n) (hm : m ≤ n) : Digs g m := fun i hi => h i (by omega)
theorem Digs.put {g : Nat → Nat} {n i v : Nat} (h : Digs g n) (h1 : 48 ≤ v) (h2 : v ≤ 57) : Digs (fun j => if j = i then v else g j) n := fun j hj => by
 by_cases e : j = i
 ·simp only [e,if_pos]; exact ⟨h1,h2⟩
 ·simp only [if_neg e]; exact h j hj
theorem dval_lt {g : Nat → Nat} : ∀ n,Digs g n → dval g n < 10 ^ n
 | 0,_ => by simp [dval]
 | n + 1,h => by
  have := dval_lt n (h.le (by omega))
  have := h n (by omega)
  unfold dval
  rw [Nat.pow_succ]
  omega
theorem dval_ge {g : Nat → Nat} (h0 : 49 ≤ g 0) : ∀ n,1 ≤ n → 10 ^ (n - 1) ≤ dval g n
 | 0,h => by omega
 | 1,_ => by simp [dval]; omega
 | n + 2,_ => by
  have := dval_ge h0 (n + 1) (by omega)
  rw [Nat.add_sub_cancel] at this
  have e : dval g (n + 2) = dval g (n + 1) * 10 + (g (n + 1) - 48) := rfl
  rw [e,show n + 2 - 1 = n + 1 by omega,Nat.pow_succ]
  omega
theorem dval_div {g : Nat → Nat} {n : Nat} (h : Digs g (n + 1)) : dval g (n + 1) / 10 = dval g n ∧ dval g (n + 1) % 10 = g n - 48 := by
 have := h n (by omega)
 have e : dval g (n + 1) = dval g n * 10 + (g n - 48) := rfl
 omega
theorem dval_cut {g : Nat → Nat} {n : Nat} (h : Digs g n) : ∀ t,t ≤ n → dval g n / 10 ^ t = dval g (n - t)
 | 0,_ => by simp
 | t + 1,ht => by
  rw [Nat.pow_succ,← Nat.div_div_eq_div_mul,dval_cut h t (by omega)]
  obtain ⟨m,hm⟩ : ∃ m,n - t = m + 1 := ⟨n - t - 1,by omega⟩
  rw [hm,(dval_div (h.le (by omega))).1,show n - (t + 1) = m by omega]
theorem dval_first {g : Nat → Nat} {n : Nat} (h : Digs g n) (h1 : 1 ≤ n) : dval g n / 10 ^ (n - 1) = g 0 - 48 := by
 rw [dval_cut h (n - 1) (by omega),show n - (n - 1) = 1 by omega]
 simp [dval]
theorem dval_between {g : Nat → Nat} {n : Nat} (h : Digs g n) (i : Nat) (hi : i ≤ n) : dval g i * 10 ^ (n - i) ≤ dval g n ∧ dval g n < (dval g i + 1) * 10 ^ (n - i) := by
 have e := dval_cut h (n - i) (by omega)
 rw [show n - (n - i) = i by omega] at e
 have hp : 0 < 10 ^ (n - i) := Nat.pow_pos (by decide)
 constructor
 ·rw [← e]; exact Nat.div_mul_le_self _ _
 ·rw [← e]; exact Nat.lt_mul_of_div_lt (Nat.lt_succ_self _) hp
section
variable {a c : Nat → Nat} {nd L i : Nat}
theorem p10 (x y : Nat) (h : x ≤ y) : (10 : Nat) ^ (y - x) * 10 ^ x = 10 ^ y := by rw [← Nat.pow_add]; congr 1; omega
theorem less_at (ha : Digs a nd) (hc : Digs c L) (h1 : i < nd) (h2 : i < L) (e : dval a i = dval c i) (hl : a i < c i) : dval a nd * 10 ^ L < dval c L * 10 ^ nd := by
 have A := (dval_between ha (i + 1) (by omega)).2
 have C := (dval_between hc (i + 1) (by omega)).1
 have x1 := ha i h1
 have x2 := hc i h2
 have hs : dval a (i + 1) + 1 ≤ dval c (i + 1) := by
  show dval a i * 10 + (a i - 48) + 1 ≤ dval c i * 10 + (c i - 48)
  rw [e]; omega
 have s1 : dval a nd < dval c (i + 1) * 10 ^ (nd - (i + 1)) := Nat.lt_of_lt_of_le A (Nat.mul_le_mul_right _ hs)
 have s2 := Nat.mul_lt_mul_of_pos_right s1 (Nat.pow_pos (n := L) (show 0 < 10 by decide))
 have s3 := Nat.mul_le_mul_right (10 ^ nd) C
 have q1 := p10 (i + 1) nd (by omega)
 have q2 := p10 (i + 1) L (by omega)
 have e4 : dval c (i + 1) * 10 ^ (nd - (i + 1)) * 10 ^ L = dval c (i + 1) * 10 ^ (L - (i + 1)) * 10 ^ nd := by
  rw [← q2,← q1]; grind
 omega
theorem more_at (ha : Digs a nd) (hc : Digs c L) (h1 : i < nd) (h2 : i < L) (e : dval a i = dval c i) (hl : c i < a i) : dval c L * 10 ^ nd < dval a nd * 10 ^ L := less_at hc ha h2 h1 e.symm hl
theorem less_end (hc : Digs c L) (h2 : nd < L) (e : dval a nd = dval c nd) (hl : c (L - 1) ≠ 48) : dval a nd * 10 ^ L < dval c L * 10 ^ nd := by
 have C := (dval_between (hc.le (m := L - 1) (by omega)) nd (by omega)).1
 have x := hc (L - 1) (by omega)
 have e2 : dval c L = dval c (L - 1) * 10 + (c (L - 1) - 48) := by
  obtain ⟨m,rfl⟩ : ∃ m,L = m + 1 := ⟨L - 1,by omega⟩
  rfl
 have s1 : dval c nd * 10 ^ (L - nd) < dval c L := by
  rw [e2,show L - nd = L - 1 - nd + 1 by omega,Nat.pow_succ,← Nat.mul_assoc]
  omega
 have s2 := Nat.mul_lt_mul_of_pos_right s1 (Nat.pow_pos (n := nd) (show 0 < 10 by decide))
 have q := p10 nd L (by omega)
 rw [Nat.mul_assoc,q] at s2
 rw [e]; exact s2
theorem more_end (ha : Digs a nd) (h2 : L ≤ nd) (e : dval a L = dval c L) : dval c L * 10 ^ nd ≤ dval a nd * 10 ^ L := by
 have A := (dval_between ha L h2).1
 have s := Nat.mul_le_mul_right (10 ^ L) A
 have q := p10 L nd h2
 rw [Nat.mul_assoc,q,e] at s
 exact s
end
def cheatOk (k : Nat) (x : Nat × List UInt8) : Bool := decide (k = 0) || (decide (x.1 + x.2.length = k + 1) && decide (1 ≤ x.1) && decide (1 ≤ x.2.length) && decide (x.2.length ≤ 60) && (x.2.foldl (fun n c => n * 10 + (c.toNat - 48)) 0 == 5 ^ k) && x.2.all (fun c => decide (48 ≤ c.toNat) && decide (c.toNat ≤ 57)) && (x.2.getLastD 0 != 48) && decide (5 ^ k < 10 ^ x.2.length) && decide (10 ^ (x.2.length - 1) ≤ 5 ^ k))
theorem cheats_ok : (Pinned.cheatRows.zipIdx.all fun x => cheatOk x.2 x.1) = true ∧ Pinned.cheatRows.length = 61 := by decide +kernel
def gOfL (l : List UInt8) (i : Nat) : Nat := (l.getD i 0).toNat
theorem dval_list (l : List UInt8) : ∀ n,n ≤ l.length → dval (gOfL l) n = (l.take n).foldl (fun n c => n * 10 + (c.toNat - 48)) 0
 | 0,_ => by simp [dval]
 | n + 1,h => by
  rw [List.take_add_one,List.foldl_append]
  unfold dval
  rw [dval_list l n (by omega)]
  have e : l[n]? = some (l[n]'(by omega)) := List.getElem?_eq_getElem (by omega)
  rw [e]
  simp [gOfL,List.getD_eq_getElem?_getD,e]
structure Cheat (k d : Nat) (l : List UInt8) : Prop where
 sum : d + l.length = k + 1
 one : 1 ≤ d
 len1 : 1 ≤ l.length
 len : l.length ≤ 60
 val : dval (gOfL l) l.length = 5 ^ k
 digs : Digs (gOfL l) l.length
 last : gOfL l (l.length - 1) ≠ 48
 lt : 5 ^ k < 10 ^ l.length
 ge : 10 ^ (l.length - 1) ≤ 5 ^ k
theorem cheat_at {k : Nat} (h1 : 1 ≤ k) (h2 : k ≤ 60) : ∃ d l,Pinned.cheatRows[k]? = some (d,l) ∧ Cheat k d l := by
 have hk : k < Pinned.cheatRows.length := by rw [cheats_ok.2]; omega
 have h := List.all_eq_true.1 cheats_ok.1 (Pinned.cheatRows[k],k) (by
  rw [List.mem_zipIdx_iff_getElem?]
  exact List.getElem?_eq_getElem hk)
 obtain ⟨⟨d,l⟩,hx⟩ : ∃ x,x = Pinned.cheatRows[k] := ⟨_,rfl⟩
 rw [← hx] at h
 refine ⟨d,l,by rw [List.getElem?_eq_getElem hk,hx],?_⟩
 unfold cheatOk at h
 simp only [Bool.or_eq_true,Bool.and_eq_true,decide_eq_true_eq,beq_iff_eq,bne_iff_ne] at h
 rcases h with h | ⟨⟨⟨⟨⟨⟨⟨⟨a1,a2⟩,a3⟩,a4⟩,a5⟩,a6⟩,a7⟩,a8⟩,a9⟩
 ·omega
 ·refine ⟨a1,a2,a3,a4,?_,?_,?_,a8,a9⟩
  ·rw [dval_list l l.length (Nat.le_refl _),List.take_length,a5]
  ·intro i hi
   have := List.all_eq_true.1 a6 (l[i]) (List.getElem_mem hi)
   simp only [Bool.and_eq_true,decide_eq_true_eq] at this
   unfold gOfL
   rw [List.getD_eq_getElem?_getD,List.getElem?_eq_getElem hi]
   exact this
  ·unfold gOfL
   intro e
   apply a7
   rw [List.getLastD_eq_getLast?,List.getLast?_eq_getElem?]
   rw [List.getD_eq_getElem?_getD] at e
   have e3 : l[l.length - 1]? = some (l[l.length - 1]'(by omega)) := List.getElem?_eq_getElem (by omega)
   rw [e3] at e ⊢
   simp only [Option.getD_some] at e ⊢
   exact UInt8.toNat_inj.1 e
theorem cheat_less {k d : Nat} {l : List UInt8} (C : Cheat k d l) {g : Nat → Nat} {nd : Nat} (h1 : 1 ≤ nd) (h0 : 49 ≤ g 0) (hl : dval g nd * 10 ^ l.length < 5 ^ k * 10 ^ nd) :
  dval g nd * 2 ^ k < 10 ^ (nd + (d - 1)) ∧ 10 ^ (nd + (d - 1) - 1) ≤ dval g nd * 2 ^ k := by
 obtain ⟨a1,a2,a3,-,-,-,-,a8,a9⟩ := C
 have e10 : (5 : Nat) ^ k * 2 ^ k = 10 ^ k := by rw [← Nat.mul_pow]
 have p5 : 0 < 5 ^ k := Nat.pow_pos (by decide)
 have hge := dval_ge h0 nd h1
 constructor
 ·have s := Nat.mul_lt_mul_of_pos_right hl (Nat.pow_pos (n := k) (show 0 < 2 by decide))
  have e : 5 ^ k * 10 ^ nd * 2 ^ k = 10 ^ (nd + (d - 1)) * 10 ^ l.length := by
   rw [← Nat.pow_add,show nd + (d - 1) + l.length = k + nd by omega,Nat.pow_add,← e10]; grind
  rw [e,show dval g nd * 10 ^ l.length * 2 ^ k = dval g nd * 2 ^ k * 10 ^ l.length by grind] at s
  exact Nat.lt_of_mul_lt_mul_right s
 ·have s : 10 ^ (nd - 1) * 10 ^ k ≤ dval g nd * 2 ^ k * 5 ^ k := by
   rw [← e10]
   have := Nat.mul_le_mul_right (2 ^ k * 5 ^ k) hge
   rw [Nat.mul_comm (5 ^ k)]
   rw [Nat.mul_assoc]; exact this
  have s2 : dval g nd * 2 ^ k * 5 ^ k ≤ dval g nd * 2 ^ k * 10 ^ l.length := Nat.mul_le_mul_left _ (Nat.le_of_lt a8)
  have e : 10 ^ (nd - 1) * 10 ^ k = 10 ^ (nd + (d - 1) - 1) * 10 ^ l.length := by
   rw [← Nat.pow_add,← Nat.pow_add]; congr 1; omega
  rw [e] at s
  exact Nat.le_of_mul_le_mul_right (Nat.le_trans s s2) (Nat.pow_pos (by decide))
theorem cheat_more {k d : Nat} {l : List UInt8} (C : Cheat k d l) {g : Nat → Nat} {nd : Nat} (hg : Digs g nd) (h1 : 1 ≤ nd) (hl : 5 ^ k * 10 ^ nd ≤ dval g nd * 10 ^ l.length) :
  dval g nd * 2 ^ k < 10 ^ (nd + d) ∧ 10 ^ (nd + d - 1) ≤ dval g nd * 2 ^ k := by
 obtain ⟨a1,a2,a3,-,-,-,-,a8,a9⟩ := C
 have e10 : (5 : Nat) ^ k * 2 ^ k = 10 ^ k := by rw [← Nat.mul_pow]
 have hlt := dval_lt nd hg
 constructor
 ·have s : dval g nd * 2 ^ k * 10 ^ (l.length - 1) ≤ dval g nd * 2 ^ k * 5 ^ k := Nat.mul_le_mul_left _ a9
  have s2 : dval g nd * 2 ^ k * 5 ^ k < 10 ^ nd * 10 ^ k := by
   rw [← e10,Nat.mul_comm (5 ^ k),Nat.mul_assoc]
   exact Nat.mul_lt_mul_of_pos_right hlt (Nat.mul_pos (Nat.pow_pos (by decide)) (Nat.pow_pos (by decide)))
  have e : 10 ^ nd * 10 ^ k = 10 ^ (nd + d) * 10 ^ (l.length - 1) := by
   rw [← Nat.pow_add,← Nat.pow_add]; congr 1; omega
  rw [e] at s2
  exact Nat.lt_of_mul_lt_mul_right (Nat.lt_of_le_of_lt s s2)
 ·have s := Nat.mul_le_mul_right (2 ^ k) hl
  have e : 5 ^ k * 10 ^ nd * 2 ^ k = 10 ^ (nd + d - 1) * 10 ^ l.length := by
   rw [← Nat.pow_add,show nd + d - 1 + l.length = k + nd by omega,Nat.pow_add,← e10]; grind
  rw [e,show dval g nd * 10 ^ l.length * 2 ^ k = dval g nd * 2 ^ k * 10 ^ l.length by grind] at s
  exact Nat.le_of_mul_le_mul_right s (Nat.pow_pos (by decide))
theorem carry_step {D P t : Nat} (dg : Nat) (hd : D / 10 ^ t % 10 = dg) : ((D % 10 ^ t) * P / 10 ^ t + dg * P) / 10 = (D % 10 ^ (t + 1)) * P / 10 ^ (t + 1) ∧ (D % 10 ^ t) * P / 10 ^ t + dg * P = (D % 10 ^ (t + 1)) * P / 10 ^ t := by
 have hp : 0 < 10 ^ t := Nat.pow_pos (by decide)
 have e : D % 10 ^ (t + 1) = D % 10 ^ t + 10 ^ t * dg := by
  rw [Nat.pow_succ,Nat.mod_mul,hd]
 have e2 : (D % 10 ^ (t + 1)) * P / 10 ^ t = (D % 10 ^ t) * P / 10 ^ t + dg * P := by
  rw [e,show (D % 10 ^ t + 10 ^ t * dg) * P = D % 10 ^ t * P + 10 ^ t * (dg * P) by grind,Nat.add_mul_div_left _ _ hp]
 exact ⟨by rw [← e2,Nat.div_div_eq_div_mul,Nat.pow_succ],e2.symm⟩
end Go.Proofs.YtalaajniammggaaGreatDoor

/- The library's decimal in memory; trim. -/
namespace Go.Proofs.YtalaajniammggaaGreatDoor
open Go.RowKit
def Dr (B q : Nat) (w : World) (g : Nat → Nat) (nd : Nat) (dp : Int) (neg tr : Bool) : Prop :=
 ∃ xs,w.ownsRow B 178 1 (.slice (some ⟨q,0,none⟩) 804 804) 804 xs ∧ (∀ i,i < 800 → xs[i]? = some (.int .u8 (g i : Int))) ∧ xs[800]? = some (.int .i64 (nd : Int)) ∧ xs[801]? = some (.int .i64 dp) ∧ xs[802]? = some (.bool neg) ∧ xs[803]? = some (.bool tr)
section
variable {B q nd : Nat} {w : World} {g : Nat → Nat} {dp : Int} {neg tr : Bool}
theorem Dr.dig (h : Dr B q w g nd dp neg tr) (i : Nat) (hi : i < 800) : w.cell? ⟨q,i,none⟩ = some (.int .u8 (g i : Int)) := by
 obtain ⟨xs,o,h1,_⟩ := h
 rw [o.cellAt i (by omega),h1 i hi]
theorem Dr.ndc (h : Dr B q w g nd dp neg tr) : w.cell? ⟨q,800,none⟩ = some (.int .i64 (nd : Int)) := by
 obtain ⟨xs,o,_,h1,_⟩ := h
 rw [o.cellAt 800 (by omega),h1]
theorem Dr.dpc (h : Dr B q w g nd dp neg tr) : w.cell? ⟨q,801,none⟩ = some (.int .i64 dp) := by
 obtain ⟨xs,o,_,_,h1,_⟩ := h
 rw [o.cellAt 801 (by omega),h1]
theorem Dr.negc (h : Dr B q w g nd dp neg tr) : w.cell? ⟨q,802,none⟩ = some (.bool neg) := by
 obtain ⟨xs,o,_,_,_,h1,_⟩ := h
 rw [o.cellAt 802 (by omega),h1]
theorem Dr.trc (h : Dr B q w g nd dp neg tr) : w.cell? ⟨q,803,none⟩ = some (.bool tr) := by
 obtain ⟨xs,o,_,_,_,_,h1⟩ := h
 rw [o.cellAt 803 (by omega),h1]
theorem Dr.frz (h : Dr B q w g nd dp neg tr) (j : Nat) : w.frozen? ⟨q,j,none⟩ = false := by
 obtain ⟨xs,o,_⟩ := h
 exact o.frozenAt j
theorem Dr.le (h : Dr B q w g nd dp neg tr) : B ≤ q := by
 obtain ⟨xs,o,_⟩ := h
 exact (o.lt q rfl).1
def put (g : Nat → Nat) (i v : Nat) : Nat → Nat := fun j => if j = i then v else g j
theorem put_same (g : Nat → Nat) (i v : Nat) : put g i v i = v := by unfold put; rw [if_pos rfl]
theorem put_ne (g : Nat → Nat) {i j : Nat} (v : Nat) (h : j ≠ i) : put g i v j = g j := by unfold put; rw [if_neg h]
theorem Dr.putD (h : Dr B q w g nd dp neg tr) {i : Nat} (hi : i < 800) (v : Nat) : Dr B q (w.setCell ⟨q,i,none⟩ (.int .u8 (v : Int))) (put g i v) nd dp neg tr := by
 obtain ⟨xs,o,h1,h2,h3,h4,h5⟩ := h
 have hl := o.1
 refine ⟨_,(o.stored i _).1,?_,?_,?_,?_,?_⟩
 ·intro j hj
  by_cases e : j = i
  ·subst e; rw [put_same,List.getElem?_set]; simp; omega
  ·rw [put_ne g v e,List.getElem?_set_ne (by omega),h1 j hj]
 ·rw [List.getElem?_set_ne (by omega),h2]
 ·rw [List.getElem?_set_ne (by omega),h3]
 ·rw [List.getElem?_set_ne (by omega),h4]
 ·rw [List.getElem?_set_ne (by omega),h5]
theorem Dr.putNd (h : Dr B q w g nd dp neg tr) (n : Nat) : Dr B q (w.setCell ⟨q,800,none⟩ (.int .i64 (n : Int))) g n dp neg tr := by
 obtain ⟨xs,o,h1,h2,h3,h4,h5⟩ := h
 have hl := o.1
 refine ⟨_,(o.stored 800 _).1,?_,?_,?_,?_,?_⟩
 ·intro j hj; rw [List.getElem?_set_ne (by omega),h1 j hj]
 ·rw [List.getElem?_set]; simp; omega
 ·rw [List.getElem?_set_ne (by omega),h3]
 ·rw [List.getElem?_set_ne (by omega),h4]
 ·rw [List.getElem?_set_ne (by omega),h5]
theorem Dr.putDp (h : Dr B q w g nd dp neg tr) (n : Int) : Dr B q (w.setCell ⟨q,801,none⟩ (.int .i64 n)) g nd n neg tr := by
 obtain ⟨xs,o,h1,h2,h3,h4,h5⟩ := h
 have hl := o.1
 refine ⟨_,(o.stored 801 _).1,?_,?_,?_,?_,?_⟩
 ·intro j hj; rw [List.getElem?_set_ne (by omega),h1 j hj]
 ·rw [List.getElem?_set_ne (by omega),h2]
 ·rw [List.getElem?_set]; simp; omega
 ·rw [List.getElem?_set_ne (by omega),h4]
 ·rw [List.getElem?_set_ne (by omega),h5]
theorem Dr.putNeg (h : Dr B q w g nd dp neg tr) (n : Bool) : Dr B q (w.setCell ⟨q,802,none⟩ (.bool n)) g nd dp n tr := by
 obtain ⟨xs,o,h1,h2,h3,h4,h5⟩ := h
 have hl := o.1
 refine ⟨_,(o.stored 802 _).1,?_,?_,?_,?_,?_⟩
 ·intro j hj; rw [List.getElem?_set_ne (by omega),h1 j hj]
 ·rw [List.getElem?_set_ne (by omega),h2]
 ·rw [List.getElem?_set_ne (by omega),h3]
 ·rw [List.getElem?_set]; simp; omega
 ·rw [List.getElem?_set_ne (by omega),h5]
theorem Dr.putTr (h : Dr B q w g nd dp neg tr) (n : Bool) : Dr B q (w.setCell ⟨q,803,none⟩ (.bool n)) g nd dp neg n := by
 obtain ⟨xs,o,h1,h2,h3,h4,h5⟩ := h
 have hl := o.1
 refine ⟨_,(o.stored 803 _).1,?_,?_,?_,?_,?_⟩
 ·intro j hj; rw [List.getElem?_set_ne (by omega),h1 j hj]
 ·rw [List.getElem?_set_ne (by omega),h2]
 ·rw [List.getElem?_set_ne (by omega),h3]
 ·rw [List.getElem?_set_ne (by omega),h4]
 ·rw [List.getElem?_set]; simp; omega
end
theorem Dr.drewN {B q nd : Nat} {w : World} {g : Nat → Nat} {dp : Int} {neg tr : Bool} (h : Dr B q w g nd dp neg tr) (n : Nat) : Dr B q (w.drewN n) g nd dp neg tr := by
 induction n with
 | zero => exact h
 | succ n ih => exact ih
def ndOf (q : Nat) (w : World) : Nat := match w.cell? ⟨q,800,none⟩ with
 | some (.int _ n) => n.toNat
 | _ => 0
theorem Dr.ndOf {B q nd : Nat} {w : World} {g : Nat → Nat} {dp : Int} {neg tr : Bool} (h : Dr B q w g nd dp neg tr) : ndOf q w = nd := by
 unfold YtalaajniammggaaGreatDoor.ndOf
 rw [h.ndc]
 simp
set_option maxRecDepth 100000 in
theorem dtrim_any (B q nd : Nat) (g : Nat → Nat) (dp : Int) (neg tr : Bool) (h1 : 1 ≤ nd) (h2 : nd ≤ 800) (h0 : g 0 ≠ 48) (w : World) (D : Dr B q w g nd dp neg tr) :
  Calls Tryz.prog 164 #[.pointer (some ⟨q,0,none⟩)] w fun e w' => e = .returned (.tuple #[]) ∧ ∃ nd',1 ≤ nd' ∧ nd' ≤ nd ∧ Dr B q w' g nd' dp neg tr ∧ Below B w w' := by
 have H0 := Lib.hid h0
 have HD := Lib.hid D
 clear D h0
 go_enter Tryz.func164,Tryz.ntmps164
 go_wp2_with fail
 go_loopw [] (fun wr => ∃ n : Nat,1 ≤ n ∧ n ≤ nd ∧ Hid (Dr B q wr g n dp neg tr) ∧ Below B w wr) (fun wr => ndOf q wr)
 case atStart => exact ⟨nd,h1,Nat.le_refl _,HD,Below.refl _ _⟩
 case round =>
  obtain ⟨n,n1,n2,HX,hb⟩ := hrel
  have c1 := HX.out.ndc
  obtain ⟨j,rfl⟩ : ∃ j,n = j + 1 := ⟨n - 1,by omega⟩
  have c2 := HX.out.dig j (by omega)
  have f1 := HX.out.frz 800
  by_cases hg : g j = 48
  ·have d1 : ((g j : Int) == 48) = true := by rw [beq_iff_eq]; omega
   have hj : 1 ≤ j := by
    rcases Nat.eq_zero_or_pos j with e | e
    ·subst e; exact absurd hg H0.out
    ·exact e
   go_wp2_with fail
   go_quiet (fail)
   obtain ⟨W,hW⟩ : ∃ W,Hid (wr.drewN nq = W) := ⟨_,rfl⟩
   have HY := Lib.hid (HX.out.drewN nq)
   rw [hW.out] at HY ⊢
   have c1 := HY.out.ndc
   have f1 := HY.out.frz 800
   have bW : Below B w W := by rw [← hW.out]; exact below_drewN hb _
   go_wp2_with fail
   have N1 := HY.out.putNd j
   exact ⟨⟨j,hj,by omega,Lib.hid N1,bW.setCell HY.out.le _⟩,by rw [N1.ndOf,HX.out.ndOf]; omega⟩
  ·have d1 : ((g j : Int) == 48) = false := by rw [beq_eq_false_iff_ne]; omega
   go_wp2_with fail
   go_quiet (fail)
   obtain ⟨W,hW⟩ : ∃ W,Hid (wr.drewN nq = W) := ⟨_,rfl⟩
   have HY := Lib.hid (HX.out.drewN nq)
   rw [hW.out] at HY ⊢
   have c1 := HY.out.ndc
   have bW : Below B w W := by rw [← hW.out]; exact below_drewN hb _
   go_wp2_with fail
   refine bodyPost_end (results_none rfl _ _ _) rfl ?_
   exact ⟨rfl,j + 1,n1,n2,HY.out,bW⟩
end Go.Proofs.YtalaajniammggaaGreatDoor

/- Is the row of digits less? -/
namespace Go.Proofs.YtalaajniammggaaGreatDoor
open Go.RowKit
theorem gOfL_at (s : ByteArray) (i : Nat) (h : i < s.size) : gOfL s.data.toList i = (s[i]).toNat := by
 unfold gOfL
 rw [List.getD_eq_getElem?_getD,List.getElem?_eq_getElem (by rw [size_list]; exact h),get_list s i h]
 rfl
set_option maxRecDepth 100000 in
set_option maxHeartbeats 1000000 in
theorem dless_any (B q nd : Nat) (g : Nat → Nat) (dp : Int) (neg tr : Bool) (h2 : nd ≤ 800) (hg : Digs g nd) (s : ByteArray) (hc : Digs (gOfL s.data.toList) s.size) (hl : s.size ≠ 0 → gOfL s.data.toList (s.size - 1) ≠ 48) (w : World) (D : Dr B q w g nd dp neg tr) :
  Calls Tryz.prog 175 #[.slice (some ⟨q,0,none⟩) nd 800,.string s] w fun e w' => (∃ m,w' = w.drewN m) ∧ ∃ r : Bool,e = .returned (.bool r) ∧ (r = true → dval g nd * 10 ^ s.size < dval (gOfL s.data.toList) s.size * 10 ^ nd) ∧ (r = false → dval (gOfL s.data.toList) s.size * 10 ^ nd ≤ dval g nd * 10 ^ s.size) := by
 have HD := Lib.hid D
 have HG := Lib.hid hg
 have HC := Lib.hid hc
 have HL := Lib.hid hl
 clear D hg hc hl
 obtain ⟨Q,hQ⟩ : ∃ Q : Bool → Prop,Hid (∀ r,Q r ↔ ((r = true → dval g nd * 10 ^ s.size < dval (gOfL s.data.toList) s.size * 10 ^ nd) ∧ (r = false → dval (gOfL s.data.toList) s.size * 10 ^ nd ≤ dval g nd * 10 ^ s.size))) := ⟨fun r => _,Lib.hid fun r => Iff.rfl⟩
 have key : Calls Tryz.prog 175 #[.slice (some ⟨q,0,none⟩) nd 800,.string s] w fun e w' => (∃ m,w' = w.drewN m) ∧ ∃ r : Bool,e = .returned (.bool r) ∧ Q r := by
  go_enter Tryz.func175,Tryz.ntmps175
  go_wp2_with fail
  go_loopw [5] (fun v3 wr => ∃ i : Nat,v3 = .int .i64 i ∧ i ≤ s.size ∧ i ≤ nd ∧ Hid (dval g i = dval (gOfL s.data.toList) i) ∧ Hid (Dr B q wr g nd dp neg tr) ∧ Hid (∃ m,wr = w.drewN m)) (fun v3 _ => s.size - (intOf v3).toNat)
  case atStart => exact ⟨0,rfl,Nat.zero_le _,Nat.zero_le _,Lib.hid rfl,HD,Lib.hid ⟨0,rfl⟩⟩
  case round =>
   obtain ⟨i,rfl,hi,hj,HE,HX,HW⟩ := hrel
   by_cases his : i < s.size
   ·have his' : (i : Int) < (s.size : Int) := by omega
    by_cases hin : i < nd
    ·have d1 : decide ((nd : Int) ≤ (i : Int)) = false := by simp; omega
     have d1' : (i : Int) < (nd : Int) := by omega
     have c := HX.out.dig i (by omega)
     have eg := gOfL_at s i his
     obtain ⟨a,ha⟩ : ∃ a,s[i] = a := ⟨_,rfl⟩
     rw [ha] at eg
     have gd := HG.out i hin
     have a255 : a.toNat < 256 := a.toNat_lt
     have EG := Lib.hid eg
     clear eg
     obtain ⟨x,hx⟩ : ∃ x,Hid (g i = x) := ⟨_,rfl⟩
     rw [hx.out] at c gd
     by_cases he : x = a.toNat
     ·have d2 : ((x : Int) == (a.toNat : Int)) = true := by rw [beq_iff_eq]; omega
      have HE' : Hid (dval g (i + 1) = dval (gOfL s.data.toList) (i + 1)) := Lib.hid (by
       show dval g i * 10 + (g i - 48) = dval (gOfL s.data.toList) i * 10 + (gOfL s.data.toList i - 48)
       rw [HE.out,hx.out,EG.out,he])
      have he' := Lib.hid he
      clear he HE EG
      go_wp2_with fail
      go_quiet (fail)
      obtain ⟨W,hW⟩ : ∃ W,Hid (wr.drewN nq = W) := ⟨_,rfl⟩
      have HY := Lib.hid (HX.out.drewN nq)
      have HV : Hid (∃ m,wr.drewN nq = w.drewN m) := by
       obtain ⟨m,hm⟩ := HW.out
       exact Lib.hid ⟨_,by rw [hm,World.drewN_drewN]⟩
      rw [hW.out] at HY HV ⊢
      go_wp2_with fail
      exact ⟨⟨i + 1,rfl,his,hin,HE',HY,HV⟩,by simp [intOf]; omega⟩
     ·have d2 : ((x : Int) == (a.toNat : Int)) = false := by rw [beq_eq_false_iff_ne]; omega
      by_cases hlt : x < a.toNat
      ·have d3 : (x : Int) < (a.toNat : Int) := by omega
       have R : Hid (Q true) := Lib.hid ((hQ.out _).2 ⟨fun _ => less_at HG.out HC.out hin his HE.out (by rw [hx.out,EG.out]; exact hlt),fun h => absurd h (by decide)⟩)
       clear HE EG
       go_wp2_with fail
       go_quiet (fail)
       obtain ⟨W,hW⟩ : ∃ W,Hid (wr.drewN nq = W) := ⟨_,rfl⟩
       have HY := Lib.hid (HX.out.drewN nq)
       have HV : Hid (∃ m,wr.drewN nq = w.drewN m) := by
        obtain ⟨m,hm⟩ := HW.out
        exact Lib.hid ⟨_,by rw [hm,World.drewN_drewN]⟩
       rw [hW.out] at HY HV ⊢
       have c := HY.out.dig i (by omega)
       rw [hx.out] at c
       go_wp2_with fail
       go_quiet (fail)
       obtain ⟨W2,hW2⟩ : ∃ V,Hid (W.drewN nq = V) := ⟨_,rfl⟩
       have HV2 : Hid (∃ m,W2 = w.drewN m) := by
        obtain ⟨m,hm⟩ := HV.out
        rw [← hW2.out,hm,World.drewN_drewN]
        exact Lib.hid ⟨_,rfl⟩
       go_wp2_with fail
       go_ret
       rw [hW2.out]
       exact ⟨HV2.out,true,rfl,R.out⟩
      ·have d3 : decide ((x : Int) < (a.toNat : Int)) = false := by simp; omega
       have R : Hid (Q false) := Lib.hid ((hQ.out _).2 ⟨fun h => absurd h (by decide),fun _ => Nat.le_of_lt (more_at HG.out HC.out hin his HE.out (by rw [hx.out,EG.out]; omega))⟩)
       clear HE EG
       go_wp2_with fail
       go_quiet (fail)
       obtain ⟨W,hW⟩ : ∃ W,Hid (wr.drewN nq = W) := ⟨_,rfl⟩
       have HY := Lib.hid (HX.out.drewN nq)
       have HV : Hid (∃ m,wr.drewN nq = w.drewN m) := by
        obtain ⟨m,hm⟩ := HW.out
        exact Lib.hid ⟨_,by rw [hm,World.drewN_drewN]⟩
       rw [hW.out] at HY HV ⊢
       have c := HY.out.dig i (by omega)
       rw [hx.out] at c
       go_wp2_with fail
       go_quiet (fail)
       obtain ⟨W2,hW2⟩ : ∃ V,Hid (W.drewN nq = V) := ⟨_,rfl⟩
       have HV2 : Hid (∃ m,W2 = w.drewN m) := by
        obtain ⟨m,hm⟩ := HV.out
        rw [← hW2.out,hm,World.drewN_drewN]
        exact Lib.hid ⟨_,rfl⟩
       go_wp2_with fail
       go_ret
       rw [hW2.out]
       exact ⟨HV2.out,false,rfl,R.out⟩
    ·have d1 : (nd : Int) ≤ (i : Int) := by omega
     have en : i = nd := by omega
     have R : Hid (Q true) := Lib.hid ((hQ.out _).2 ⟨fun _ => less_end HC.out (by omega) (by rw [← en]; exact HE.out) (HL.out (by omega)),fun h => absurd h (by decide)⟩)
     clear en HE
     go_wp2_with fail
     go_ret
     exact ⟨HW.out,true,rfl,R.out⟩
   ·have his' : decide ((i : Int) < (s.size : Int)) = false := by simp; omega
    have his2 : s.size ≤ i := by omega
    have en : i = s.size := by omega
    have R : Hid (Q false) := Lib.hid ((hQ.out _).2 ⟨fun h => absurd h (by decide),fun _ => more_end HG.out (by omega) (by rw [← en]; exact HE.out)⟩)
    clear en HE
    go_wp2_with fail
    go_ret
    exact ⟨HW.out,false,rfl,R.out⟩
 refine key.mono ?_
 rintro e w' ⟨hm,r,rfl,hr⟩
 exact ⟨hm,r,rfl,(hQ.out _).1 hr⟩
def lessD (g : Nat → Nat) (nd : Nat) (s : ByteArray) : Bool := decide (dval g nd * 10 ^ s.size < dval (gOfL s.data.toList) s.size * 10 ^ nd)
theorem less_ans (B q nd : Nat) (g : Nat → Nat) (dp : Int) (neg tr : Bool) (h2 : nd ≤ 800) (hg : Digs g nd) (s : ByteArray) (hc : Digs (gOfL s.data.toList) s.size) (hl : s.size ≠ 0 → gOfL s.data.toList (s.size - 1) ≠ 48) (w : World) (D : Dr B q w g nd dp neg tr) :
  Calls Tryz.prog 175 #[.slice (some ⟨q,0,none⟩) nd 800,.string s] w fun e w' => e = .returned (.bool (lessD g nd s)) ∧ ∃ m,w' = w.drewN m := by
 refine (dless_any B q nd g dp neg tr h2 hg s hc hl w D).mono ?_
 rintro e w' ⟨hm,r,rfl,h1,h3⟩
 have : r = lessD g nd s := by
  unfold lessD
  cases r with
  | true => rw [decide_eq_true (h1 rfl)]
  | false => rw [decide_eq_false (by have := h3 rfl; omega)]
 rw [this]
 exact ⟨rfl,hm⟩
end Go.Proofs.YtalaajniammggaaGreatDoor
