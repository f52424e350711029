/- Locks as lists: who holds each, who waits for it. -/
import Derived.WalkKit
namespace Go.Proofs.YthhcecllejddeaaGreatDoor.Locks
abbrev Qs := List (List Int)
def qAt (qs : Qs) (i : Nat) : List Int := qs.getD i []
def oAt (os : List Int) (i : Nat) : Int := os.getD i (-1)
def Fit64 (x : Int) : Prop := -9223372036854775808 ≤ x ∧ x ≤ 9223372036854775807
def wt (qs : Qs) (p : Int) : Option Nat := qs.findIdx? (fun q => decide (p ∈ q))
def wtI (qs : Qs) (p : Int) : Option Int := (wt qs p).map (fun (i : Nat) => (i : Int))
def holdTo (os : List Int) (p : Int) (k : Nat) : List Int := ((List.range k).filter (fun i => decide (0 ≤ p) && decide (oAt os i = p))).map (fun (i : Nat) => (i : Int))
def hold (os : List Int) (p : Int) : List Int := holdTo os p os.length
def total (qs : Qs) : Nat := (qs.map List.length).sum
theorem holdTo_succ (os : List Int) (p : Int) (k : Nat) : holdTo os p (k + 1) = holdTo os p k ++ (if 0 ≤ p ∧ oAt os k = p then [(k : Int)] else []) := by
 unfold holdTo
 rw [List.range_succ, List.filter_append, List.map_append]
 congr 1
 by_cases h : 0 ≤ p ∧ oAt os k = p
 ·rw [if_pos h, List.filter_cons, if_pos (by simp [h.1, h.2])]; rfl
 ·rw [if_neg h, List.filter_cons, if_neg (by simpa using h)]; rfl
theorem holdTo_len (os : List Int) (p : Int) (k : Nat) : (holdTo os p k).length ≤ k := by
 unfold holdTo
 rw [List.length_map]
 exact Nat.le_trans (List.length_filter_le _ _) (by simp)
theorem mem_holdTo {os : List Int} {p x : Int} {k : Nat} : x ∈ holdTo os p k ↔ ∃ i : Nat, x = (i : Int) ∧ i < k ∧ 0 ≤ p ∧ oAt os i = p := by
 unfold holdTo
 simp only [List.mem_map, List.mem_filter, List.mem_range, Bool.and_eq_true, decide_eq_true_eq]
 constructor
 ·rintro ⟨i, ⟨h1, h2, h3⟩, rfl⟩; exact ⟨i, rfl, h1, h2, h3⟩
 ·rintro ⟨i, rfl, h1, h2, h3⟩; exact ⟨i, ⟨h1, h2, h3⟩, rfl⟩
structure GoodL (os : List Int) (qs : Qs) : Prop where
 n : qs.length = os.length
 le : os.length ≤ 8
 own : ∀ o ∈ os, -1 ≤ o ∧ o ≤ 9223372036854775807
 wai : ∀ i p, p ∈ qAt qs i → 0 ≤ p ∧ p ≤ 9223372036854775807
 nd : ∀ i, (qAt qs i).Nodup
 once : ∀ i j p, p ∈ qAt qs i → p ∈ qAt qs j → i = j
theorem qAt_lt {qs : Qs} {i : Nat} {p : Int} (h : p ∈ qAt qs i) : i < qs.length := by
 rcases Nat.lt_or_ge i qs.length with h1 | h1
 ·exact h1
 ·unfold qAt at h
  rw [List.getD_eq_getElem?_getD, List.getElem?_eq_none h1] at h
  simp at h
theorem qAt_set {qs : Qs} {i j : Nat} {q : List Int} : qAt (qs.set i q) j = if i = j ∧ i < qs.length then q else qAt qs j := by
 unfold qAt
 rw [List.getD_eq_getElem?_getD, List.getD_eq_getElem?_getD, List.getElem?_set]
 by_cases h : i = j
 ·subst h
  by_cases h2 : i < qs.length
  ·simp [h2]
  ·simp [h2]
 ·simp [h]
theorem oAt_mem {os : List Int} {i : Nat} (h : i < os.length) : oAt os i ∈ os := by
 unfold oAt
 rw [List.getD_eq_getElem?_getD, List.getElem?_eq_getElem h]
 exact List.getElem_mem h
theorem oAt_out {os : List Int} {i : Nat} (h : os.length ≤ i) : oAt os i = -1 := by
 unfold oAt
 rw [List.getD_eq_getElem?_getD, List.getElem?_eq_none h]; rfl
theorem GoodL.oFit {os : List Int} {qs : Qs} (h : GoodL os qs) (i : Nat) : -1 ≤ oAt os i ∧ oAt os i ≤ 9223372036854775807 := by
 rcases Nat.lt_or_ge i os.length with h1 | h1
 ·exact h.own _ (oAt_mem h1)
 ·rw [oAt_out h1]; omega
theorem wt_some {qs : Qs} {p : Int} {i : Nat} (hO : ∀ i j p, p ∈ qAt qs i → p ∈ qAt qs j → i = j) : wt qs p = some i ↔ p ∈ qAt qs i := by
 unfold wt
 rw [List.findIdx?_eq_some_iff_getElem]
 constructor
 ·rintro ⟨h1, h2, -⟩
  unfold qAt
  rw [List.getD_eq_getElem?_getD, List.getElem?_eq_getElem h1]
  simpa using h2
 ·intro h
  have hl := qAt_lt h
  refine ⟨hl, ?_, fun j hj => ?_⟩
  ·unfold qAt at h
   rw [List.getD_eq_getElem?_getD, List.getElem?_eq_getElem hl] at h
   simpa using h
  ·have hjl : j < qs.length := by omega
   intro hc
   have : p ∈ qAt qs j := by
    unfold qAt
    rw [List.getD_eq_getElem?_getD, List.getElem?_eq_getElem hjl]
    simpa using hc
   have := hO j i p this h
   omega
theorem wt_none {qs : Qs} {p : Int} : wt qs p = none ↔ ∀ i, p ∉ qAt qs i := by
 unfold wt
 rw [List.findIdx?_eq_none_iff]
 constructor
 ·intro h i hi
  have hl := qAt_lt hi
  have := h (qs[i]) (List.getElem_mem hl)
  unfold qAt at hi
  rw [List.getD_eq_getElem?_getD, List.getElem?_eq_getElem hl] at hi
  simp at this hi
  exact this hi
 ·intro h q hq
  obtain ⟨i, hi, rfl⟩ := List.getElem_of_mem hq
  have := h i
  unfold qAt at this
  rw [List.getD_eq_getElem?_getD, List.getElem?_eq_getElem hi] at this
  simpa using this
theorem wtI_some {qs : Qs} {p : Int} {i : Nat} (hO : ∀ i j p, p ∈ qAt qs i → p ∈ qAt qs j → i = j) (h : p ∈ qAt qs i) : wtI qs p = some (i : Int) := by
 unfold wtI; rw [(wt_some hO).2 h]; rfl
theorem wtI_none {qs : Qs} {p : Int} (h : ∀ i, p ∉ qAt qs i) : wtI qs p = none := by
 unfold wtI; rw [wt_none.2 h]; rfl
theorem total_le {qs : Qs} (i : Nat) : (qAt qs i).length ≤ total qs := by
 unfold total qAt
 induction qs generalizing i with
 | nil => simp
 | cons q r ih =>
  cases i with
  | zero => simp
  | succ i => simp at *; have := ih i; omega
theorem total_set {qs : Qs} {i : Nat} (h : i < qs.length) (q : List Int) : total (qs.set i q) + (qAt qs i).length = total qs + q.length := by
 unfold total qAt
 induction qs generalizing i with
 | nil => simp at h
 | cons x r ih =>
  cases i with
  | zero => simp; omega
  | succ i =>
   simp at h
   have := ih h
   simp at *
   omega
theorem total_app (qs : Qs) (q : List Int) : total (qs ++ [q]) = total qs + q.length := by
 unfold total; simp
def mayE (n : Nat) (lock p : Int) : Int := if lock < 0 ∨ (n : Int) ≤ lock then 2 else if p < 0 then 1 else 0
def handO (os : List Int) (qs : Qs) (i : Nat) : List Int := os.set i ((qAt qs i).headD (-1))
def handQ (qs : Qs) (i : Nat) : Qs := qs.set i (qAt qs i).tail
def leaveQ (qs : Qs) (i : Nat) (p : Int) : Qs := qs.set i ((qAt qs i).filter (fun x => decide (x ≠ p)))
def awayQ (qs : Qs) (p : Int) : Qs := match wt qs p with
 | some i => leaveQ qs i p
 | none => qs
def endF : List Int → List Int → Qs → List (Int × Int) → List Int × Qs × List (Int × Int)
 | [], os, qs, out => (os, qs, out)
 | i :: r, os, qs, out => endF r (handO os qs i.toNat) (handQ qs i.toNat) (out ++ [(i, oAt (handO os qs i.toNat) i.toNat)])
def endA (os : List Int) (qs : Qs) (p : Int) : List Int × Qs × List (Int × Int) := endF (hold os p) os (awayQ qs p) []
theorem filter_tail {x : Int} {q : List Int} (h : (x :: q).Nodup) : (x :: q).filter (fun y => decide (y ≠ x)) = q := by
 rw [List.filter_cons, if_neg (by simp)]
 rw [List.filter_eq_self]
 intro y hy
 have := (List.nodup_cons.1 h).1
 simp only [ne_eq, decide_not, Bool.not_eq_true', decide_eq_false_iff_not]
 intro e
 subst e
 exact this hy
theorem filter_cut {q : List Int} (h : q.Nodup) {p : Int} {k : Nat} (hk : k < q.length) (e : q.getD k 0 = p) : q.filter (fun y => decide (y ≠ p)) = q.take k ++ q.drop (k + 1) := by
 induction q generalizing k with
 | nil => simp at hk
 | cons x r ih =>
  cases k with
  | zero =>
   simp at e
   subst e
   rw [filter_tail h]
   simp
  | succ k =>
   simp only [List.length_cons] at hk
   have hn := List.nodup_cons.1 h
   simp only [List.getD_cons_succ] at e
   have hm : p ∈ r := by
    rw [← e, List.getD_eq_getElem?_getD, List.getElem?_eq_getElem (by omega)]
    exact List.getElem_mem _
   have hx : x ≠ p := fun e' => hn.1 (e' ▸ hm)
   rw [List.filter_cons, if_pos (by simpa using hx), ih hn.2 (by omega) e]
   simp
theorem handO_len (os : List Int) (qs : Qs) (i : Nat) : (handO os qs i).length = os.length := by simp [handO]
theorem GoodL.setQ {os : List Int} {qs : Qs} (h : GoodL os qs) {i : Nat} {q : List Int} (hq : q.Sublist (qAt qs i)) : GoodL os (qs.set i q) := by
 refine ⟨by rw [List.length_set]; exact h.n, h.le, h.own, fun j p hp => ?_, fun j => ?_, fun j k p hj hk => ?_⟩
 ·rw [qAt_set] at hp
  split at hp
  ·exact h.wai i p (hq.mem hp)
  ·exact h.wai j p hp
 ·rw [qAt_set]
  split
  ·exact (h.nd i).sublist hq
  ·exact h.nd j
 ·have e : ∀ j, p ∈ qAt (qs.set i q) j → p ∈ qAt qs j := fun j hj => by
   rw [qAt_set] at hj
   split at hj
   ·rename_i hc; rw [← hc.1]; exact hq.mem hj
   ·exact hj
  exact h.once j k p (e j hj) (e k hk)
theorem GoodL.setO {os : List Int} {qs : Qs} (h : GoodL os qs) {i : Nat} {v : Int} (hv : -1 ≤ v ∧ v ≤ 9223372036854775807) : GoodL (os.set i v) qs :=
 ⟨by rw [List.length_set]; exact h.n, by rw [List.length_set]; exact h.le, fun o ho => by
  rcases List.mem_or_eq_of_mem_set ho with h1 | h1
  ·exact h.own o h1
  ·rw [h1]; exact hv, h.wai, h.nd, h.once⟩
theorem headD_fit {os : List Int} {qs : Qs} (h : GoodL os qs) (i : Nat) : -1 ≤ (qAt qs i).headD (-1) ∧ (qAt qs i).headD (-1) ≤ 9223372036854775807 := by
 cases hq : qAt qs i with
 | nil => simp
 | cons x r =>
  have := h.wai i x (by rw [hq]; exact List.mem_cons_self)
  simp
  omega
theorem GoodL.hand {os : List Int} {qs : Qs} (h : GoodL os qs) (i : Nat) : GoodL (handO os qs i) (handQ qs i) := (h.setO (headD_fit h i)).setQ (List.tail_sublist _)
theorem GoodL.leave {os : List Int} {qs : Qs} (h : GoodL os qs) (i : Nat) (p : Int) : GoodL os (leaveQ qs i p) := h.setQ List.filter_sublist
theorem GoodL.away {os : List Int} {qs : Qs} (h : GoodL os qs) (p : Int) : GoodL os (awayQ qs p) := by
 unfold awayQ
 split
 ·exact h.leave _ _
 ·exact h
theorem total_sub {qs : Qs} {i : Nat} {q : List Int} (hq : q.Sublist (qAt qs i)) : total (qs.set i q) ≤ total qs := by
 rcases Nat.lt_or_ge i qs.length with h | h
 ·have := total_set h q
  have := hq.length_le
  omega
 ·rw [List.set_eq_of_length_le h]; exact Nat.le_refl _
theorem total_away (qs : Qs) (p : Int) : total (awayQ qs p) ≤ total qs := by
 unfold awayQ
 split
 ·exact total_sub List.filter_sublist
 ·exact Nat.le_refl _
theorem wtI_leave {os : List Int} {qs : Qs} (h : GoodL os qs) {i : Nat} {p : Int} (hp : p ∈ qAt qs i) (x : Int) : wtI (leaveQ qs i p) x = if x = p then none else wtI qs x := by
 have h2 := h.leave i p
 have hl := qAt_lt hp
 have em : ∀ j, x ∈ qAt (leaveQ qs i p) j ↔ x ∈ qAt qs j ∧ x ≠ p := fun j => by
  unfold leaveQ
  rw [qAt_set]
  split
  ·rename_i hc
   rw [← hc.1, List.mem_filter]
   simp
  ·rename_i hc
   constructor
   ·intro hx
    refine ⟨hx, fun e => hc ⟨?_, hl⟩⟩
    subst e
    exact h.once i j x hp hx
   ·exact fun hx => hx.1
 by_cases e : x = p
 ·rw [if_pos e]
  exact wtI_none (fun j hj => ((em j).1 hj).2 e)
 ·rw [if_neg e]
  cases hw : wt qs x with
  | none =>
   have := wt_none.1 hw
   rw [wtI_none this]
   exact wtI_none (fun j hj => this j ((em j).1 hj).1)
  | some j =>
   have := (wt_some h.once).1 hw
   rw [wtI_some h.once this]
   exact wtI_some h2.once ((em j).2 ⟨this, e⟩)
theorem hand_leave {os : List Int} {qs : Qs} (h : GoodL os qs) {i : Nat} {x : Int} {r : List Int} (hq : qAt qs i = x :: r) : leaveQ qs i x = handQ qs i := by
 unfold leaveQ handQ
 have := h.nd i
 rw [hq] at this ⊢
 rw [filter_tail this]
 rfl
end Go.Proofs.YthhcecllejddeaaGreatDoor.Locks

namespace Go.Proofs.YthhcecllejddeaaGreatDoor.Locks
section
variable {os : List Int} {qs : Qs} {p lock : Int} {i : Nat}
end
end Go.Proofs.YthhcecllejddeaaGreatDoor.Locks

namespace Go.Proofs.YthhcecllejddeaaGreatDoor.Locks
def badP (qs : Qs) (owner : Int) (d : List Int) (p : Int) : Bool := (wt qs p).isSome || decide (p ∈ d) || decide (p < 0) || decide (p = owner)
def addQ (qs : Qs) (owner : Int) : List Int → List Int → Bool
 | _, [] => true
 | d, p :: r => if badP qs owner d p = true then false else addQ qs owner (d ++ [p]) r
def addOk (qs : Qs) (owner : Int) (q : List Int) : Bool := if owner < -1 ∨ (owner = -1 ∧ 0 < q.length) then false else addQ qs owner [] q
def layF : Qs → List Int → Qs → Bool
 | pre, o :: os, q :: qs => if addOk pre o q = true then layF (pre ++ [q]) os qs else false
 | _, _, _ => true
theorem addQ_drop {qs : Qs} {owner : Int} {q : List Int} {k : Nat} (hk : k < q.length) : addQ qs owner (q.take k) (q.drop k) = if badP qs owner (q.take k) (q.getD k 0) = true then false else addQ qs owner (q.take (k + 1)) (q.drop (k + 1)) := by
 rw [List.drop_eq_getElem_cons hk, addQ]
 have e : q.getD k 0 = q[k] := by rw [List.getD_eq_getElem?_getD, List.getElem?_eq_getElem hk]; rfl
 rw [e, List.take_succ_eq_append_getElem hk]
theorem layF_drop {os : List Int} {qs : Qs} {k : Nat} (hk : k < os.length) (hl : os.length = qs.length) : layF (qs.take k) (os.drop k) (qs.drop k) = if addOk (qs.take k) (oAt os k) (qAt qs k) = true then layF (qs.take (k + 1)) (os.drop (k + 1)) (qs.drop (k + 1)) else false := by
 have hk2 : k < qs.length := by omega
 rw [List.drop_eq_getElem_cons hk, List.drop_eq_getElem_cons hk2, layF]
 have e : oAt os k = os[k] := by unfold oAt; rw [List.getD_eq_getElem?_getD, List.getElem?_eq_getElem hk]; rfl
 have e2 : qAt qs k = qs[k] := by unfold qAt; rw [List.getD_eq_getElem?_getD, List.getElem?_eq_getElem hk2]; rfl
 rw [e, e2, List.take_succ_eq_append_getElem hk2]
theorem layF_end {os : List Int} {qs pre : Qs} {k : Nat} (hk : os.length ≤ k) : layF pre (os.drop k) (qs.drop k) = true := by
 rw [List.drop_of_length_le hk]
 unfold layF
 cases qs.drop k <;> rfl
def GoodD (qs : Qs) (owner : Int) (d : List Int) : Prop := d.Nodup ∧ ∀ p ∈ d, 0 ≤ p ∧ p ≠ owner ∧ ∀ i, p ∉ qAt qs i
theorem GoodD.nil (qs : Qs) (owner : Int) : GoodD qs owner [] := ⟨List.nodup_nil, fun _ h => absurd h List.not_mem_nil⟩
theorem badP_no {qs : Qs} {owner : Int} {d : List Int} {p : Int} (h : badP qs owner d p = false) : wt qs p = none ∧ p ∉ d ∧ 0 ≤ p ∧ p ≠ owner := by
 unfold badP at h
 simp only [Bool.or_eq_false_iff, decide_eq_false_iff_not, Option.isSome_eq_false_iff, Option.isNone_iff_eq_none] at h
 exact ⟨h.1.1.1, h.1.1.2, by omega, h.2⟩
theorem GoodD.push {qs : Qs} {owner : Int} {d : List Int} {p : Int} (h : GoodD qs owner d) (hb : badP qs owner d p = false) : GoodD qs owner (d ++ [p]) := by
 obtain ⟨h1, h2, h3, h4⟩ := badP_no hb
 refine ⟨?_, fun x hx => ?_⟩
 ·rw [List.nodup_append]
  refine ⟨h.1, by simp, fun a ha b hb e => ?_⟩
  simp at hb
  subst hb
  subst e
  exact h2 ha
 ·rcases List.mem_append.1 hx with h5 | h5
  ·exact h.2 x h5
  ·simp at h5
   subst h5
   exact ⟨h3, h4, wt_none.1 h1⟩
theorem qAt_app {qs : Qs} {q : List Int} {j : Nat} : qAt (qs ++ [q]) j = if j < qs.length then qAt qs j else if j = qs.length then q else [] := by
 unfold qAt
 rw [List.getD_eq_getElem?_getD, List.getD_eq_getElem?_getD]
 split
 ·rename_i h; rw [List.getElem?_append_left h]
 ·rename_i h
  rw [List.getElem?_append_right (by omega)]
  split
  ·rename_i h2; subst h2; simp
  ·rename_i h2
   rw [List.getElem?_eq_none (by simp; omega)]; rfl
theorem mem_app {qs : Qs} {q : List Int} {j : Nat} {x : Int} : x ∈ qAt (qs ++ [q]) j ↔ x ∈ qAt qs j ∨ (x ∈ q ∧ j = qs.length) := by
 rw [qAt_app]
 constructor
 ·intro h
  split at h
  ·exact .inl h
  ·split at h
   ·exact .inr ⟨h, by assumption⟩
   ·cases h
 ·rintro (h | ⟨h1, h2⟩)
  ·rw [if_pos (qAt_lt h)]; exact h
  ·rw [if_neg (by omega), if_pos h2]; exact h1
theorem GoodL.app {os : List Int} {qs : Qs} (h : GoodL os qs) (h8 : os.length < 8) {o : Int} (ho : -1 ≤ o ∧ o ≤ 9223372036854775807) {q : List Int} (hq : GoodD qs o q) (hf : ∀ p ∈ q, p ≤ 9223372036854775807) : GoodL (os ++ [o]) (qs ++ [q]) := by
 refine ⟨by simp [h.n], by simp; omega, fun x hx => ?_, fun i p hp => ?_, fun i => ?_, fun i j p hi hj => ?_⟩
 ·rcases List.mem_append.1 hx with h1 | h1
  ·exact h.own x h1
  ·simp at h1; rw [h1]; exact ho
 ·rcases mem_app.1 hp with h1 | h1
  ·exact h.wai i p h1
  ·exact ⟨(hq.2 p h1.1).1, hf p h1.1⟩
 ·rw [qAt_app]
  split
  ·exact h.nd i
  ·split
   ·exact hq.1
   ·exact List.nodup_nil
 ·rcases mem_app.1 hi with h1 | h1 <;> rcases mem_app.1 hj with h2 | h2
  ·exact h.once i j p h1 h2
  ·exact absurd h1 ((hq.2 p h2.1).2.2 i)
  ·exact absurd h2 ((hq.2 p h1.1).2.2 j)
  ·rw [h1.2, h2.2]
theorem wtI_app {os : List Int} {qs : Qs} (h : GoodL os qs) {o : Int} {q : List Int} (hq : GoodD qs o q) (x : Int) : wtI (qs ++ [q]) x = if x ∈ q then some (qs.length : Int) else wtI qs x := by
 have hO : ∀ i j p, p ∈ qAt (qs ++ [q]) i → p ∈ qAt (qs ++ [q]) j → i = j := fun i j p hi hj => by
  rcases mem_app.1 hi with h1 | h1 <;> rcases mem_app.1 hj with h2 | h2
  ·exact h.once i j p h1 h2
  ·exact absurd h1 ((hq.2 p h2.1).2.2 i)
  ·exact absurd h2 ((hq.2 p h1.1).2.2 j)
  ·rw [h1.2, h2.2]
 by_cases e : x ∈ q
 ·rw [if_pos e]
  exact wtI_some hO (mem_app.2 (.inr ⟨e, rfl⟩))
 ·rw [if_neg e]
  cases hw : wt qs x with
  | none =>
   have := wt_none.1 hw
   rw [wtI_none this]
   refine wtI_none (fun j hj => ?_)
   rcases mem_app.1 hj with h1 | h1
   ·exact this j h1
   ·exact e h1.1
  | some j =>
   have := (wt_some h.once).1 hw
   rw [wtI_some h.once this]
   exact wtI_some hO (mem_app.2 (.inl this))
theorem GoodL.nil : GoodL [] [] := ⟨rfl, by simp, fun _ h => absurd h List.not_mem_nil, fun i p h => by simp [qAt] at h, fun i => by simp [qAt], fun i j p h => by simp [qAt] at h⟩
end Go.Proofs.YthhcecllejddeaaGreatDoor.Locks
