/- The wheel's mathematics: things in order, heaps, what is taken off. -/
import Derived.Test.YthhcecllejddeaaGreatDoorGXLW1
import Init
import Derived.Test.YthhcecllejddeaaGreatDoorProg
import Derived.Deep.LoopGhost
import Derived.Deep.CutRange
import Derived.Deep.QuietTactic
import Derived.Deep.RegionHeld3
import Derived.Deep.DeepCutAuto
import Derived.BigQuiet
import Derived.Laws.MakeOwn
import Derived.Sort.Grow
import Derived.Shelf.Abstract
namespace Go.Proofs.YthhcecllejddeaaGreatDoor.Wheel
abbrev Th := Int × Int
def ltT (a b : Th) : Prop := a.1 < b.1 ∨ a.1 = b.1 ∧ a.2 < b.2
instance (a b : Th) : Decidable (ltT a b) := by unfold ltT; infer_instance
theorem ltT_irrefl (a : Th) : ¬ ltT a a := by unfold ltT; omega
theorem ltT_asymm {a b : Th} (h : ltT a b) : ¬ ltT b a := by unfold ltT at *; omega
theorem ltT_trans {a b c : Th} (h : ltT a b) (k : ltT b c) : ltT a c := by unfold ltT at *; omega
theorem leT_trans {a b c : Th} (h : ¬ ltT b a) (k : ¬ ltT c b) : ¬ ltT c a := by unfold ltT at *; omega
theorem leT_ltT {a b c : Th} (h : ¬ ltT c b) (k : ltT a b) : ¬ ltT c a := by unfold ltT at *; omega
def par (c : Nat) : Nat := (c - 1) / 2
def Heap (f : Nat → Th) (n : Nat) : Prop := ∀ c, 0 < c → c < n → ¬ ltT (f c) (f (par c))
def sw (f : Nat → Th) (i j : Nat) : Nat → Th := fun c => if c = j then f i else if c = i then f j else f c
def UpI (f : Nat → Th) (n j : Nat) : Prop := (∀ c, 0 < c → c < n → c ≠ j → ¬ ltT (f c) (f (par c))) ∧ ∀ c, 0 < c → c < n → par c = j → 0 < j → ¬ ltT (f c) (f (par j))
def DnI (f : Nat → Th) (n i : Nat) : Prop := (∀ c, 0 < c → c < n → par c ≠ i → ¬ ltT (f c) (f (par c))) ∧ ∀ c, 0 < c → c < n → par c = i → 0 < i → ¬ ltT (f c) (f (par i))
theorem par_lt {c : Nat} (h : 0 < c) : par c < c := by unfold par; omega
theorem UpI.step {f : Nat → Th} {n j : Nat} (h : UpI f n j) (hj : 0 < j) (hjn : j < n) (hl : ltT (f j) (f (par j))) : UpI (sw f (par j) j) n (par j) := by
 have hp := par_lt hj
 have ej : ∀ c, c ≠ j → c ≠ par j → sw f (par j) j c = f c := fun c h1 h2 => by unfold sw; rw [if_neg h1, if_neg h2]
 have e1 : sw f (par j) j j = f (par j) := by unfold sw; rw [if_pos rfl]
 have e2 : sw f (par j) j (par j) = f j := by unfold sw; rw [if_neg (by omega), if_pos rfl]
 refine ⟨fun c h0 hn hc => ?_, fun c h0 hn hc hp0 => ?_⟩
 ·have hpc := par_lt h0
  by_cases hcj : c = j
  ·subst hcj
   rw [e1, e2]
   exact ltT_asymm hl
  ·rw [ej c hcj hc]
   by_cases h1 : par c = j
   ·rw [h1, e1]
    exact h.2 c h0 hn h1 hj
   ·by_cases h2 : par c = par j
    ·rw [h2, e2]
     have := h.1 c h0 hn hcj
     rw [h2] at this
     exact leT_ltT this hl
    ·rw [ej _ h1 h2]
     exact h.1 c h0 hn hcj
 ·have hpp := par_lt hp0
  rw [ej (par (par j)) (by omega) (by omega)]
  have hpj := h.1 (par j) hp0 (by omega) (by omega)
  by_cases hcj : c = j
  ·subst hcj
   rw [e1]
   exact hpj
  ·have hpc := par_lt h0
   rw [ej c hcj (by omega)]
   have := h.1 c h0 hn hcj
   rw [hc] at this
   exact leT_trans hpj this
theorem UpI.done0 {f : Nat → Th} {n : Nat} (h : UpI f n 0) : Heap f n := fun c h0 hn => h.1 c h0 hn (by omega)
theorem UpI.done {f : Nat → Th} {n j : Nat} (h : UpI f n j) (hl : ¬ ltT (f j) (f (par j))) : Heap f n := fun c h0 hn => by
 by_cases hc : c = j
 ·subst hc; exact hl
 ·exact h.1 c h0 hn hc
theorem UpI.push {f g : Nat → Th} {n : Nat} (h : Heap f n) (hg : ∀ i, i < n → g i = f i) : UpI g (n + 1) n := ⟨fun c h0 hn hc => by
  have := par_lt h0
  rw [hg c (by omega), hg (par c) (by omega)]
  exact h c h0 (by omega), fun c h0 hn hc => by have := par_lt h0; omega⟩
theorem par_child {c i : Nat} (h0 : 0 < c) : par c = i ↔ c = 2 * i + 1 ∨ c = 2 * i + 2 := by unfold par; omega
theorem DnI.step {f : Nat → Th} {n i j : Nat} (h : DnI f n i) (hj0 : 0 < j) (hjn : j < n) (hpj : par j = i) (hmin : ∀ c, 0 < c → c < n → par c = i → ¬ ltT (f c) (f j)) (hl : ltT (f j) (f i)) : DnI (sw f i j) n j := by
 have hij := par_lt hj0
 rw [hpj] at hij
 have ej : ∀ c, c ≠ j → c ≠ i → sw f i j c = f c := fun c h1 h2 => by unfold sw; rw [if_neg h1, if_neg h2]
 have e1 : sw f i j j = f i := by unfold sw; rw [if_pos rfl]
 have e2 : sw f i j i = f j := by unfold sw; rw [if_neg (by omega), if_pos rfl]
 refine ⟨fun c h0 hn hc => ?_, fun c h0 hn hc _ => ?_⟩
 ·have hpc := par_lt h0
  by_cases hcj : c = j
  ·subst hcj
   rw [e1, hpj, e2]
   exact ltT_asymm hl
  ·by_cases hci : c = i
   ·subst hci
    rw [e2, ej (par c) (by omega) (by omega)]
    exact h.2 j hj0 hjn hpj h0
   ·rw [ej c hcj hci]
    by_cases h1 : par c = i
    ·rw [h1, e2]
     exact hmin c h0 hn h1
    ·rw [ej _ hc h1]
     exact h.1 c h0 hn h1
 ·have hpc := par_lt h0
  rw [hpj, e2, ej c (by omega) (by omega)]
  have := h.1 c h0 hn (by omega)
  rwa [hc] at this
theorem DnI.done0 {f : Nat → Th} {n i : Nat} (h : DnI f n i) (hi : n ≤ 2 * i + 1) : Heap f n := fun c h0 hn => h.1 c h0 hn (fun e => by have := (par_child h0).1 e; omega)
theorem DnI.done {f : Nat → Th} {n i j : Nat} (h : DnI f n i) (hmin : ∀ c, 0 < c → c < n → par c = i → ¬ ltT (f c) (f j)) (hl : ¬ ltT (f j) (f i)) : Heap f n := fun c h0 hn => by
 by_cases hc : par c = i
 ·rw [hc]
  exact leT_trans hl (hmin c h0 hn hc)
 ·exact h.1 c h0 hn hc
theorem DnI.pop {f g : Nat → Th} {n : Nat} (h : Heap f (n + 1)) (hg : ∀ i, 0 < i → i < n → g i = f i) : DnI g n 0 := ⟨fun c h0 hn hc => by
  have := par_lt h0
  rw [hg c h0 hn, hg (par c) (by omega) (by omega)]
  exact h c h0 (by omega), fun _ _ _ _ h0 => absurd h0 (by omega)⟩
theorem Heap.root {f : Nat → Th} {n : Nat} (h : Heap f n) (c : Nat) : c < n → ¬ ltT (f c) (f 0) := by
 induction c using Nat.strongRecOn with
 | ind c ih =>
  intro hn
  by_cases h0 : c = 0
  ·subst h0; exact ltT_irrefl _
  ·have hp := par_lt (show 0 < c by omega)
   exact leT_trans (ih _ hp (by omega)) (h c (by omega) hn)
theorem Heap.sorted {f : Nat → Th} {n : Nat} (h : ∀ i j, i < j → j < n → ¬ ltT (f j) (f i)) : Heap f n := fun _ h0 hn => h _ _ (par_lt h0) hn
/-! ### lists of things -/
def tAt (O : List Th) (i : Nat) : Th := O.getD i (0, 0)
def swL (O : List Th) (i j : Nat) : List Th := (O.set i (tAt O j)).set j (tAt O i)
theorem swL_len (O : List Th) (i j : Nat) : (swL O i j).length = O.length := by simp [swL]
theorem tAt_get {O : List Th} {i : Nat} (h : i < O.length) : O[i]? = some (tAt O i) := by
 unfold tAt
 rw [List.getD_eq_getElem?_getD, List.getElem?_eq_getElem h]
 rfl
theorem tAt_mem {O : List Th} {i : Nat} (h : i < O.length) : tAt O i ∈ O := List.mem_of_getElem? (tAt_get h)
theorem mem_tAt {O : List Th} {x : Th} (h : x ∈ O) : ∃ i, i < O.length ∧ tAt O i = x := by
 obtain ⟨i, hi, e⟩ := List.getElem_of_mem h
 refine ⟨i, hi, ?_⟩
 have := tAt_get hi
 rw [List.getElem?_eq_getElem hi] at this
 rw [← e]
 exact (Option.some.inj this).symm
theorem swL_at {O : List Th} {i j : Nat} (hi : i < O.length) (hj : j < O.length) (c : Nat) : tAt (swL O i j) c = sw (tAt O) i j c := by
 unfold sw
 have : ∀ c, tAt (swL O i j) c = ((swL O i j)[c]?).getD (0, 0) := fun c => by unfold tAt; rw [List.getD_eq_getElem?_getD]
 rw [this]
 unfold swL
 rw [List.getElem?_set, List.getElem?_set]
 by_cases h1 : j = c
 ·subst h1
  rw [if_pos rfl, if_pos rfl, List.length_set, if_pos hj]
  rfl
 ·have h1' : ¬ c = j := fun e => h1 e.symm
  rw [if_neg h1, if_neg h1']
  by_cases h2 : i = c
  ·subst h2
   rw [if_pos rfl, if_pos rfl, if_pos hi]
   rfl
  ·have h2' : ¬ c = i := fun e => h2 e.symm
   rw [if_neg h2, if_neg h2']
   unfold tAt
   rw [List.getD_eq_getElem?_getD]
theorem swL_fun {O : List Th} {i j : Nat} (hi : i < O.length) (hj : j < O.length) : tAt (swL O i j) = sw (tAt O) i j := funext (swL_at hi hj)
theorem swL_mem {O : List Th} {i j : Nat} (hi : i < O.length) (hj : j < O.length) (x : Th) : x ∈ swL O i j ↔ x ∈ O := by
 constructor
 ·intro h
  obtain ⟨c, hc, e⟩ := mem_tAt h
  rw [swL_len] at hc
  rw [swL_at hi hj] at e
  unfold sw at e
  split at e
  ·rw [← e]; exact tAt_mem hi
  ·split at e
   ·rw [← e]; exact tAt_mem hj
   ·rw [← e]; exact tAt_mem hc
 ·intro h
  obtain ⟨c, hc, e⟩ := mem_tAt h
  have key : ∀ d, d < O.length → tAt (swL O i j) d = x → x ∈ swL O i j := fun d hd e => by rw [← e]; exact tAt_mem (by rw [swL_len]; exact hd)
  by_cases h1 : c = i
  ·subst h1
   exact key j hj (by rw [swL_at hi hj]; unfold sw; rw [if_pos rfl]; exact e)
  ·by_cases h2 : c = j
   ·subst h2
    exact key i hi (by rw [swL_at hi hj]; unfold sw; split <;> rename_i h3; (· rw [h3]; exact e); (rw [if_pos rfl]; exact e))
   ·exact key c hc (by rw [swL_at hi hj]; unfold sw; rw [if_neg h2, if_neg h1]; exact e)
theorem tAt_app_left {O P : List Th} {i : Nat} (h : i < O.length) : tAt (O ++ P) i = tAt O i := by
 unfold tAt
 rw [List.getD_eq_getElem?_getD, List.getD_eq_getElem?_getD, List.getElem?_append_left h]
theorem tAt_take {O : List Th} {i n : Nat} (h : i < n) : tAt (O.take n) i = tAt O i := by
 unfold tAt
 rw [List.getD_eq_getElem?_getD, List.getD_eq_getElem?_getD, List.getElem?_take, if_pos h]
/-! ### what is set -/
def FitT (t : Th) : Prop := (0 ≤ t.1 ∧ t.1 ≤ 9223372036854775807) ∧ 0 ≤ t.2 ∧ t.2 ≤ 9223372036854775807
def clr (id : Int) (L : List Th) : List Th := L.filter (fun t => t.2 != id)
def setA (id due : Int) (L : List Th) : List Th := clr id L ++ [(due, id)]
structure GoodW (L : List Th) : Prop where
 nod : L.Pairwise (fun a b => a.2 ≠ b.2)
 fit : ∀ t ∈ L, FitT t
theorem clr_mem {id : Int} {L : List Th} {t : Th} : t ∈ clr id L ↔ t ∈ L ∧ t.2 ≠ id := by simp [clr]
theorem GoodW.nil : GoodW [] := ⟨List.Pairwise.nil, fun _ h => absurd h List.not_mem_nil⟩
theorem GoodW.clr {L : List Th} (h : GoodW L) (id : Int) : GoodW (clr id L) := ⟨h.nod.filter _, fun t ht => h.fit t (clr_mem.1 ht).1⟩
theorem GoodW.set {L : List Th} (h : GoodW L) {id due : Int} (hf : FitT (due, id)) : GoodW (setA id due L) := by
 refine ⟨?_, fun t ht => ?_⟩
 ·unfold setA
  rw [List.pairwise_append]
  refine ⟨(h.clr id).nod, List.pairwise_singleton _ _, fun a ha b hb => ?_⟩
  simp at hb
  subst hb
  exact (clr_mem.1 ha).2
 ·unfold setA at ht
  rcases List.mem_append.1 ht with h1 | h1
  ·exact (h.clr id).fit t h1
  ·simp at h1; subst h1; exact hf
theorem GoodW.uniq {L : List Th} (h : GoodW L) {a b : Th} (ha : a ∈ L) (hb : b ∈ L) (e : a.2 = b.2) : a = b := by
 have hn := h.nod
 clear h
 induction L with
 | nil => exact absurd ha List.not_mem_nil
 | cons x r ih =>
  rw [List.pairwise_cons] at hn
  rcases List.mem_cons.1 ha with rfl | h1
  ·rcases List.mem_cons.1 hb with rfl | h2
   ·rfl
   ·exact absurd e (hn.1 b h2)
  ·rcases List.mem_cons.1 hb with rfl | h2
   ·exact absurd e.symm (hn.1 a h1)
   ·exact ih h1 h2 hn.2
def isSet (id : Int) (L : List Th) : Bool := L.any (fun t => t.2 == id)
theorem isSet_iff {id : Int} {L : List Th} : isSet id L = true ↔ ∃ t ∈ L, t.2 = id := by simp [isSet]
theorem clr_none {id : Int} {L : List Th} (h : isSet id L = false) : clr id L = L := by
 unfold clr
 rw [List.filter_eq_self]
 intro t ht
 unfold isSet at h
 have := List.any_eq_false.1 h t ht
 simp at this
 simpa using this
theorem clr_len {L : List Th} (h : GoodW L) {id : Int} (hs : isSet id L = true) : (clr id L).length + 1 = L.length := by
 have hn := h.nod
 obtain ⟨t, ht, e⟩ := isSet_iff.1 hs
 clear h hs
 induction L with
 | nil => exact absurd ht List.not_mem_nil
 | cons x r ih =>
  rw [List.pairwise_cons] at hn
  unfold clr at *
  by_cases hx : x.2 = id
  ·rw [List.filter_cons_of_neg (by simp [hx])]
   have : r.filter (fun t => t.2 != id) = r := by
    rw [List.filter_eq_self]
    intro a ha
    have := hn.1 a ha
    simp
    omega
   rw [this]
   rfl
  ·rw [List.filter_cons_of_pos (by simp [hx])]
   rcases List.mem_cons.1 ht with rfl | h1
   ·exact absurd e hx
   ·have := ih hn.2 h1
    simp only [List.length_cons]
    omega
def dueA (id : Int) (L : List Th) : Int × Bool := match L.find? (fun t => t.2 == id) with | some t => (t.1, true) | none => (0, false)
theorem dueA_some {L : List Th} (h : GoodW L) {t : Th} (ht : t ∈ L) : dueA t.2 L = (t.1, true) := by
 unfold dueA
 cases hf : L.find? (fun u => u.2 == t.2) with
 | none =>
  have := List.find?_eq_none.1 hf t ht
  simp at this
 | some u =>
  have h1 := List.find?_some hf
  have h2 := List.mem_of_find?_eq_some hf
  simp at h1
  rw [h.uniq h2 ht h1]
theorem dueA_none {L : List Th} {id : Int} (h : isSet id L = false) : dueA id L = (0, false) := by
 unfold dueA
 have : L.find? (fun u => u.2 == id) = none := by
  rw [List.find?_eq_none]
  intro t ht
  have := List.any_eq_false.1 h t ht
  simpa using this
 rw [this]
def IsMin (L : List Th) (m : Th) : Prop := m ∈ L ∧ ∀ x ∈ L, ¬ ltT x m
inductive Pops (now : Int) : List Th → List Th → List Th → Prop
 | none : Pops now [] [] []
 | late {L : List Th} {m : Th} : IsMin L m → now < m.1 → Pops now L [] L
 | one {L out L' : List Th} {m : Th} : IsMin L m → m.1 ≤ now → Pops now (clr m.2 L) out L' → Pops now L (m :: out) L'
end Go.Proofs.YthhcecllejddeaaGreatDoor.Wheel

namespace Go.Proofs.YthhcecllejddeaaGreatDoor.Wheel
open Go.RowKit
def iC (l : List Int) : List Value := l.map (.int .i64 ·)
def wP (x : Int × Int) : List Value := [.int .i64 x.1, .int .i64 x.2]
def wC (l : List (Int × Int)) : List Value := l.flatMap wP
theorem iC_len (l : List Int) : (iC l).length = l.length * 1 := by simp [iC]
theorem wC_len (l : List (Int × Int)) : (wC l).length = l.length * 2 := by
 induction l with
 | nil => rfl
 | cons x r ih => simp only [wC, List.flatMap_cons, List.length_append, List.length_cons] at *; rw [ih, show (wP x).length = 2 from rfl]; omega
theorem iC_app (l m : List Int) : iC (l ++ m) = iC l ++ iC m := by simp [iC]
theorem wC_app (l m : List (Int × Int)) : wC (l ++ m) = wC l ++ wC m := by simp [wC]
theorem iC_at (l : List Int) (i : Nat) (h : i < l.length) : (iC l)[i]? = some (.int .i64 (l.getD i 0)) := by
 simp [iC, List.getD_eq_getElem?_getD, List.getElem?_eq_getElem h]
theorem wC_at : ∀ (l : List (Int × Int)) (i : Nat), i < l.length → (wC l)[i * 2]? = some (.int .i64 (l.getD i (0, 0)).1) ∧ (wC l)[i * 2 + 1]? = some (.int .i64 (l.getD i (0, 0)).2)
 | [], i, h => absurd h (Nat.not_lt_zero i)
 | t :: ts, 0, _ => ⟨rfl, rfl⟩
 | t :: ts, i + 1, h => by
  have ih := wC_at ts i (by simpa using h)
  simp only [wC, List.flatMap_cons, List.getD_cons_succ] at *
  rw [List.getElem?_append_right (by rw [show (wP t).length = 2 from rfl]; omega), List.getElem?_append_right (by rw [show (wP t).length = 2 from rfl]; omega), show (wP t).length = 2 from rfl, show (i + 1) * 2 - 2 = i * 2 by omega, show (i + 1) * 2 + 1 - 2 = i * 2 + 1 by omega]
  exact ih
theorem iC_one (l : List Int) : ∀ u ∈ iC l, u.oneCell' = true := by
 intro u hu
 obtain ⟨x, _, rfl⟩ := List.mem_map.mp hu
 rfl
theorem wC_one (l : List (Int × Int)) : ∀ u ∈ wC l, u.oneCell' = true := by
 intro u hu
 simp only [wC, List.mem_flatMap, wP] at hu
 obtain ⟨x, _, hx⟩ := hu
 simp only [List.mem_cons, List.not_mem_nil, or_false] at hx
 rcases hx with rfl | rfl <;> rfl
theorem iC_drop (l : List Int) (k : Nat) : (iC l).drop (k * 1) = iC (l.drop k) := by simp [iC]
theorem iC_take (l : List Int) (k : Nat) : (iC l).take (k * 1) = iC (l.take k) := by simp [iC, List.map_take]
theorem wC_drop (l : List (Int × Int)) (k : Nat) : (wC l).drop (k * 2) = wC (l.drop k) := by
 induction k generalizing l with
 | zero => simp
 | succ k ih =>
  cases l with
  | nil => simp [wC]
  | cons x r =>
   rw [List.drop_succ_cons, ← ih]
   simp only [wC, List.flatMap_cons]
   rw [show (k + 1) * 2 = (wP x).length + k * 2 by rw [show (wP x).length = 2 from rfl]; omega, ← List.drop_drop, List.drop_left]
theorem wC_take (l : List (Int × Int)) (k : Nat) : (wC l).take (k * 2) = wC (l.take k) := by
 induction k generalizing l with
 | zero => simp [wC]
 | succ k ih =>
  cases l with
  | nil => simp [wC]
  | cons x r =>
   rw [List.take_succ_cons]
   simp only [wC, List.flatMap_cons] at *
   rw [← ih, show (k + 1) * 2 = (wP x).length + k * 2 by rw [show (wP x).length = 2 from rfl]; omega, List.take_length_add_append]
theorem erase_eq {α : Type} (l : List α) (i : Nat) : l.take i ++ l.drop (i + 1) = l.eraseIdx i := (List.eraseIdx_eq_take_drop_succ l i).symm
theorem heap_setCell_self {w : World} {b i : Nat} {cs : Array Value} {t : TypeId} {fr : Nat × Nat} (h : w.heap[b]? = some (.cells cs t fr)) (u : Value) : (w.setCell ⟨b, i, none⟩ u).heap[b]? = some (.cells (cs.setIfInBounds i u) t fr) := by
 simp [World.setCell, Array.getElem?_modify, h]
theorem info_parts {P : Program} {e : TypeId} {z : Value} {size bytes : Nat} (h : (P.info? e).map (fun i => (i.zero, i.size, i.bytes)) = some (some z, size, bytes)) : ∃ i, P.info? e = some i ∧ i.zero = some z ∧ i.size = size ∧ i.bytes = bytes := by
 cases hi : P.info? e with
 | none => rw [hi] at h; cases h
 | some i =>
  rw [hi] at h
  simp only [Option.map_some, Option.some.injEq, Prod.mk.injEq] at h
  exact ⟨i, rfl, h.1, h.2.1, h.2.2⟩
theorem below_drewN {B : Nat} {a w : World} (h : Below B a w) (n : Nat) : Below B a (w.drewN n) := ⟨h.os, h.tape, h.output, h.size, h.block⟩
theorem make_eq (t e : TypeId) (z : Value) (size bytes : Nat) (ht : Tryz.prog.underlying t = some (.slice e)) (hi : (Tryz.prog.info? e).map (fun i => (i.zero, i.size, i.bytes)) = some (some z, size, bytes)) (n : Nat) (hb : bytes * n ≤ 281474976710656) (h63 : n ≤ maxLen) (W : World) :
  (Instr.makeSlice t (.int .i64 (n : Int)) (.int .i64 (n : Int))).run Tryz.prog W = .ok (.slice (some ⟨W.heap.size, 0, none⟩) n n) (W.alloc (.cells (madeCells z.cells (n * size)) e)) := by
 obtain ⟨i, h1, h2, h3, h4⟩ := info_parts hi
 subst h3 h4
 have h63' : (n : Int) ≤ 9223372036854775807 := by
  have h := h63
  simp [maxLen] at h
  omega
 have hb' : (i.bytes : Int) * (n : Int) ≤ 281474976710656 := by
  have h : ((i.bytes * n : Nat) : Int) ≤ 281474976710656 := by omega
  rwa [Int.natCast_mul] at h
 have hr := run_make (P := Tryz.prog) W t e i z ht h1 h2 .i64 .i64 n n (by omega) (Int.le_refl _) hb' h63'
 simp only [Int.toNat_natCast] at hr
 exact hr
theorem push_any {T e : TypeId} {z : Value} {size bytes : Nat} (hu : Tryz.prog.underlying T = some (.slice e)) (hinfo : (Tryz.prog.info? e).map (fun i => (i.zero, i.size, i.bytes)) = some (some z, size, bytes)) (hzs : z.cells.size = size)
  {w : World} {a : Option Addr} {n c : Nat} {xs : List Value} (hR : Row w e size a n c xs) (hn : n < maxLen) (hby : (n + 1) * bytes ≤ 140737488355328) (us : List Value) (hus : us.length = size) (h1 : ∀ u ∈ us, u.oneCell' = true) :
  ∃ a' c' w', (∀ ty, (Builtin.append_ #[T, T] ty #[.slice a n c, .slice (some ⟨w.heap.size, 0, none⟩) 1 1]).run Tryz.prog (w.alloc (.cells us.toArray e)) = .ok (.slice a' (n + 1) c') w') ∧
   Row w' e size a' (n + 1) c' (xs ++ us) ∧ Mod (fun k => blk a = some k) w w' ∧ (∀ k, blk a' = some k → blk a = some k ∨ w.heap.size ≤ k) := by
 obtain ⟨i, k1, k2, k3, k4⟩ := info_parts hinfo
 have hb := below_al w (.cells us.toArray e)
 have hh := heap_alloc_new w (.cells us.toArray e)
 have hs : Src Tryz.prog size T (.slice (some ⟨w.heap.size, 0, none⟩) 1 1) 1 us (w.alloc (.cells us.toArray e)) := by
  refine Src.ofSlice _ hu _ _ _ _ (by omega) (fun j u hj => ?_) h1
  rw [addr_add, cell_of_row _ _ _ _ _ _ hh, Nat.zero_add]
  simpa using hj
 obtain ⟨a', c', w', m1, m2, m3, m4, _⟩ := run_append_row (P := Tryz.prog) _ T e i _ size bytes hu k1 k2 k3 k4 hzs (hR.below hb) _ 1 _ hs (by omega) hby
 refine ⟨a', c', w', m1, m2, (Mod.of_below _ hb).trans m3 (fun _ h => .inl h), fun k hk => ?_⟩
 rcases m4 k hk with h | h
 ·exact .inl h
 ·exact .inr (by have := hb.size; omega)
theorem wpList_append_run {P : Program} {w : World} {ops : Array Oper} {rest : List Oper} {o : Oper} {a : Act} {Q : Exit → Act → World → Prop} (hgd : o.guard = none) (s x : Operand) (t : TypeId)
  (ho : o.op = .call { callee := .builtin .append, args := #[s, x], argTypes := #[t, t] }) (v vx v' : Value) (w' : World) (hs : a.eval s = v) (hx : a.eval x = vx)
  (hrun : ∀ ty, (Builtin.append_ #[t, t] ty #[v, vx]).run P w = .ok v' w') (h : wpList P ops Q rest (a.put o.dst v') w') : wpList P ops Q (o :: rest) a w :=
 wpList_plain hgd fun K hK => by
  unfold Oper.wp execOp
  simp only [ho, resolve, invoke, builtin, Sem.run_bind, Sem.run_pure, Result.andThen_ok, List.map_toArray, List.map_cons, List.map_nil, hs, hx, hrun]
  exact hK _ _ h
theorem step_append_run {P : Program} {w : World} {ops : Array Oper} {o : Oper} {a : Act} {K : Act → World → Prop} {Q : Exit → Act → World → Prop} {E : Prop} (hgd : o.guard = none) (s x : Operand) (t : TypeId)
  (ho : o.op = .call { callee := .builtin .append, args := #[s, x], argTypes := #[t, t] }) (v vx v' : Value) (w' : World) (hs : a.eval s = v) (hx : a.eval x = vx)
  (hrun : ∀ ty, (Builtin.append_ #[t, t] ty #[v, vx]).run P w = .ok v' w') (h : K (a.put o.dst v') w') : if Region.wanted o (yielded ops a.tmps) = true then Oper.wp P o a w K Q else E := by
 have hw : Region.wanted o (yielded ops a.tmps) = true := by simp [Region.wanted, hgd]
 rw [if_pos hw]
 unfold Oper.wp execOp
 simp only [ho, resolve, invoke, builtin, Sem.run_bind, Sem.run_pure, Result.andThen_ok, List.map_toArray, List.map_cons, List.map_nil, hs, hx, hrun]
 exact h
theorem infoT : (Tryz.prog.info? 205).map (fun i => (i.zero, i.size, i.bytes)) = some (some (.agg #[.int .i64 0, .int .i64 0]), 2, 16) := by kernel_rfl
theorem infoN : (Tryz.prog.info? 3).map (fun i => (i.zero, i.size, i.bytes)) = some (some (.int .i64 0), 1, 8) := by kernel_rfl
theorem row_t {w : World} {a : Option Addr} {n c : Nat} {O : List Th} {e : TypeId} (h : Row w e 2 a n c (wC O)) (i : Nat) (hi : i < O.length) : ∃ g, a = some ⟨g, 0, none⟩ ∧ w.cell? ⟨g, i * 2, none⟩ = some (.int .i64 (tAt O i).1) ∧ w.cell? ⟨g, i * 2 + 1, none⟩ = some (.int .i64 (tAt O i).2) := by
 have hl := h.len
 rw [wC_len] at hl
 obtain ⟨g, rfl, h0⟩ := h.cell (i * 2) (by omega)
 obtain ⟨g', e, h1⟩ := h.cell (i * 2 + 1) (by omega)
 cases e
 exact ⟨g, rfl, by rw [h0]; exact (wC_at O i hi).1, by rw [h1]; exact (wC_at O i hi).2⟩
theorem wC_set : ∀ (O : List Th) (i : Nat) (t : Th), ((wC O).set (i * 2) (.int .i64 t.1)).set (i * 2 + 1) (.int .i64 t.2) = wC (O.set i t)
 | [], i, t => by simp [wC]
 | x :: r, 0, t => rfl
 | x :: r, i + 1, t => by
  have ih := wC_set r i t
  have e : ∀ y (l : List Th), wC (y :: l) = wP y ++ wC l := fun y l => by simp [wC]
  rw [List.set_cons_succ, e, e, ← ih, List.set_append_right _ _ (by rw [show (wP x).length = 2 from rfl]; omega), List.set_append_right _ _ (by rw [show (wP x).length = 2 from rfl]; omega), show (wP x).length = 2 from rfl, show (i + 1) * 2 - 2 = i * 2 by omega, show (i + 1) * 2 + 1 - 2 = i * 2 + 1 by omega]
theorem _root_.Go.Proofs.YthhcecllejddeaaGreatDoor.Row.putT {w : World} {e : TypeId} {g n cap : Nat} {O : List Th} (h : Row w e 2 (some ⟨g, 0, none⟩) n cap (wC O)) (i : Nat) (t : Th) : Row ((w.setCell ⟨g, i * 2, none⟩ (.int .i64 t.1)).setCell ⟨g, i * 2 + 1, none⟩ (.int .i64 t.2)) e 2 (some ⟨g, 0, none⟩) n cap (wC (O.set i t)) := by
 have := (h.put (i * 2) (.int .i64 t.1)).put (i * 2 + 1) (.int .i64 t.2)
 rwa [wC_set] at this
end Go.Proofs.YthhcecllejddeaaGreatDoor.Wheel

namespace Go.Proofs.YthhcecllejddeaaGreatDoor.Wheel
set_option maxRecDepth 100000
open Go.RowKit
def cmpI (a b : Int) : Int := if a < b then -1 else if b < a then 1 else 0
def cfT (x y : Th) : Int := if cmpI x.1 y.1 = 0 then cmpI x.2 y.2 else cmpI x.1 y.1
theorem cfT_lt (x y : Th) : decide (cfT x y < 0) = decide (ltT x y) := by
 unfold cfT cmpI ltT
 by_cases h1 : x.1 < y.1
 ·simp [h1]
 ·by_cases h2 : y.1 < x.1
  ·simp [h1, h2]
   omega
  ·have e : x.1 = y.1 := by omega
   simp only [e]
   by_cases h3 : x.2 < y.2
   ·simp [h3]
   ·by_cases h4 : y.2 < x.2 <;> simp [h3, h4]
theorem isNaNI_any (x : Int) (w : World) : Calls Tryz.prog 248 #[.int .i64 x] w fun e w' => e = .returned (.bool false) ∧ w' = w := by
 go_enter Tryz.func248, Tryz.ntmps248
 go_wp2
 go_ret
 exact ⟨rfl, rfl⟩
theorem isNaN_any (x : Int) (w : World) : Calls Tryz.prog 249 #[.int .i64 x] w fun e w' => e = .returned (.bool false) ∧ w' = w := by
 go_enter Tryz.func249, Tryz.ntmps249
 go_wp2
 go_ret
 exact ⟨rfl, rfl⟩
theorem compareI_any (x y : Int) (w : World) : Calls Tryz.prog 225 #[.int .i64 x, .int .i64 y] w fun e w' => e = .returned (.int .i64 (cmpI x y)) ∧ w' = w := by
 have hx := isNaNI_any x w
 have hy := isNaNI_any y w
 unfold cmpI
 by_cases h1 : x < y
 ·rw [if_pos h1]
  go_enter Tryz.func225, Tryz.ntmps225
  go_wp2_with (first | (go_at_call 248; refine hx.mono ?_; rintro e1 w1 ⟨rfl, rfl⟩) | (go_at_call 248; refine hy.mono ?_; rintro e1 w1 ⟨rfl, rfl⟩))
  go_ret
  exact ⟨rfl, rfl⟩
 ·rw [if_neg h1]
  by_cases h2 : y < x
  ·rw [if_pos h2]
   have h1' : decide (x < y) = false := by simpa using h1
   clear h1
   go_enter Tryz.func225, Tryz.ntmps225
   go_wp2_with (first | (go_at_call 248; refine hx.mono ?_; rintro e1 w1 ⟨rfl, rfl⟩) | (go_at_call 248; refine hy.mono ?_; rintro e1 w1 ⟨rfl, rfl⟩))
   go_ret
   exact ⟨rfl, rfl⟩
  ·rw [if_neg h2]
   have h1' : decide (x < y) = false := by simpa using h1
   have h2' : decide (y < x) = false := by simpa using h2
   clear h1 h2
   go_enter Tryz.func225, Tryz.ntmps225
   go_wp2_with (first | (go_at_call 248; refine hx.mono ?_; rintro e1 w1 ⟨rfl, rfl⟩) | (go_at_call 248; refine hy.mono ?_; rintro e1 w1 ⟨rfl, rfl⟩))
   go_ret
   exact ⟨rfl, rfl⟩
theorem compareN_any (x y : Int) (w : World) : Calls Tryz.prog 226 #[.int .i64 x, .int .i64 y] w fun e w' => e = .returned (.int .i64 (cmpI x y)) ∧ w' = w := by
 have hx := isNaN_any x w
 have hy := isNaN_any y w
 unfold cmpI
 by_cases h1 : x < y
 ·rw [if_pos h1]
  go_enter Tryz.func226, Tryz.ntmps226
  go_wp2_with (first | (go_at_call 249; refine hx.mono ?_; rintro e1 w1 ⟨rfl, rfl⟩) | (go_at_call 249; refine hy.mono ?_; rintro e1 w1 ⟨rfl, rfl⟩))
  go_ret
  exact ⟨rfl, rfl⟩
 ·rw [if_neg h1]
  by_cases h2 : y < x
  ·rw [if_pos h2]
   have h1' : decide (x < y) = false := by simpa using h1
   clear h1
   go_enter Tryz.func226, Tryz.ntmps226
   go_wp2_with (first | (go_at_call 249; refine hx.mono ?_; rintro e1 w1 ⟨rfl, rfl⟩) | (go_at_call 249; refine hy.mono ?_; rintro e1 w1 ⟨rfl, rfl⟩))
   go_ret
   exact ⟨rfl, rfl⟩
  ·rw [if_neg h2]
   have h1' : decide (x < y) = false := by simpa using h1
   have h2' : decide (y < x) = false := by simpa using h2
   clear h1 h2
   go_enter Tryz.func226, Tryz.ntmps226
   go_wp2_with (first | (go_at_call 249; refine hx.mono ?_; rintro e1 w1 ⟨rfl, rfl⟩) | (go_at_call 249; refine hy.mono ?_; rintro e1 w1 ⟨rfl, rfl⟩))
   go_ret
   exact ⟨rfl, rfl⟩
theorem or_any (x y : Int) (g : Nat) (w : World) (h0 : w.cell? ⟨g, 0, none⟩ = some (.int .i64 x)) (h1 : w.cell? ⟨g, 1, none⟩ = some (.int .i64 y)) :
  Calls Tryz.prog 224 #[.slice (some ⟨g, 0, none⟩) 2 2] w fun e w' => e = .returned (.int .i64 (if x = 0 then y else x)) ∧ w' = w := by
 obtain ⟨R, hR⟩ : ∃ R, Hid ((if x = 0 then y else x) = R) := ⟨_, rfl⟩
 rw [hR.out]
 go_enter Tryz.func224, Tryz.ntmps224
 go_wp2
 go_loopg [5, 8] 2 (fun k v5 v8 wr => ∃ i : Nat, v8 = .int .i64 i ∧ i + k = 2 ∧ wr = w ∧ Hid (R = if i = 0 then (if x = 0 then y else x) else if i = 1 then y else 0))
 case atStart => exact ⟨0, rfl, rfl, rfl, hd (by rw [hR.out]; rfl)⟩
 case round =>
  obtain ⟨i, rfl, hik, rfl, HE⟩ := hrel
  clear hR
  by_cases hi0 : i = 0
  ·subst hi0
   by_cases hx : x = 0
   ·have hx' : (x == 0) = true := by simp [hx]
    have HE' : Hid (R = y) := hd (by rw [HE.out, hx]; rfl)
    clear hx HE
    go_wp2
    go_roundg (gk - 1)
    case measure => omega
    case rel => exact ⟨1, rfl, by omega, rfl, hd (by rw [HE'.out]; rfl)⟩
   ·have hx' : (x == 0) = false := by simpa using hx
    obtain rfl : R = x := by rw [HE.out]; simp [hx]
    clear hx HE
    go_wp2
    go_ret
    exact ⟨rfl, rfl⟩
  ·by_cases hi1 : i = 1
   ·subst hi1
    by_cases hy : y = 0
    ·have hy' : (y == 0) = true := by simp [hy]
     have HE' : Hid (R = 0) := hd (by rw [HE.out, hy]; rfl)
     clear hy HE hi0
     go_wp2
     go_roundg (gk - 1)
     case measure => omega
     case rel => exact ⟨2, rfl, by omega, rfl, hd (by rw [HE'.out]; rfl)⟩
    ·have hy' : (y == 0) = false := by simpa using hy
     obtain rfl : R = y := by rw [HE.out]; simp
     clear hy HE hi0
     go_wp2
     go_ret
     exact ⟨rfl, rfl⟩
   ·obtain rfl : i = 2 := by omega
    obtain rfl : R = 0 := by rw [HE.out]; rfl
    clear HE hi0 hi1
    go_wp2
    go_ret
    exact ⟨rfl, rfl⟩
end Go.Proofs.YthhcecllejddeaaGreatDoor.Wheel

namespace Go.Proofs.YthhcecllejddeaaGreatDoor.Wheel
set_option maxRecDepth 100000
open Go.RowKit Go.Sort
theorem grow_below (w : World) (n : Nat) (os : Array Obj) : Below w.heap.size w (grow (w.drewN n) os) :=
 ⟨rfl, rfl, rfl, by simp [grow, World.drewN], fun k hk => by
  unfold grow World.drewN
  exact Array.getElem?_append_left hk⟩
set_option maxRecDepth 100000 in
set_option maxHeartbeats 1000000 in
theorem compare_any (x y : Th) (W : World) : Calls Tryz.prog 179 #[.agg #[.int .i64 x.1, .int .i64 x.2], .agg #[.int .i64 y.1, .int .i64 y.2]] W fun e w' => e = .returned (.int .i64 (cfT x y)) ∧ ∃ q os, w' = grow (W.drewN q) os := by
 obtain ⟨x1, x2⟩ := x
 obtain ⟨y1, y2⟩ := y
 have h1 := fun w => compareI_any x1 y1 w
 have h2 := fun w => compareN_any x2 y2 w
 have ho := fun g w h0 h1 => or_any (cmpI x1 y1) (cmpI x2 y2) g w h0 h1
 have eC : (if cmpI x1 y1 = 0 then cmpI x2 y2 else cmpI x1 y1) = cfT (x1, x2) (y1, y2) := rfl
 rw [eC] at ho
 generalize cfT (x1, x2) (y1, y2) = R at ho ⊢
 clear eC
 generalize cmpI x1 y1 = c1 at h1 ho
 generalize cmpI x2 y2 = c2 at h2 ho
 go_enter Tryz.func179, Tryz.ntmps179
 go_upto_region 1 with fail
 obtain ⟨w0, hw0⟩ : ∃ w0, Hid ((W.alloc (.cells #[.int .i64 x1, .int .i64 x2] 205)).alloc (.cells #[.int .i64 y1, .int .i64 y2] 205) = w0) := ⟨_, rfl⟩
 have k0 : w0.cell? ⟨W.heap.size, 0, none⟩ = some (.int .i64 x1) := by rw [← hw0.out]; simp
 have k1 : w0.cell? ⟨W.heap.size, 1, none⟩ = some (.int .i64 x2) := by rw [← hw0.out]; simp
 have k2 : w0.cell? ⟨W.heap.size + 1, 0, none⟩ = some (.int .i64 y1) := by rw [← hw0.out]; simp
 have k3 : w0.cell? ⟨W.heap.size + 1, 1, none⟩ = some (.int .i64 y2) := by rw [← hw0.out]; simp
 have HW : Hid (∃ os, w0 = grow W os) := hd ⟨_, by rw [← hw0.out, alloc_eq_grow, alloc_eq_grow, grow_grow]⟩
 rw [hw0.out]
 clear hw0
 go_region_held3 (fun w' => w'.cell? ⟨W.heap.size, 0, none⟩ = some (.int .i64 x1) ∧ w'.cell? ⟨W.heap.size, 1, none⟩ = some (.int .i64 x2) ∧ w'.cell? ⟨W.heap.size + 1, 0, none⟩ = some (.int .i64 y1) ∧ w'.cell? ⟨W.heap.size + 1, 1, none⟩ = some (.int .i64 y2)) (go_keep)
  (first
   | (go_at_call 225; refine (h1 _).mono ?_; rintro e1 w1 ⟨rfl, rfl⟩)
   | (go_at_call 226; refine (h2 _).mono ?_; rintro e1 w1 ⟨rfl, rfl⟩)
   | (go_at_call 224; refine (ho _ _ (by simp) (by simp)).mono ?_; rintro e1 w1 ⟨rfl, rfl⟩))
 go_wp2_with fail
 go_ret
 obtain ⟨os, rfl⟩ := HW.out
 exact ⟨rfl, 1, os ++ #[_], by rw [alloc_eq_grow]; exact grow_grow W.drew os _⟩
theorem tlen_any {a : Option Addr} {n c : Nat} {w : World} : Calls Tryz.prog 319 #[.slice a n c] w fun e w' => e = .returned (.int .i64 n) ∧ w' = w := by
 go_enter Tryz.func319, Tryz.ntmps319
 go_wp2
 go_ret
 exact ⟨rfl, rfl⟩
set_option maxRecDepth 100000 in
set_option maxHeartbeats 1000000 in
theorem less_any {a : Option Addr} {n c i j : Nat} {O : List Th} {w : World} (h : Row w 205 2 a n c (wC O)) (hi : i < n) (hj : j < n) (B : Bool) (hB : B = decide (ltT (tAt O i) (tAt O j))) :
    Calls Tryz.prog 320 #[.slice a n c, .int .i64 (i : Int), .int .i64 (j : Int)] w fun e w' => e = .returned (.bool B) ∧ Below w.heap.size w w' := by
  have hl := h.len
  rw [wC_len] at hl
  obtain ⟨g, rfl, c0, c1⟩ := row_t h i (by omega)
  obtain ⟨g', e, d0, d1⟩ := row_t h j (by omega)
  cases e
  have hlt := h.lt g rfl
  rw [← cfT_lt] at hB
  have hc := fun W => compare_any (tAt O i) (tAt O j) W
  generalize tAt O i = x at *
  generalize tAt O j = y at *
  obtain ⟨x1, x2⟩ := x
  obtain ⟨y1, y2⟩ := y
  simp only at c0 c1 d0 d1 hc
  have hi' : (i : Int) < (n : Int) := by omega
  have hj' : (j : Int) < (n : Int) := by omega
  generalize cfT (x1, x2) (y1, y2) = R at *
  have hB' : decide (R < 0) = B := hB.symm
  clear h hl hB
  go_enter Tryz.func320, Tryz.ntmps320
  go_wp2_with fail
  go_region_held3 (fun w' => w'.cell? ⟨g, i * 2, none⟩ = some (.int .i64 x1) ∧ w'.cell? ⟨g, i * 2 + 1, none⟩ = some (.int .i64 x2) ∧ w'.cell? ⟨g, j * 2, none⟩ = some (.int .i64 y1) ∧ w'.cell? ⟨g, j * 2 + 1, none⟩ = some (.int .i64 y2)) (go_keep)
    (first
      | (go_at_call 179; refine (hc _).mono ?_; rintro e1 w1 ⟨rfl, q, os, hq⟩
         have b1 : Below w.heap.size w w1 := by rw [hq]; exact Below.trans (Below.refl _ w).drew (by exact grow_below w.drew q os)
         obtain ⟨k0, k1, k2, k3⟩ : w1.cell? ⟨g, i * 2, none⟩ = some (.int .i64 x1) ∧ w1.cell? ⟨g, i * 2 + 1, none⟩ = some (.int .i64 x2) ∧ w1.cell? ⟨g, j * 2, none⟩ = some (.int .i64 y1) ∧ w1.cell? ⟨g, j * 2 + 1, none⟩ = some (.int .i64 y2) := ⟨by rw [b1.cell (p := ⟨g, i * 2, none⟩) hlt]; exact c0, by rw [b1.cell (p := ⟨g, i * 2 + 1, none⟩) hlt]; exact c1, by rw [b1.cell (p := ⟨g, j * 2, none⟩) hlt]; exact d0, by rw [b1.cell (p := ⟨g, j * 2 + 1, none⟩) hlt]; exact d1⟩
         clear hq))
  go_wp2_with fail
  go_ret
  exact ⟨rfl, b1⟩
theorem cell_setCell_off (W : World) (g : Nat) {p q : Nat} (h : q ≠ p) (u : Value) : (W.setCell ⟨g, p, none⟩ u).cell? ⟨g, q, none⟩ = W.cell? ⟨g, q, none⟩ := by
 apply World.cell?_setCell_other
 intro e
 injection e with _ e2 _
 exact h e2.symm
theorem below_setTwo {w : World} {S : Nat → Prop} {g : Nat} (hg : S g) (p q r s : Nat) (u1 u2 u3 u4 : Value) : Mod S w ((((w.drew.setCell ⟨g, p, none⟩ u1).setCell ⟨g, q, none⟩ u2).setCell ⟨g, r, none⟩ u3).setCell ⟨g, s, none⟩ u4) :=
 (((((Mod.of_below S ((Below.refl _ w).drew)).setCell (p := ⟨g, p, none⟩) (.inl hg) u1).setCell (p := ⟨g, q, none⟩) (.inl hg) u2).setCell (p := ⟨g, r, none⟩) (.inl hg) u3).setCell (p := ⟨g, s, none⟩) (.inl hg) u4)
set_option maxRecDepth 100000 in
set_option maxHeartbeats 400000 in
theorem swap_any {a : Option Addr} {n c i j : Nat} {O : List Th} {w : World} (h : Row w 205 2 a n c (wC O)) (hi : i < n) (hj : j < n) :
  Calls Tryz.prog 321 #[.slice a n c, .int .i64 (i : Int), .int .i64 (j : Int)] w fun e w' => e = .returned (.tuple #[]) ∧ Row w' 205 2 a n c (wC (swL O i j)) ∧ Mod (fun k => blk a = some k) w w' := by
 have hl := h.len
 rw [wC_len] at hl
 obtain ⟨g, rfl, c0, c1⟩ := row_t h i (by omega)
 obtain ⟨g', e, d0, d1⟩ := row_t h j (by omega)
 cases e
 have f0 := h.free (i * 2) g rfl
 have f1 := h.free (i * 2 + 1) g rfl
 have f2 := h.free (j * 2) g rfl
 have f3 := h.free (j * 2 + 1) g rfl
 have HE : Hid (Row ((((w.drew.setCell ⟨g, i * 2, none⟩ (.int .i64 (tAt O j).1)).setCell ⟨g, i * 2 + 1, none⟩ (.int .i64 (tAt O j).2)).setCell ⟨g, j * 2, none⟩ (.int .i64 (tAt O i).1)).setCell ⟨g, j * 2 + 1, none⟩ (.int .i64 (tAt O i).2)) 205 2 (some ⟨g, 0, none⟩) n c (wC (swL O i j))) := hd
  (((h.below ((Below.refl _ w).drew)).putT i (tAt O j)).putT j (tAt O i))
 have hi' : (i : Int) < (n : Int) := by omega
 have hj' : (j : Int) < (n : Int) := by omega
 clear h hl
 by_cases hij : i = j
 ·subst hij
  clear d0 d1 f2 f3 hj hj'
  generalize tAt O i = x at *
  obtain ⟨x1, x2⟩ := x
  simp only at c0 c1 HE
  go_enter Tryz.func321, Tryz.ntmps321
  go_wp2_with fail
  go_region
  go_end0
  exact ⟨rfl, HE.out, below_setTwo (S := fun k => blk (some ⟨g, 0, none⟩) = some k) rfl _ _ _ _ _ _ _ _⟩
 ·generalize tAt O i = x at *
  generalize tAt O j = y at *
  obtain ⟨x1, x2⟩ := x
  obtain ⟨y1, y2⟩ := y
  simp only at c0 c1 d0 d1 HE
  have q0 : ∀ (W : World) (u : Value), (W.setCell ⟨g, i * 2, none⟩ u).cell? ⟨g, j * 2, none⟩ = W.cell? ⟨g, j * 2, none⟩ := fun W u => cell_setCell_off W g (by omega) u
  have q1 : ∀ (W : World) (u : Value), (W.setCell ⟨g, i * 2 + 1, none⟩ u).cell? ⟨g, j * 2, none⟩ = W.cell? ⟨g, j * 2, none⟩ := fun W u => cell_setCell_off W g (by omega) u
  have q2 : ∀ (W : World) (u : Value), (W.setCell ⟨g, i * 2, none⟩ u).cell? ⟨g, j * 2 + 1, none⟩ = W.cell? ⟨g, j * 2 + 1, none⟩ := fun W u => cell_setCell_off W g (by omega) u
  have q3 : ∀ (W : World) (u : Value), (W.setCell ⟨g, i * 2 + 1, none⟩ u).cell? ⟨g, j * 2 + 1, none⟩ = W.cell? ⟨g, j * 2 + 1, none⟩ := fun W u => cell_setCell_off W g (by omega) u
  clear hij
  go_enter Tryz.func321, Tryz.ntmps321
  go_wp2_with fail
  go_region
  go_end0
  exact ⟨rfl, HE.out, below_setTwo (S := fun k => blk (some ⟨g, 0, none⟩) = some k) rfl _ _ _ _ _ _ _ _⟩
end Go.Proofs.YthhcecllejddeaaGreatDoor.Wheel

namespace Go.Proofs.YthhcecllejddeaaGreatDoor.Wheel
set_option maxRecDepth 100000
open Go.RowKit Go.Sort Go.Shelf
theorem mPush (p : Addr) (w : World) : Sem.run Tryz.prog (method 496 237 (.pointer (some p)) "Push") w = .ok (323, .pointer (some p)) w := by kernel_rfl
theorem mPop (p : Addr) (w : World) : Sem.run Tryz.prog (method 496 237 (.pointer (some p)) "Pop") w = .ok (322, .pointer (some p)) w := by kernel_rfl
theorem loadVar_ths {b i : Nat} {a : Option Addr} {n c : Nat} {w : World} (h : w.cell? ⟨b, i, none⟩ = some (.slice a n c)) : Sem.run Tryz.prog (loadVar 209 ⟨b, i, none⟩) w = .ok (.slice a n c) w := by
 simp [loadVar, go_sem, h]
theorem wrapNil (P : Program) (xt : TypeId) (p : Addr) (s t : String) (w : World) : Sem.run P (Builtin.ssaWrapNilChk_ #[xt] xt #[.pointer (some p), strVal s, strVal t]) w = .ok (.pointer (some p)) w := rfl
theorem mVal {f : Nat} {name : String} (hm : (Tryz.prog.info? 237).map (fun i => (i.methods.find? (·.name == name)).map (fun m => (m.path.toList, m.func))) = some (some ([], some (f, false)))) {b j : Nat} {a : Option Addr} {n c : Nat} {w : World} (h : w.cell? ⟨b, j, none⟩ = some (.slice a n c)) :
  Sem.run Tryz.prog (method 496 237 (.pointer (some ⟨b, j, none⟩)) name) w = .ok (f, .slice a n c) w := by
 have hl := loadVar_ths h
 cases hi : Tryz.prog.info? 237 with
 | none => rw [hi] at hm; cases hm
 | some i =>
  rw [hi] at hm
  simp only [Option.map_some, Option.some.injEq] at hm
  cases hf : i.methods.find? (·.name == name) with
  | none => rw [hf] at hm; cases hm
  | some m =>
   rw [hf] at hm
   simp only [Option.map_some, Option.some.injEq, Prod.mk.injEq] at hm
   obtain ⟨h1, h2⟩ := hm
   unfold method
   have hp : m.path = #[] := Array.toList_eq_nil_iff.1 h1
   simp [typeInfo, hi, hf, h2, hp, follow, receiverAt, Result.andThen, Place.get, wrapNil, asAddr, hl, run_underlying Tryz.underlying237]
theorem mLen {b j : Nat} {a : Option Addr} {n c : Nat} {w : World} (h : w.cell? ⟨b, j, none⟩ = some (.slice a n c)) : Sem.run Tryz.prog (method 496 237 (.pointer (some ⟨b, j, none⟩)) "Len") w = .ok (319, .slice a n c) w := mVal (by kernel_rfl) h
theorem mLess {b j : Nat} {a : Option Addr} {n c : Nat} {w : World} (h : w.cell? ⟨b, j, none⟩ = some (.slice a n c)) : Sem.run Tryz.prog (method 496 237 (.pointer (some ⟨b, j, none⟩)) "Less") w = .ok (320, .slice a n c) w := mVal (by kernel_rfl) h
theorem mSwap {b j : Nat} {a : Option Addr} {n c : Nat} {w : World} (h : w.cell? ⟨b, j, none⟩ = some (.slice a n c)) : Sem.run Tryz.prog (method 496 237 (.pointer (some ⟨b, j, none⟩)) "Swap") w = .ok (321, .slice a n c) w := mVal (by kernel_rfl) h
theorem eLen (args : Array Value) (w : World) : (callFunc 319 args).run Tryz.prog w = .ok (.enter 319 args) w := enters_of Tryz.func319 (by kernel_rfl) rfl args w
theorem eLess (args : Array Value) (w : World) : (callFunc 320 args).run Tryz.prog w = .ok (.enter 320 args) w := enters_of Tryz.func320 (by kernel_rfl) rfl args w
theorem eSwap (args : Array Value) (w : World) : (callFunc 321 args).run Tryz.prog w = .ok (.enter 321 args) w := enters_of Tryz.func321 (by kernel_rfl) rfl args w
theorem ePush (args : Array Value) (w : World) : (callFunc 323 args).run Tryz.prog w = .ok (.enter 323 args) w := enters_of Tryz.func323 (by kernel_rfl) rfl args w
theorem ePop (args : Array Value) (w : World) : (callFunc 322 args).run Tryz.prog w = .ok (.enter 322 args) w := enters_of Tryz.func322 (by kernel_rfl) rfl args w
structure HpAt (w : World) (b m : Nat) (a : Option Addr) (c : Nat) (O : List Th) : Prop where
 obj : w.heap[b]? = some (.cells #[.map (some m), .slice a O.length c] 211 (0, 0))
 row : Row w 205 2 a O.length c (wC O)
 ne : ∀ k, blk a = some k → k ≠ b
section
variable {w w' : World} {b m : Nat} {a : Option Addr} {c : Nat} {O : List Th}
theorem HpAt.blt (h : HpAt w b m a c O) : b < w.heap.size := (Array.getElem?_eq_some_iff.1 h.obj).1
theorem HpAt.lt (h : HpAt w b m a c O) : ∀ k, blk a = some k → k < w.heap.size := h.row.lt
theorem HpAt.c0 (h : HpAt w b m a c O) : w.cell? ⟨b, 0, none⟩ = some (.map (some m)) := by rw [cell_of_row _ _ _ _ _ _ h.obj]; rfl
theorem HpAt.c1 (h : HpAt w b m a c O) : w.cell? ⟨b, 1, none⟩ = some (.slice a O.length c) := by rw [cell_of_row _ _ _ _ _ _ h.obj]; rfl
theorem HpAt.free (h : HpAt w b m a c O) (i : Nat) : w.frozen? ⟨b, i, none⟩ = false := by simp [World.frozen?, h.obj]
theorem HpAt.mod {S : Nat → Prop} (h : HpAt w b m a c O) (hm : Mod S w w') (hb : ¬ S b) (hn : ∀ k, blk a = some k → ¬ S k) : HpAt w' b m a c O := ⟨by rw [hm.block b h.blt hb]; exact h.obj, h.row.mod hm hn, h.ne⟩
theorem HpAt.below (h : HpAt w b m a c O) (hb : Below w.heap.size w w') : HpAt w' b m a c O := h.mod (Mod.of_below (fun _ => False) hb) (fun h => h) (fun _ _ h => h)
theorem HpAt.over {O' : List Th} (h : HpAt w b m a c O) (hm : Mod (fun k => blk a = some k) w w') (hR : Row w' 205 2 a O'.length c (wC O')) (hl : O'.length = O.length) : HpAt w' b m a c O' :=
 ⟨by rw [hm.block b h.blt (fun e => h.ne b e rfl), hl]; exact h.obj, hR, h.ne⟩
theorem HpAt.lay {O' : List Th} {a' : Option Addr} {c' n : Nat} (h : w.heap[b]? = some (.cells #[.map (some m), .slice a O.length c] 211 (0, 0))) (hR : Row w 205 2 a' n c' (wC O')) (hl : n = O'.length) (hn : ∀ k, blk a' = some k → k ≠ b) : HpAt (w.setCell ⟨b, 1, none⟩ (.slice a' n c')) b m a' c' O' := by
 subst hl
 refine ⟨?_, hR.kept fun k hk => Below.heap_setCell _ _ _ _ (hn k hk), hn⟩
 rw [heap_setCell_self h]
 rfl
end
end Go.Proofs.YthhcecllejddeaaGreatDoor.Wheel
