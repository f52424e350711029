/- Configs: which may be, and as bytes, over whole numbers. -/
import Derived.Test.YthhcecllejddeaaGreatDoorGCb
namespace Go.Proofs.YthhcecllejddeaaGreatDoor
open Go.RowKit
structure Pr where
 part : Int
 code : List Ins
instance : Inhabited Pr := ⟨⟨0, []⟩⟩
structure Cfg where
 labels : List Nat
 table : List Int
 fuel : Int
 lane : Int
 locks : Int
 log : Int
 procs : List Pr
def lbFrom (l : List Nat) : Nat → Nat → Nat × Nat
 | 0, _ => (0, 0)
 | m + 1, i => if l.getD i 0 = l.getD (i - 1) 0 then (8, i) else if l.getD i 0 < l.getD (i - 1) 0 then (7, i) else lbFrom l m (i + 1)
def lbL (l : List Nat) : Nat × Nat := if l.length = 0 then (1, 0) else if 8 < l.length then (3, 8) else lbFrom l (l.length - 1) 1
def isPt (P x : Int) : Bool := decide (0 ≤ x) && decide (x < P)
def tabE (l : List Int) (P : Int) : Int := if l.length = 0 then 1 else if 64 < l.length then 3 else if l.all (isPt P) then 0 else 2
def rngE (lo hi v : Int) : Int := if lo ≤ v ∧ v ≤ hi then 0 else 2
def cntE (most n : Int) : Int := if n = 0 then 1 else if most < n then 3 else 0
def prE (P K : Int) (p : Pr) : Int := if rngE 0 (P - 1) p.part ≠ 0 then 2 else (mayL p.code K).1
def prF (P K : Int) : List Pr → Int → Int × Int
 | [], _ => (0, 0)
 | p :: r, i => if prE P K p ≠ 0 then (prE P K p, 7 + i) else prF P K r (i + 1)
def mayC (c : Cfg) : Int × Int :=
 if (lbL c.labels).1 ≠ 0 then ((lbL c.labels).1, 0) else
 if tabE c.table c.labels.length ≠ 0 then (tabE c.table c.labels.length, 1) else
 if rngE 1 256 c.fuel ≠ 0 then (2, 2) else
 if rngE 1 64 c.lane ≠ 0 then (2, 3) else
 if rngE 0 8 c.locks ≠ 0 then (2, 4) else
 if rngE 0 4096 c.log ≠ 0 then (2, 5) else
 if cntE 32 c.procs.length ≠ 0 then (cntE 32 c.procs.length, 6) else
 prF c.labels.length c.locks c.procs 0
def numB (k u : Nat) : List Nat := (List.range k).map fun j => u / 2 ^ (8 * j) % 256
def hdB : List Nat := [70, 66, 67, 70, 1]
def prB (p : Pr) : List Nat := numB 1 (u64 p.part) ++ (numB 2 p.code.length ++ encB p.code)
def encC (c : Cfg) : List Nat :=
 hdB ++ ((numB 1 c.labels.length ++ c.labels.flatMap (numB 8)) ++ ((numB 1 c.table.length ++ c.table.flatMap fun x => numB 1 (u64 x)) ++
 (numB 2 (u64 c.fuel) ++ (numB 1 (u64 c.lane) ++ (numB 1 (u64 c.locks) ++ (numB 2 (u64 c.log) ++ (numB 1 c.procs.length ++ c.procs.flatMap prB)))))))
inductive Res (α : Type) where
 | ok (a : α) (p : Nat) : Res α
 | er (e at_ : Int) : Res α
def Par (α : Type) : Type := List Nat → Nat → Res α
def pure_ {α : Type} (a : α) : Par α := fun _ p => .ok a p
def bind_ {α β : Type} (x : Par α) (f : α → Par β) : Par β := fun bs p => match x bs p with
 | .ok a q => f a bs q
 | .er e a => .er e a
def numP (k : Nat) (f : Nat → Int) : Par Nat := fun bs p =>
 if bs.length < p + k then .er 5 bs.length else if f (sumB bs p k) ≠ 0 then .er (f (sumB bs p k)) p else .ok (sumB bs p k) (p + k)
def repP {α : Type} (f : List α → Par α) : Nat → List α → Par (List α)
 | 0, acc => pure_ acc
 | m + 1, acc => bind_ (f acc) fun a => repP f m (acc ++ [a])
def hdP : Par Unit := bind_ (repP (fun acc => numP 1 fun n => if n = hdB.getD acc.length 0 then 0 else 4) 5 []) fun _ => pure_ ()
def labE (acc : List Nat) (v : Nat) : Int := if acc.length = 0 then 0 else if v = acc.getD (acc.length - 1) 0 then 8 else if v < acc.getD (acc.length - 1) 0 then 7 else 0
def labP : Par (List Nat) := bind_ (numP 1 fun n => cntE 8 n) fun n => repP (fun acc => numP 8 (labE acc)) n []
def ptP (P : Int) : Par Nat := numP 1 fun n => rngE 0 (P - 1) n
def tabP (P : Int) : Par (List Nat) := bind_ (numP 1 fun n => cntE 64 n) fun n => repP (fun _ => ptP P) n []
def insP (n k : Int) : Par Ins := fun bs p =>
 if bs.length < p + 12 then .er 5 bs.length else if (wrong (getI bs p) n k).1 ≠ 0 then .er (wrong (getI bs p) n k).1 (p + (wrong (getI bs p) n k).2) else .ok (getI bs p) (p + 12)
def lenE (n : Nat) : Int := if 256 < n then 3 else 0
def codP (k : Int) : Par (List Ins) := bind_ (numP 2 lenE) fun n => repP (fun _ => insP n k) n []
def prP (P K : Int) : Par Pr := bind_ (ptP P) fun part => bind_ (codP K) fun l => pure_ ⟨part, l⟩
def prsP (P K : Int) : Par (List Pr) := bind_ (numP 1 fun n => cntE 32 n) fun n => repP (fun _ => prP P K) n []
def fuelP : Par Nat := numP 2 fun n => rngE 1 256 n
def laneP : Par Nat := numP 1 fun n => rngE 1 64 n
def locksP : Par Nat := numP 1 fun n => rngE 0 8 n
def logP : Par Nat := numP 2 fun n => rngE 0 4096 n
def cfgP : Par Cfg := bind_ hdP fun _ => bind_ labP fun labels => bind_ (tabP labels.length) fun table => bind_ fuelP fun fuel => bind_ laneP fun lane => bind_ locksP fun locks => bind_ logP fun log =>
 bind_ (prsP labels.length locks) fun procs => pure_ ⟨labels, table.map fun x : Nat => (x : Int), fuel, lane, locks, log, procs⟩
def decC (bs : List Nat) : Res Cfg := if 1048576 < bs.length then .er 22 1048576 else bind_ cfgP (fun c bs p => if p < bs.length then .er 6 p else .ok c p) bs 0
def noC : Cfg := ⟨[], [], 0, 0, 0, 0, []⟩
def decF (bs : List Nat) : Cfg × Int × Int := match decC bs with
 | .ok c _ => (c, 0, 0)
 | .er e a => (noC, e, a)
end Go.Proofs.YthhcecllejddeaaGreatDoor

namespace Go.Proofs.YthhcecllejddeaaGreatDoor
open Go.RowKit
def Byte (bs : List Nat) : Prop := ∀ i, bs.getD i 0 < 256
theorem numB_len (k u : Nat) : (numB k u).length = k := by simp [numB]
def VL {α : Type} (V : List α → α → Prop) : List α → List α → Prop
 | _, [] => True
 | acc, a :: r => V acc a ∧ VL V (acc ++ [a]) r
end Go.Proofs.YthhcecllejddeaaGreatDoor

namespace Go.Proofs.YthhcecllejddeaaGreatDoor
open Go.RowKit
def codV (K : Int) (l : List Ins) : Prop := (lenE l.length = 0 ∧ l.length < 2 ^ (8 * 2)) ∧ VL (fun _ x => (wrong x l.length K).1 = 0 ∧ Fit x) [] l
def ptVq (P : Int) (n : Nat) : Prop := rngE 0 (P - 1) n = 0 ∧ n < 2 ^ (8 * 1)
def prVq (P K : Int) (p : Pr) : Prop := ptVq P p.part.toNat ∧ 0 ≤ p.part ∧ codV K p.code
def labV (l : List Nat) : Prop := (cntE 8 l.length = 0 ∧ l.length < 2 ^ (8 * 1)) ∧ VL (fun acc n => labE acc n = 0 ∧ n < 2 ^ (8 * 8)) [] l
def tabV (P : Int) (l : List Nat) : Prop := (cntE 64 l.length = 0 ∧ l.length < 2 ^ (8 * 1)) ∧ VL (fun _ n => ptVq P n) [] l
def prsV (P K : Int) (l : List Pr) : Prop := (cntE 32 l.length = 0 ∧ l.length < 2 ^ (8 * 1)) ∧ VL (fun _ p => prVq P K p) [] l
end Go.Proofs.YthhcecllejddeaaGreatDoor

namespace Go.Proofs.YthhcecllejddeaaGreatDoor
open Go.RowKit
def iT (c : Cfg) : List Nat := c.table.map Int.toNat
def mkC (labels table : List Nat) (fuel lane locks log : Nat) (procs : List Pr) : Cfg := ⟨labels, table.map fun x : Nat => (x : Int), fuel, lane, locks, log, procs⟩
def W8 (labels table : List Nat) (fuel lane locks log : Nat) (c : Cfg) : Prop := prsV labels.length locks c.procs ∧ c = mkC labels table fuel lane locks log c.procs
def W7 (labels table : List Nat) (fuel lane locks : Nat) (c : Cfg) : Prop := (rngE 0 4096 c.log.toNat = 0 ∧ c.log.toNat < 2 ^ (8 * 2)) ∧ W8 labels table fuel lane locks c.log.toNat c
def W6 (labels table : List Nat) (fuel lane : Nat) (c : Cfg) : Prop := (rngE 0 8 c.locks.toNat = 0 ∧ c.locks.toNat < 2 ^ (8 * 1)) ∧ W7 labels table fuel lane c.locks.toNat c
def W5 (labels table : List Nat) (fuel : Nat) (c : Cfg) : Prop := (rngE 1 64 c.lane.toNat = 0 ∧ c.lane.toNat < 2 ^ (8 * 1)) ∧ W6 labels table fuel c.lane.toNat c
def W4 (labels table : List Nat) (c : Cfg) : Prop := (rngE 1 256 c.fuel.toNat = 0 ∧ c.fuel.toNat < 2 ^ (8 * 2)) ∧ W5 labels table c.fuel.toNat c
def W3 (labels : List Nat) (c : Cfg) : Prop := tabV labels.length (iT c) ∧ W4 labels (iT c) c
def W2 (c : Cfg) : Prop := labV c.labels ∧ W3 c.labels c
def P8 (labels table : List Nat) (fuel lane locks log : Nat) : Par Cfg := bind_ (prsP labels.length locks) fun procs => pure_ (mkC labels table fuel lane locks log procs)
def P7 (labels table : List Nat) (fuel lane locks : Nat) : Par Cfg := bind_ logP fun log => P8 labels table fuel lane locks log
def P6 (labels table : List Nat) (fuel lane : Nat) : Par Cfg := bind_ locksP fun locks => P7 labels table fuel lane locks
def P5 (labels table : List Nat) (fuel : Nat) : Par Cfg := bind_ laneP fun lane => P6 labels table fuel lane
def P4 (labels table : List Nat) : Par Cfg := bind_ fuelP fun fuel => P5 labels table fuel
def P3 (labels : List Nat) : Par Cfg := bind_ (tabP labels.length) fun table => P4 labels table
def P2 : Par Cfg := bind_ labP fun labels => P3 labels
theorem cfgP_eq : cfgP = bind_ hdP fun _ => P2 := rfl
def E8 (c : Cfg) : List Nat := (numB 1 c.procs.length ++ c.procs.flatMap prB) ++ []
def E7 (c : Cfg) : List Nat := numB 2 c.log.toNat ++ E8 c
def E6 (c : Cfg) : List Nat := numB 1 c.locks.toNat ++ E7 c
def E5 (c : Cfg) : List Nat := numB 1 c.lane.toNat ++ E6 c
def E4 (c : Cfg) : List Nat := numB 2 c.fuel.toNat ++ E5 c
def E3 (c : Cfg) : List Nat := (numB 1 (iT c).length ++ (iT c).flatMap (numB 1)) ++ E4 c
def E2 (c : Cfg) : List Nat := (numB 1 c.labels.length ++ c.labels.flatMap (numB 8)) ++ E3 c
def E1 (c : Cfg) : List Nat := hdB ++ E2 c
theorem prF_iff (P K : Int) : ∀ (l : List Pr) (i : Int), (prF P K l i).1 = 0 ↔ ∀ p ∈ l, prE P K p = 0
 | [], _ => by simp [prF]
 | p :: r, i => by
  unfold prF
  by_cases h : prE P K p = 0
  ·rw [if_neg (by simp [h]), prF_iff P K r (i + 1)]
   simp [h]
  ·rw [if_pos h]
   simp [h]
theorem prF_zero (P K : Int) : ∀ (l : List Pr) (i : Int), (prF P K l i).1 = 0 → prF P K l i = (0, 0)
 | [], _, _ => rfl
 | p :: r, i, h => by
  unfold prF at h ⊢
  by_cases h1 : prE P K p = 0
  ·rw [if_neg (by simp [h1])] at h ⊢
   exact prF_zero P K r (i + 1) h
  ·rw [if_pos h1] at h
   exact absurd h h1
structure Good (c : Cfg) : Prop where
 lab : ∀ x ∈ c.labels, x < 18446744073709551616
 fit : ∀ p ∈ c.procs, ∀ x ∈ p.code, Fit x
theorem lab_len {l : List Nat} (h : (lbL l).1 = 0) : 1 ≤ l.length ∧ l.length ≤ 8 := by
 unfold lbL at h
 split at h
 ·simp at h
 ·split at h
  ·simp at h
  ·omega
theorem mayC_iff (c : Cfg) : (mayC c).1 = 0 ↔ (lbL c.labels).1 = 0 ∧ tabE c.table c.labels.length = 0 ∧ rngE 1 256 c.fuel = 0 ∧ rngE 1 64 c.lane = 0 ∧ rngE 0 8 c.locks = 0 ∧ rngE 0 4096 c.log = 0 ∧ cntE 32 c.procs.length = 0 ∧ ∀ p ∈ c.procs, prE c.labels.length c.locks p = 0 := by
 unfold mayC
 by_cases h0 : (lbL c.labels).1 = 0
 ·rw [if_neg (by simp [h0])]
  by_cases h1 : tabE c.table c.labels.length = 0
  ·rw [if_neg (by simp [h1])]
   by_cases h2 : rngE 1 256 c.fuel = 0
   ·rw [if_neg (by simp [h2])]
    by_cases h3 : rngE 1 64 c.lane = 0
    ·rw [if_neg (by simp [h3])]
     by_cases h4 : rngE 0 8 c.locks = 0
     ·rw [if_neg (by simp [h4])]
      by_cases h5 : rngE 0 4096 c.log = 0
      ·rw [if_neg (by simp [h5])]
       by_cases h6 : cntE 32 c.procs.length = 0
       ·rw [if_neg (by simp [h6]), prF_iff]
        simp [h0, h1, h2, h3, h4, h5, h6]
       ·rw [if_pos h6]
        simp [h6]
      ·rw [if_pos h5]; simp [h5]
     ·rw [if_pos h4]; simp [h4]
    ·rw [if_pos h3]; simp [h3]
   ·rw [if_pos h2]; simp [h2]
  ·rw [if_pos h1]; simp [h1]
 ·rw [if_pos (by simpa using h0)]; simp [h0]
theorem mayC_zero (c : Cfg) (h : (mayC c).1 = 0) : mayC c = (0, 0) := by
 obtain ⟨h0, h1, h2, h3, h4, h5, h6, h7⟩ := (mayC_iff c).1 h
 unfold mayC
 rw [if_neg (by simp [h0]), if_neg (by simp [h1]), if_neg (by simp [h2]), if_neg (by simp [h3]), if_neg (by simp [h4]), if_neg (by simp [h5]), if_neg (by simp [h6])]
 exact prF_zero _ _ _ _ ((prF_iff _ _ _ _).2 h7)
theorem rng_ok {lo hi x : Int} (h : rngE lo hi x = 0) : lo ≤ x ∧ x ≤ hi := by
 unfold rngE at h
 split at h
 ·assumption
 ·simp at h
end Go.Proofs.YthhcecllejddeaaGreatDoor

namespace Go.Proofs.YthhcecllejddeaaGreatDoor
open Go.RowKit
theorem flat_len {α : Type} (e : α → List Nat) (m : Nat) : ∀ (l : List α), (∀ a ∈ l, (e a).length ≤ m) → (l.flatMap e).length ≤ l.length * m
 | [], _ => by simp
 | a :: r, h => by
  have := flat_len e m r (fun x hx => h x (List.mem_cons_of_mem _ hx))
  have h1 := h a List.mem_cons_self
  rw [List.flatMap_cons, List.length_append, List.length_cons, Nat.add_mul]
  omega
theorem tab_len {l : List Int} {P : Int} (h : tabE l P = 0) : 1 ≤ l.length ∧ l.length ≤ 64 := by
 unfold tabE at h
 split at h
 ·simp at h
 ·split at h
  ·simp at h
  ·omega
theorem cnt_len {m n : Int} (h : cntE m n = 0) : n ≠ 0 ∧ n ≤ m := by
 unfold cntE at h
 split at h
 ·simp at h
 ·split at h
  ·simp at h
  ·omega
theorem prE_len {P K : Int} {p : Pr} (h : prE P K p = 0) : p.code.length ≤ 256 := by
 unfold prE at h
 split at h
 ·simp at h
 ·unfold mayL at h
  split at h
  ·simp at h
  ·split at h
   ·simp at h
   ·omega
theorem enc_len (c : Cfg) (h : (mayC c).1 = 0) : (encC c).length ≤ 98542 := by
 obtain ⟨h0, h1, h2, h3, h4, h5, h6, h7⟩ := (mayC_iff c).1 h
 have l1 := lab_len h0
 have l2 := tab_len h1
 have l3 := cnt_len h6
 have f1 := flat_len (numB 8) 8 c.labels (fun x _ => by rw [numB_len]; omega)
 have f2 := flat_len (fun x => numB 1 (u64 x)) 1 c.table (fun x _ => by rw [numB_len]; omega)
 have f3 := flat_len prB 3075 c.procs (fun p hp => by
  have := prE_len (h7 p hp)
  simp only [prB, List.length_append, numB_len, encB_len]
  omega)
 simp only [encC, List.length_append, numB_len, hdB, List.length_cons, List.length_nil]
 omega
end Go.Proofs.YthhcecllejddeaaGreatDoor

namespace Go.Proofs.YthhcecllejddeaaGreatDoor
end Go.Proofs.YthhcecllejddeaaGreatDoor
