/- A machine, plainly: how it stands, and what each call makes of it. -/
import Derived.Test.YthhcecllejddeaaGreatDoorGJm
import Derived.Test.YthhcecllejddeaaGreatDoorGLm
import Derived.Test.YthhcecllejddeaaGreatDoorGQm
import Derived.Test.YthhcecllejddeaaGreatDoorGUd
import Derived.Test.YthhcecllejddeaaGreatDoorGWa
namespace Go.Proofs.YthhcecllejddeaaGreatDoor
structure PrS where
 st : Int
 core : Cpu.Core
 timer : Int
 fired : Bool
 wake : Int
 ss : List Lane.LS
 lc : Nat
instance : Inhabited PrS := ⟨⟨0, ⟨0, fun _ => 0⟩, 0, false, 0, [], 0⟩⟩
structure PtS where
 cur : Nat
 log : List (Int × Int × Int)
 lost : Int
 forb : Int
 os : List Int
 qs : List (List Int)
instance : Inhabited PtS := ⟨⟨0, [], 0, 0, [], []⟩⟩
structure MS where
 tick : Int
 pt : List PtS
 pr : List PrS
def prOf (m : MS) (p : Nat) : PrS := m.pr.getD p default
def ptOf (m : MS) (i : Nat) : PtS := m.pt.getD i default
def MS.modP (m : MS) (p : Nat) (f : PrS → PrS) : MS := { m with pr := m.pr.set p (f (prOf m p)) }
def MS.modT (m : MS) (i : Nat) (f : PtS → PtS) : MS := { m with pt := m.pt.set i (f (ptOf m i)) }
def pa (c : Cfg) (p : Nat) : Nat := (c.procs.getD p default).part.toNat
def cd (c : Cfg) (p : Nat) : List Ins := (c.procs.getD p default).code
def ofL (c : Cfg) (i : Nat) : List Nat := (List.range c.procs.length).filter (fun p => decide ((c.procs.getD p default).part = (i : Int)))
def ended (st : Int) : Bool := decide (st = 5) || decide (st = 6)
def toldM (c : Cfg) (m : MS) (p : Nat) (v : Int) : MS := m.modP p fun x => { x with st := 0, core := Cpu.toldL x.core (cd c p) v }
def goOnM (m : MS) (p : Nat) : MS := m.modP p fun x => { x with st := 0, core := x.core.next }
def rouseM (m : MS) (p : Nat) : MS := m.modP p fun x => { x with st := if x.st = 1 then 0 else x.st }
def more (n : Int) : Int := Lane.moreL n
def givenM (m : MS) (p : Int) : MS := if p = -1 then m else goOnM m p.toNat
def leaveM (m : MS) (p : Nat) (l : List Nat) : MS := l.foldl (fun m q => m.modP q fun x => { x with ss := (Lane.leaveP x.ss p).2 }) m
def endM (c : Cfg) (m : MS) (p : Nat) (st : Int) : MS :=
 let m1 := leaveM (m.modP p fun x => { x with st := st, fired := false }) p (ofL c (pa c p))
 let r := Locks.endA (ptOf m1 (pa c p)).os (ptOf m1 (pa c p)).qs p
 let m2 := r.2.2.foldl (fun m g => givenM m g.2) (m1.modT (pa c p) fun t => { t with os := r.1, qs := r.2.1 })
 let m3 := m2.modP p fun x => { x with timer := 0, wake := 0 }
 let w := Lane.endP (prOf m3 p).ss
 w.1.foldl (fun m x => toldM c m x.1.toNat 2) (m3.modP p fun x => { x with ss := w.2 })
def stepM (c : Cfg) (m : MS) (p : Nat) : MS :=
 let r := Cpu.stepL (prOf m p).core (cd c p) m.tick p
 let m1 := m.modP p fun x => { x with core := r.1 }
 if r.2.1 = 1 then endM c m1 p 5 else m1
def dueP (tick : Int) (x : PrS) : PrS :=
 let y : PrS := if 0 < x.timer ∧ x.timer ≤ tick then { x with timer := 0, fired := true, st := if x.st = 1 then 0 else x.st } else x
 if 0 < y.wake ∧ y.wake ≤ tick then { y with wake := 0, st := 0, core := y.core.next } else y
def wakeM (m : MS) (l : List Nat) : MS := l.foldl (fun m p => m.modP p (dueP m.tick)) m
def nextR (m : MS) (l : List Nat) (cur : Nat) : Nat → Nat → Option Nat
 | _, 0 => none
 | k, f + 1 => if (prOf m (l.getD ((cur + k) % l.length) 0)).st = 0 then some ((cur + k) % l.length) else nextR m l cur (k + 1) f
def slotM (c : Cfg) (i : Nat) : Nat → MS → MS
 | 0, m => m
 | f + 1, m => match nextR m (ofL c i) (ptOf m i).cur 0 (ofL c i).length with
  | none => m
  | some k => slotM c i f (stepM c (m.modT i fun t => { t with cur := (k + 1) % (ofL c i).length }) ((ofL c i).getD k 0))
def ownerM (c : Cfg) (m : MS) : Nat := (c.table.getD (m.tick.toNat % c.table.length) 0).toNat
def tickM (c : Cfg) (m : MS) : MS :=
 let m1 := slotM c (ownerM c m) c.fuel.toNat (wakeM m (ofL c (ownerM c m)))
 { m1 with tick := m1.tick + 1 }
def liveE (c : Cfg) (m : MS) (p : Int) : Int := if p < 0 ∨ (c.procs.length : Int) ≤ p then 17 else if ended (prOf m p.toNat).st then 18 else 0
def firstM (c : Cfg) : MS :=
  ⟨0, List.replicate c.labels.length ⟨0, [], 0, 0, List.replicate c.locks.toNat (-1), List.replicate c.locks.toNat []⟩,
   List.replicate c.procs.length ⟨0, ⟨0, fun _ => 0⟩, 0, false, 0, List.replicate (c.labels.length + 1) ⟨c.lane.toNat, [], [], 0, 0⟩, 0⟩⟩
end Go.Proofs.YthhcecllejddeaaGreatDoor

namespace Go.Proofs.YthhcecllejddeaaGreatDoor
section
variable {m : MS} {p q i j : Nat} {f g : PrS → PrS} {h : PtS → PtS}
@[simp] theorem prOf_modT : prOf (m.modT i h) p = prOf m p := rfl
@[simp] theorem ptOf_modP : ptOf (m.modP p f) i = ptOf m i := rfl
@[simp] theorem tick_modP : (m.modP p f).tick = m.tick := rfl
@[simp] theorem tick_modT : (m.modT i h).tick = m.tick := rfl
@[simp] theorem len_modP : (m.modP p f).pr.length = m.pr.length := by simp [MS.modP]
@[simp] theorem lenT_modP : (m.modP p f).pt.length = m.pt.length := rfl
@[simp] theorem len_modT : (m.modT i h).pr.length = m.pr.length := rfl
@[simp] theorem lenT_modT : (m.modT i h).pt.length = m.pt.length := by simp [MS.modT]
theorem prOf_modP (hp : p < m.pr.length) : prOf (m.modP p f) q = if q = p then f (prOf m p) else prOf m q := by
 by_cases e : p = q
 ·subst e
  rw [if_pos rfl]
  unfold prOf MS.modP
  rw [List.getD_eq_getElem?_getD, List.getElem?_set]
  simp [hp, prOf]
 ·rw [if_neg (fun h => e h.symm)]
  unfold prOf MS.modP
  rw [List.getD_eq_getElem?_getD, List.getD_eq_getElem?_getD, List.getElem?_set, if_neg e]
theorem prOf_same (hp : p < m.pr.length) : prOf (m.modP p f) p = f (prOf m p) := by rw [prOf_modP hp, if_pos rfl]
theorem prOf_other (hq : q ≠ p) : prOf (m.modP p f) q = prOf m q := by
 unfold prOf MS.modP
 rw [List.getD_eq_getElem?_getD, List.getD_eq_getElem?_getD, List.getElem?_set, if_neg (fun h => hq h.symm)]
theorem ptOf_modT (hi : i < m.pt.length) : ptOf (m.modT i h) j = if j = i then h (ptOf m i) else ptOf m j := by
 by_cases e : i = j
 ·subst e
  rw [if_pos rfl]
  unfold ptOf MS.modT
  rw [List.getD_eq_getElem?_getD, List.getElem?_set]
  simp [hi, ptOf]
 ·rw [if_neg (fun h => e h.symm)]
  unfold ptOf MS.modT
  rw [List.getD_eq_getElem?_getD, List.getD_eq_getElem?_getD, List.getElem?_set, if_neg e]
theorem ptOf_same (hi : i < m.pt.length) : ptOf (m.modT i h) i = h (ptOf m i) := by rw [ptOf_modT hi, if_pos rfl]
theorem ptOf_other (hj : j ≠ i) : ptOf (m.modT i h) j = ptOf m j := by
 unfold ptOf MS.modT
 rw [List.getD_eq_getElem?_getD, List.getD_eq_getElem?_getD, List.getElem?_set, if_neg (fun h => hj h.symm)]
theorem modP_modP (hp : p < m.pr.length) : (m.modP p f).modP p g = m.modP p (fun x => g (f x)) := by
 have h1 := prOf_same (f := f) hp
 unfold MS.modP at *
 simp only [h1, List.set_set]
theorem modP_id (hp : p < m.pr.length) (hf : f (prOf m p) = prOf m p) : m.modP p f = m := by
 unfold MS.modP
 rw [hf]
 have : m.pr.set p (prOf m p) = m.pr := by
  unfold prOf
  rw [List.getD_eq_getElem?_getD, List.getElem?_eq_getElem hp]
  simp
 rw [this]
end
inductive Ix where
 | head : Ix
 | tbl : Ix
 | slt : Ix
 | part (i : Nat) : Ix
 | lck (i : Nat) : Ix
 | whl (i : Nat) : Ix
 | proc (p : Nat) : Ix
 | pst (p : Nat) : Ix
def Agr (c : Cfg) (m m' : MS) : Ix → Prop
 | .head => m'.tick = m.tick
 | .tbl => True
 | .slt => True
 | .part i => (ptOf m' i).cur = (ptOf m i).cur ∧ (ptOf m' i).log = (ptOf m i).log ∧ (ptOf m' i).lost = (ptOf m i).lost ∧ (ptOf m' i).forb = (ptOf m i).forb
 | .lck i => (ptOf m' i).os = (ptOf m i).os ∧ (ptOf m' i).qs = (ptOf m i).qs
 | .whl i => ∀ p ∈ ofL c i, (prOf m' p).timer = (prOf m p).timer ∧ (prOf m' p).wake = (prOf m p).wake
 | .proc p => (prOf m' p).st = (prOf m p).st ∧ (prOf m' p).core = (prOf m p).core ∧ (prOf m' p).fired = (prOf m p).fired
 | .pst p => (prOf m' p).ss = (prOf m p).ss ∧ (prOf m' p).lc = (prOf m p).lc
theorem mem_ofL {c : Cfg} {i p : Nat} : p ∈ ofL c i ↔ p < c.procs.length ∧ (c.procs.getD p default).part = (i : Int) := by simp [ofL]
theorem pa_of {c : Cfg} {i p : Nat} (h : p ∈ ofL c i) : pa c p = i := by
 have := (mem_ofL.1 h).2
 unfold pa
 rw [this]
 rfl
theorem agr_proc {c : Cfg} {m : MS} {p : Nat} {f : PrS → PrS} (h1 : ∀ x, (f x).timer = x.timer) (h2 : ∀ x, (f x).wake = x.wake) (h3 : ∀ x, (f x).ss = x.ss) (h4 : ∀ x, (f x).lc = x.lc) (hp : p < m.pr.length) {y : Ix} (hy : y ≠ .proc p) : Agr c m (m.modP p f) y := by
 cases y with
 | whl i =>
  intro q _
  rw [prOf_modP hp]
  split
  ·next e => rw [h1, h2, e]; exact ⟨rfl, rfl⟩
  ·exact ⟨rfl, rfl⟩
 | proc q =>
  have : q ≠ p := fun e => hy (by rw [e])
  simp only [Agr, prOf_other this, and_self]
 | pst q =>
  simp only [Agr]
  rw [prOf_modP hp]
  split
  ·next e => rw [h3, h4, e]; exact ⟨rfl, rfl⟩
  ·exact ⟨rfl, rfl⟩
 | _ => simp [Agr]
theorem agr_pst {c : Cfg} {m : MS} {p : Nat} {f : PrS → PrS} (h1 : ∀ x, (f x).timer = x.timer) (h2 : ∀ x, (f x).wake = x.wake) (h3 : ∀ x, (f x).st = x.st) (h4 : ∀ x, (f x).core = x.core) (h5 : ∀ x, (f x).fired = x.fired) (hp : p < m.pr.length) {y : Ix} (hy : y ≠ .pst p) : Agr c m (m.modP p f) y := by
 cases y with
 | whl i =>
  intro q _
  rw [prOf_modP hp]
  split
  ·next e => rw [h1, h2, e]; exact ⟨rfl, rfl⟩
  ·exact ⟨rfl, rfl⟩
 | pst q =>
  have : q ≠ p := fun e => hy (by rw [e])
  simp only [Agr, prOf_other this, and_self]
 | proc q =>
  simp only [Agr]
  rw [prOf_modP hp]
  split
  ·next e => rw [h3, h4, h5, e]; exact ⟨rfl, rfl, rfl⟩
  ·exact ⟨rfl, rfl, rfl⟩
 | _ => simp [Agr]
theorem agr_whl {c : Cfg} {m : MS} {p : Nat} {f : PrS → PrS} (h1 : ∀ x, (f x).ss = x.ss) (h2 : ∀ x, (f x).lc = x.lc) (h3 : ∀ x, (f x).st = x.st) (h4 : ∀ x, (f x).core = x.core) (h5 : ∀ x, (f x).fired = x.fired) (hp : p < m.pr.length) {y : Ix} (hy : y ≠ .whl (pa c p)) : Agr c m (m.modP p f) y := by
 cases y with
 | whl i =>
  intro q hq
  have : q ≠ p := fun e => hy (by rw [← e, pa_of hq])
  simp only [prOf_other this, and_self]
 | pst q =>
  simp only [Agr]
  rw [prOf_modP hp]
  split
  ·next e => rw [h1, h2, e]; exact ⟨rfl, rfl⟩
  ·exact ⟨rfl, rfl⟩
 | proc q =>
  simp only [Agr]
  rw [prOf_modP hp]
  split
  ·next e => rw [h3, h4, h5, e]; exact ⟨rfl, rfl, rfl⟩
  ·exact ⟨rfl, rfl, rfl⟩
 | _ => simp [Agr]
theorem agr_part {c : Cfg} {m : MS} {i : Nat} {f : PtS → PtS} (h1 : ∀ x, (f x).os = x.os) (h2 : ∀ x, (f x).qs = x.qs) (hi : i < m.pt.length) {y : Ix} (hy : y ≠ .part i) : Agr c m (m.modT i f) y := by
 cases y with
 | lck j =>
  simp only [Agr]
  rw [ptOf_modT hi]
  split
  ·next e => rw [h1, h2, e]; exact ⟨rfl, rfl⟩
  ·exact ⟨rfl, rfl⟩
 | part j =>
  have : j ≠ i := fun e => hy (by rw [e])
  simp only [Agr, ptOf_other this, and_self]
 | _ => simp [Agr]
theorem agr_lck {c : Cfg} {m : MS} {i : Nat} {f : PtS → PtS} (h1 : ∀ x, (f x).cur = x.cur) (h2 : ∀ x, (f x).log = x.log) (h3 : ∀ x, (f x).lost = x.lost) (h4 : ∀ x, (f x).forb = x.forb) (hi : i < m.pt.length) {y : Ix} (hy : y ≠ .lck i) : Agr c m (m.modT i f) y := by
 cases y with
 | part j =>
  simp only [Agr]
  rw [ptOf_modT hi]
  split
  ·next e => rw [h1, h2, h3, h4, e]; exact ⟨rfl, rfl, rfl, rfl⟩
  ·exact ⟨rfl, rfl, rfl, rfl⟩
 | lck j =>
  have : j ≠ i := fun e => hy (by rw [e])
  simp only [Agr, ptOf_other this, and_self]
 | _ => simp [Agr]
theorem agr_tick {c : Cfg} {m : MS} {t : Int} {y : Ix} (hy : y ≠ .head) : Agr c m { m with tick := t } y := by
 cases y with
 | head => exact absurd rfl hy
 | part i => exact ⟨rfl, rfl, rfl, rfl⟩
 | lck i => exact ⟨rfl, rfl⟩
 | whl i => exact fun _ _ => ⟨rfl, rfl⟩
 | proc i => exact ⟨rfl, rfl, rfl⟩
 | pst i => exact ⟨rfl, rfl⟩
 | _ => trivial
structure CfgOk (c : Cfg) : Prop where
 lab : ∀ x ∈ c.labels, x < 18446744073709551616
 n1 : 1 ≤ c.labels.length
 n8 : c.labels.length ≤ 8
 t1 : 1 ≤ c.table.length
 t64 : c.table.length ≤ 64
 tab : ∀ i, i < c.table.length → 0 ≤ c.table.getD i 0 ∧ c.table.getD i 0 < (c.labels.length : Int)
 f1 : 1 ≤ c.fuel
 f256 : c.fuel ≤ 256
 l1 : 1 ≤ c.lane
 l64 : c.lane ≤ 64
 k0 : 0 ≤ c.locks
 k8 : c.locks ≤ 8
 g0 : 0 ≤ c.log
 g4096 : c.log ≤ 4096
 p1 : 1 ≤ c.procs.length
 p32 : c.procs.length ≤ 32
 part : ∀ p, p < c.procs.length → 0 ≤ (c.procs.getD p default).part ∧ (c.procs.getD p default).part < (c.labels.length : Int)
 code : ∀ p, p < c.procs.length → (mayL (cd c p) c.locks).1 = 0
 jmp : ∀ p, p < c.procs.length → Cpu.Jmp (cd c p)
theorem CfgOk.pa_lt {c : Cfg} (h : CfgOk c) {p : Nat} (hp : p < c.procs.length) : pa c p < c.labels.length := by
 have := h.part p hp
 unfold pa
 omega
theorem CfgOk.mem {c : Cfg} (h : CfgOk c) {p : Nat} (hp : p < c.procs.length) : p ∈ ofL c (pa c p) := by
 have := h.part p hp
 exact mem_ofL.2 ⟨hp, by unfold pa; omega⟩
theorem ofL_len (c : Cfg) (i : Nat) : (ofL c i).length ≤ c.procs.length := by
 have := List.length_filter_le (fun p => decide ((c.procs.getD p default).part = (i : Int))) (List.range c.procs.length)
 simpa [ofL] using this
theorem ofL_at {c : Cfg} {i k : Nat} (h : k < (ofL c i).length) : (ofL c i).getD k 0 ∈ ofL c i := by
 rw [List.getD_eq_getElem?_getD, List.getElem?_eq_getElem h]
 exact List.getElem_mem h
def isNo (c : Cfg) (p : Int) : Prop := 0 ≤ p ∧ p < (c.procs.length : Int)
structure Shp (c : Cfg) (m : MS) : Prop where
 np : m.pt.length = c.labels.length
 nq : m.pr.length = c.procs.length
 t0 : 0 ≤ m.tick
 lk : ∀ i, i < c.labels.length → Locks.GoodL (ptOf m i).os (ptOf m i).qs ∧ ((ptOf m i).os.length : Int) = c.locks
 own : ∀ i, i < c.labels.length → ∀ o ∈ (ptOf m i).os, o = -1 ∨ isNo c o
 que : ∀ i, i < c.labels.length → ∀ k x, x ∈ Locks.qAt (ptOf m i).qs k → isNo c x
 cur : ∀ i, i < c.labels.length → (ptOf m i).cur = 0 ∨ (ptOf m i).cur < (ofL c i).length
 log : ∀ i, i < c.labels.length → ((ptOf m i).log.length : Int) ≤ c.log
 cnt : ∀ i, i < c.labels.length → (0 ≤ (ptOf m i).lost ∧ (ptOf m i).lost ≤ 65535) ∧ 0 ≤ (ptOf m i).forb ∧ (ptOf m i).forb ≤ 65535
 ln : ∀ p, p < c.procs.length → Lane.GoodP (prOf m p).ss (prOf m p).lc ∧ (prOf m p).ss.length = c.labels.length + 1
 room : ∀ p, p < c.procs.length → ∀ s ∈ (prOf m p).ss, (s.room : Int) = c.lane
 wai : ∀ p, p < c.procs.length → ∀ s ∈ (prOf m p).ss, ∀ x ∈ s.ws, isNo c x.1
 tim : ∀ p, p < c.procs.length → (0 ≤ (prOf m p).timer ∧ (prOf m p).timer ≤ m.tick + 1099511627776) ∧ 0 ≤ (prOf m p).wake ∧ (prOf m p).wake ≤ m.tick + 1099511627776
end Go.Proofs.YthhcecllejddeaaGreatDoor

namespace Go.Proofs.YthhcecllejddeaaGreatDoor
def LnOk (c : Cfg) (s : Lane.LS) : Prop := (s.room : Int) = c.lane ∧ ∀ x ∈ s.ws, isNo c x.1
theorem LnOk.leave {c : Cfg} {s : Lane.LS} (h : LnOk c s) (p : Int) : LnOk c (Lane.leaveL s p).2 := by
 unfold Lane.leaveL
 split
 ·exact ⟨h.1, fun x hx => h.2 x (List.mem_of_mem_eraseIdx hx)⟩
 ·exact h
theorem LnOk.over {c : Cfg} {s : Lane.LS} (h : LnOk c s) : LnOk c (Lane.endL s) := ⟨h.1, fun _ hx => absurd hx List.not_mem_nil⟩
structure LsOk (c : Cfg) (ss : List Lane.LS) (lc : Nat) : Prop where
 good : Lane.GoodP ss lc
 len : ss.length = c.labels.length + 1
 each : ∀ s ∈ ss, LnOk c s
theorem LsOk.leave {c : Cfg} {ss : List Lane.LS} {lc : Nat} (h : LsOk c ss lc) (p : Int) : LsOk c (Lane.leaveP ss p).2 lc :=
 ⟨h.good.leave p, by simpa [Lane.leaveP] using h.len, fun x hx => by
  obtain ⟨s, hs, rfl⟩ := List.mem_map.mp hx
  exact (h.each s hs).leave p⟩
theorem LsOk.over {c : Cfg} {ss : List Lane.LS} {lc : Nat} (h : LsOk c ss lc) : LsOk c (Lane.endP ss).2 lc :=
 ⟨h.good.over, by simpa [Lane.endP] using h.len, fun x hx => by
  obtain ⟨s, hs, rfl⟩ := List.mem_map.mp hx
  exact (h.each s hs).over⟩
theorem Shp.ls {c : Cfg} {m : MS} (h : Shp c m) {p : Nat} (hp : p < c.procs.length) : LsOk c (prOf m p).ss (prOf m p).lc :=
 ⟨(h.ln p hp).1, (h.ln p hp).2, fun s hs => ⟨h.room p hp s hs, h.wai p hp s hs⟩⟩
theorem Shp.modP {c : Cfg} {m : MS} (h : Shp c m) {p : Nat} {f : PrS → PrS} (hp : p < c.procs.length) (hl : LsOk c (f (prOf m p)).ss (f (prOf m p)).lc)
  (ht : (0 ≤ (f (prOf m p)).timer ∧ (f (prOf m p)).timer ≤ m.tick + 1099511627776) ∧ 0 ≤ (f (prOf m p)).wake ∧ (f (prOf m p)).wake ≤ m.tick + 1099511627776) : Shp c (m.modP p f) := by
 have hp' : p < m.pr.length := by rw [h.nq]; exact hp
 have key : ∀ (P : PrS → Prop), P (f (prOf m p)) → (∀ q, q < c.procs.length → P (prOf m q)) → ∀ q, q < c.procs.length → P (prOf (m.modP p f) q) := fun P h1 h2 q hq => by
  rw [prOf_modP hp']
  split
  ·exact h1
  ·exact h2 q hq
 exact ⟨h.np, by rw [len_modP]; exact h.nq, h.t0, h.lk, h.own, h.que, h.cur, h.log, h.cnt, key (fun x => Lane.GoodP x.ss x.lc ∧ x.ss.length = c.labels.length + 1) ⟨hl.good, hl.len⟩ h.ln,
  key (fun x => ∀ s ∈ x.ss, (s.room : Int) = c.lane) (fun s hs => (hl.each s hs).1) h.room, key (fun x => ∀ s ∈ x.ss, ∀ y ∈ s.ws, isNo c y.1) (fun s hs => (hl.each s hs).2) h.wai,
  key (fun x => (0 ≤ x.timer ∧ x.timer ≤ m.tick + 1099511627776) ∧ 0 ≤ x.wake ∧ x.wake ≤ m.tick + 1099511627776) ht h.tim⟩
theorem Shp.modS {c : Cfg} {m : MS} (h : Shp c m) {p : Nat} {f : PrS → PrS} (hp : p < c.procs.length) (h1 : ∀ x, (f x).timer = x.timer) (h2 : ∀ x, (f x).wake = x.wake) (h3 : ∀ x, (f x).ss = x.ss) (h4 : ∀ x, (f x).lc = x.lc) : Shp c (m.modP p f) :=
 h.modP hp (by rw [h3, h4]; exact h.ls hp) (by rw [h1, h2]; exact h.tim p hp)
theorem Shp.modT {c : Cfg} {m : MS} (h : Shp c m) {i : Nat} {f : PtS → PtS} (hi : i < c.labels.length) (h1 : Locks.GoodL (f (ptOf m i)).os (f (ptOf m i)).qs ∧ ((f (ptOf m i)).os.length : Int) = c.locks) (h2 : ∀ o ∈ (f (ptOf m i)).os, o = -1 ∨ isNo c o) (h3 : ∀ k x, x ∈ Locks.qAt (f (ptOf m i)).qs k → isNo c x)
  (h4 : (f (ptOf m i)).cur = 0 ∨ (f (ptOf m i)).cur < (ofL c i).length) (h5 : ((f (ptOf m i)).log.length : Int) ≤ c.log) (h6 : (0 ≤ (f (ptOf m i)).lost ∧ (f (ptOf m i)).lost ≤ 65535) ∧ 0 ≤ (f (ptOf m i)).forb ∧ (f (ptOf m i)).forb ≤ 65535) : Shp c (m.modT i f) := by
 have hi' : i < m.pt.length := by rw [h.np]; exact hi
 have key : ∀ (P : Nat → PtS → Prop), P i (f (ptOf m i)) → (∀ q, q < c.labels.length → P q (ptOf m q)) → ∀ q, q < c.labels.length → P q (ptOf (m.modT i f) q) := fun P h1 h2 q hq => by
  rw [ptOf_modT hi']
  split
  ·next e => rw [e]; exact h1
  ·exact h2 q hq
 exact ⟨by rw [lenT_modT]; exact h.np, h.nq, h.t0, key (fun _ x => Locks.GoodL x.os x.qs ∧ (x.os.length : Int) = c.locks) h1 h.lk, key (fun _ x => ∀ o ∈ x.os, o = -1 ∨ isNo c o) h2 h.own, key (fun _ x => ∀ k y, y ∈ Locks.qAt x.qs k → isNo c y) h3 h.que,
  key (fun i x => x.cur = 0 ∨ x.cur < (ofL c i).length) h4 h.cur, key (fun _ x => (x.log.length : Int) ≤ c.log) h5 h.log, key (fun _ x => (0 ≤ x.lost ∧ x.lost ≤ 65535) ∧ 0 ≤ x.forb ∧ x.forb ≤ 65535) h6 h.cnt, h.ln, h.room, h.wai, h.tim⟩
theorem Shp.told {c : Cfg} {m : MS} (h : Shp c m) {p : Nat} (hp : p < c.procs.length) (v : Int) : Shp c (toldM c m p v) := h.modS hp (fun _ => rfl) (fun _ => rfl) (fun _ => rfl) (fun _ => rfl)
theorem Shp.goOn {c : Cfg} {m : MS} (h : Shp c m) {p : Nat} (hp : p < c.procs.length) : Shp c (goOnM m p) := h.modS hp (fun _ => rfl) (fun _ => rfl) (fun _ => rfl) (fun _ => rfl)
theorem Shp.lanes {c : Cfg} {m : MS} (h : Shp c m) {p : Nat} (hp : p < c.procs.length) {f : PrS → PrS} (hl : LsOk c (f (prOf m p)).ss (f (prOf m p)).lc) (h1 : ∀ x, (f x).timer = x.timer) (h2 : ∀ x, (f x).wake = x.wake) : Shp c (m.modP p f) :=
 h.modP hp hl (by rw [h1, h2]; exact h.tim p hp)
theorem no_to {c : Cfg} {p : Int} (h : isNo c p) : p.toNat < c.procs.length := by
 obtain ⟨h1, h2⟩ := h
 omega
end Go.Proofs.YthhcecllejddeaaGreatDoor

namespace Go.Proofs.YthhcecllejddeaaGreatDoor
open Locks
structure LkOk (c : Cfg) (os : List Int) (qs : List (List Int)) : Prop where
 good : GoodL os qs
 len : (os.length : Int) = c.locks
 own : ∀ o ∈ os, o = -1 ∨ isNo c o
 que : ∀ k x, x ∈ qAt qs k → isNo c x
theorem Shp.lks {c : Cfg} {m : MS} (h : Shp c m) {i : Nat} (hi : i < c.labels.length) : LkOk c (ptOf m i).os (ptOf m i).qs := ⟨(h.lk i hi).1, (h.lk i hi).2, h.own i hi, h.que i hi⟩
theorem Shp.modL {c : Cfg} {m : MS} (h : Shp c m) {i : Nat} {f : PtS → PtS} (hi : i < c.labels.length) (hl : LkOk c (f (ptOf m i)).os (f (ptOf m i)).qs) (h1 : ∀ x, (f x).cur = x.cur) (h2 : ∀ x, (f x).log = x.log) (h3 : ∀ x, (f x).lost = x.lost) (h4 : ∀ x, (f x).forb = x.forb) : Shp c (m.modT i f) :=
 h.modT hi ⟨hl.good, hl.len⟩ hl.own hl.que (by rw [h1]; exact h.cur i hi) (by rw [h2]; exact h.log i hi) (by rw [h3, h4]; exact h.cnt i hi)
theorem Shp.modO {c : Cfg} {m : MS} (h : Shp c m) {i : Nat} {f : PtS → PtS} (hi : i < c.labels.length) (h1 : ∀ x, (f x).os = x.os) (h2 : ∀ x, (f x).qs = x.qs) (h4 : (f (ptOf m i)).cur = 0 ∨ (f (ptOf m i)).cur < (ofL c i).length) (h5 : ((f (ptOf m i)).log.length : Int) ≤ c.log) (h6 : (0 ≤ (f (ptOf m i)).lost ∧ (f (ptOf m i)).lost ≤ 65535) ∧ 0 ≤ (f (ptOf m i)).forb ∧ (f (ptOf m i)).forb ≤ 65535) : Shp c (m.modT i f) := by
 have hl := h.lks hi
 exact h.modT hi (by rw [h1, h2]; exact ⟨hl.good, hl.len⟩) (by rw [h1]; exact hl.own) (by rw [h2]; exact hl.que) h4 h5 h6
theorem LkOk.setO {c : Cfg} {os : List Int} {qs : List (List Int)} (h : LkOk c os qs) {i : Nat} {v : Int} (hv : v = -1 ∨ isNo c v) (hc : CfgOk c) : LkOk c (os.set i v) qs :=
 ⟨h.good.setO (by have := hc.p32; rcases hv with rfl | ⟨h1, h2⟩ <;> constructor <;> omega), by rw [List.length_set]; exact h.len, fun o ho => by
  rcases List.mem_or_eq_of_mem_set ho with h1 | h1
  ·exact h.own o h1
  ·rw [h1]; exact hv, h.que⟩
theorem LkOk.setQ {c : Cfg} {os : List Int} {qs : List (List Int)} (h : LkOk c os qs) {i : Nat} {q : List Int} (hq : q.Sublist (qAt qs i)) : LkOk c os (qs.set i q) :=
 ⟨h.good.setQ hq, h.len, h.own, fun k x hx => by
  rw [qAt_set] at hx
  split at hx
  ·exact h.que i x (hq.subset hx)
  ·exact h.que k x hx⟩
theorem LkOk.head {c : Cfg} {os : List Int} {qs : List (List Int)} (h : LkOk c os qs) (i : Nat) : (qAt qs i).headD (-1) = -1 ∨ isNo c ((qAt qs i).headD (-1)) := by
 cases hq : qAt qs i with
 | nil => exact .inl rfl
 | cons x r => exact .inr (h.que i x (by rw [hq]; exact List.mem_cons_self))
theorem LkOk.hand {c : Cfg} {os : List Int} {qs : List (List Int)} (h : LkOk c os qs) (hc : CfgOk c) (i : Nat) : LkOk c (handO os qs i) (handQ qs i) := (h.setO (h.head i) hc).setQ (List.tail_sublist _)
theorem LkOk.away {c : Cfg} {os : List Int} {qs : List (List Int)} (h : LkOk c os qs) (p : Int) : LkOk c os (awayQ qs p) := by
 unfold awayQ
 split
 ·exact h.setQ List.filter_sublist
 ·exact h
theorem LkOk.endF {c : Cfg} (hc : CfgOk c) : ∀ (l : List Int) {os : List Int} {qs : List (List Int)} {out : List (Int × Int)}, LkOk c os qs → (∀ g ∈ out, g.2 = -1 ∨ isNo c g.2) → LkOk c (Locks.endF l os qs out).1 (Locks.endF l os qs out).2.1 ∧ ∀ g ∈ (Locks.endF l os qs out).2.2, g.2 = -1 ∨ isNo c g.2
 | [], _, _, _, h, ho => ⟨h, ho⟩
 | i :: r, os, qs, out, h, ho => by
  unfold Locks.endF
  refine LkOk.endF hc r (h.hand hc _) (fun g hg => ?_)
  rcases List.mem_append.1 hg with h1 | h1
  ·exact ho g h1
  ·rw [List.mem_singleton] at h1
   rw [h1]
   rcases Nat.lt_or_ge i.toNat (handO os qs i.toNat).length with h2 | h2
   ·exact (h.hand hc _).own _ (oAt_mem h2)
   ·exact .inl (oAt_out h2)
theorem LkOk.over {c : Cfg} {os : List Int} {qs : List (List Int)} (h : LkOk c os qs) (hc : CfgOk c) (p : Int) : LkOk c (endA os qs p).1 (endA os qs p).2.1 ∧ ∀ g ∈ (endA os qs p).2.2, g.2 = -1 ∨ isNo c g.2 :=
 LkOk.endF hc _ (h.away p) (fun _ hg => absurd hg List.not_mem_nil)
theorem nodup_le : ∀ (n : Nat) (l : List Int), l.Nodup → (∀ x ∈ l, 0 ≤ x ∧ x < (n : Int)) → l.length ≤ n
 | 0, l, _, h => by
  rcases l with _ | ⟨x, r⟩
  ·exact Nat.le_refl _
  ·have := h x List.mem_cons_self; omega
 | n + 1, l, hd, h => by
  have ih := nodup_le n (l.filter (fun x => decide (x ≠ (n : Int)))) (hd.filter _) (fun x hx => by
   obtain ⟨h1, h2⟩ := List.mem_filter.1 hx
   have := h x h1
   simp at h2
   omega)
  have hc : l.length ≤ (l.filter (fun x => decide (x ≠ (n : Int)))).length + 1 := by
   clear ih h
   induction l with
   | nil => simp
   | cons y r ih =>
    have hd' := List.nodup_cons.1 hd
    by_cases e : y = (n : Int)
    ·have : r.filter (fun x => decide (x ≠ (n : Int))) = r := by
      rw [List.filter_eq_self]
      intro z hz
      simp only [decide_eq_true_eq]
      intro ez
      exact hd'.1 (by rw [e, ← ez]; exact hz)
     rw [List.filter_cons, if_neg (by simp [e]), this]
     simp
    ·rw [List.filter_cons, if_pos (by simp [e])]
     have := ih hd'.2
     simp only [List.length_cons]
     omega
  omega
theorem LkOk.total {c : Cfg} {os : List Int} {qs : List (List Int)} (h : LkOk c os qs) (hc : CfgOk c) : Locks.total qs ≤ 256 := by
 have h8 : qs.length ≤ 8 := by rw [h.good.n]; exact h.good.le
 have hq : ∀ q ∈ qs, q.length ≤ 32 := fun q hq => by
  obtain ⟨i, hi, e⟩ := List.getElem_of_mem hq
  have ea : qAt qs i = q := by unfold qAt; rw [List.getD_eq_getElem?_getD, List.getElem?_eq_getElem hi, e]; rfl
  have h1 := nodup_le c.procs.length q (by rw [← ea]; exact h.good.nd i) (fun x hx => h.que i x (by rw [ea]; exact hx))
  have := hc.p32
  omega
 unfold Locks.total
 clear h
 have key : ∀ l : List (List Int), (∀ q ∈ l, q.length ≤ 32) → (l.map List.length).sum ≤ 32 * l.length := fun l => by
  induction l with
  | nil => simp
  | cons x r ih =>
   intro hx
   have h1 := ih (fun q hq => hx q (List.mem_cons_of_mem _ hq))
   have h2 := hx x List.mem_cons_self
   simp only [List.map_cons, List.sum_cons, List.length_cons]
   omega
 have := key qs hq
 omega
theorem LsOk.few {c : Cfg} {ss : List Lane.LS} {lc : Nat} (h : LsOk c ss lc) (hc : CfgOk c) : ∀ s ∈ ss, s.ws.length ≤ 32 := fun s hs => by
 have h1 := nodup_le c.procs.length (s.ws.map (·.1)) (h.good.each s hs).may.2.2.1 (fun x hx => by
  obtain ⟨y, hy, rfl⟩ := List.mem_map.1 hx
  exact (h.each s hs).2 y hy)
 have := hc.p32
 simp at h1
 omega
theorem LsOk.tot {c : Cfg} {ss : List Lane.LS} {lc : Nat} (h : LsOk c ss lc) (hc : CfgOk c) : (ss.flatMap (·.ws)).length ≤ 288 := by
 have h9 := h.good.n2
 have hf := h.few hc
 clear h
 have key : ∀ l : List Lane.LS, (∀ s ∈ l, s.ws.length ≤ 32) → (l.flatMap (·.ws)).length ≤ 32 * l.length := fun l => by
  induction l with
  | nil => simp
  | cons x r ih =>
   intro hx
   have h1 := ih (fun q hq => hx q (List.mem_cons_of_mem _ hq))
   have h2 := hx x List.mem_cons_self
   simp only [List.flatMap_cons, List.length_append, List.length_cons]
   omega
 have := key ss hf
 omega
end Go.Proofs.YthhcecllejddeaaGreatDoor
