/- Configs: which may be, and as bytes, over whole numbers. -/
import Derived.Test.YtmjokinagbpihaaDoorGCb
namespace Go.Proofs.YtmjokinagbpihaaDoor
open Go.RowKit

structure Pr where
  part : Int
  code : List Ins
instance : Inhabited Pr := ⟨⟨0, []⟩⟩

structure Cfg where
  labels : List Nat
  table : List Int
  fuel : Int
  lane : Int
  locks : Int
  log : Int
  procs : List Pr

/-- What is wrong with labels. -/
def lbFrom (l : List Nat) : Nat → Nat → Nat × Nat
  | 0, _ => (0, 0)
  | m + 1, i => if l.getD i 0 = l.getD (i - 1) 0 then (8, i) else if l.getD i 0 < l.getD (i - 1) 0 then (7, i) else lbFrom l m (i + 1)
def lbL (l : List Nat) : Nat × Nat := if l.length = 0 then (1, 0) else if 8 < l.length then (3, 8) else lbFrom l (l.length - 1) 1

/-- Is it the number of a partition? -/
def isPt (P x : Int) : Bool := decide (0 ≤ x) && decide (x < P)
/-- What is wrong with a table. -/
def tabE (l : List Int) (P : Int) : Int := if l.length = 0 then 1 else if 64 < l.length then 3 else if l.all (isPt P) then 0 else 2

/-- What is wrong with a number. -/
def rngE (lo hi v : Int) : Int := if lo ≤ v ∧ v ≤ hi then 0 else 2
/-- What is wrong with how many there are. -/
def cntE (most n : Int) : Int := if n = 0 then 1 else if most < n then 3 else 0

def prE (P K : Int) (p : Pr) : Int := if rngE 0 (P - 1) p.part ≠ 0 then 2 else (mayL p.code K).1
def prF (P K : Int) : List Pr → Int → Int × Int
  | [], _ => (0, 0)
  | p :: r, i => if prE P K p ≠ 0 then (prE P K p, 7 + i) else prF P K r (i + 1)

def mayC (c : Cfg) : Int × Int :=
  if (lbL c.labels).1 ≠ 0 then ((lbL c.labels).1, 0) else
  if tabE c.table c.labels.length ≠ 0 then (tabE c.table c.labels.length, 1) else
  if rngE 1 256 c.fuel ≠ 0 then (2, 2) else
  if rngE 1 64 c.lane ≠ 0 then (2, 3) else
  if rngE 0 8 c.locks ≠ 0 then (2, 4) else
  if rngE 0 4096 c.log ≠ 0 then (2, 5) else
  if cntE 32 c.procs.length ≠ 0 then (cntE 32 c.procs.length, 6) else
  prF c.labels.length c.locks c.procs 0

/-- A number of so many bytes. -/
def numB (k u : Nat) : List Nat := (List.range k).map fun j => u / 2 ^ (8 * j) % 256

def hdB : List Nat := [70, 66, 67, 70, 1]
def prB (p : Pr) : List Nat := numB 1 (u64 p.part) ++ (numB 2 p.code.length ++ encB p.code)
def encC (c : Cfg) : List Nat :=
  hdB ++ ((numB 1 c.labels.length ++ c.labels.flatMap (numB 8)) ++ ((numB 1 c.table.length ++ c.table.flatMap fun x => numB 1 (u64 x)) ++
  (numB 2 (u64 c.fuel) ++ (numB 1 (u64 c.lane) ++ (numB 1 (u64 c.locks) ++ (numB 2 (u64 c.log) ++ (numB 1 c.procs.length ++ c.procs.flatMap prB)))))))

/-- What reading comes to. -/
inductive Res (α : Type) where
  | ok (a : α) (p : Nat) : Res α
  | er (e at_ : Int) : Res α

def Par (α : Type) : Type := List Nat → Nat → Res α
def pure_ {α : Type} (a : α) : Par α := fun _ p => .ok a p
def bind_ {α β : Type} (x : Par α) (f : α → Par β) : Par β := fun bs p => match x bs p with
  | .ok a q => f a bs q
  | .er e a => .er e a

/-- The next number, and what is wrong with it. -/
def numP (k : Nat) (f : Nat → Int) : Par Nat := fun bs p =>
  if bs.length < p + k then .er 5 bs.length else if f (sumB bs p k) ≠ 0 then .er (f (sumB bs p k)) p else .ok (sumB bs p k) (p + k)

/-- So many of them, each with those ahead of it known. -/
def repP {α : Type} (f : List α → Par α) : Nat → List α → Par (List α)
  | 0, acc => pure_ acc
  | m + 1, acc => bind_ (f acc) fun a => repP f m (acc ++ [a])

def hdP : Par Unit := bind_ (repP (fun acc => numP 1 fun n => if n = hdB.getD acc.length 0 then 0 else 4) 5 []) fun _ => pure_ ()
def labE (acc : List Nat) (v : Nat) : Int := if acc.length = 0 then 0 else if v = acc.getD (acc.length - 1) 0 then 8 else if v < acc.getD (acc.length - 1) 0 then 7 else 0
def labP : Par (List Nat) := bind_ (numP 1 fun n => cntE 8 n) fun n => repP (fun acc => numP 8 (labE acc)) n []
def ptP (P : Int) : Par Nat := numP 1 fun n => rngE 0 (P - 1) n
def tabP (P : Int) : Par (List Nat) := bind_ (numP 1 fun n => cntE 64 n) fun n => repP (fun _ => ptP P) n []

/-- An instruction. -/
def insP (n k : Int) : Par Ins := fun bs p =>
  if bs.length < p + 12 then .er 5 bs.length else if (wrong (getI bs p) n k).1 ≠ 0 then .er (wrong (getI bs p) n k).1 (p + (wrong (getI bs p) n k).2) else .ok (getI bs p) (p + 12)
def lenE (n : Nat) : Int := if 256 < n then 3 else 0
def codP (k : Int) : Par (List Ins) := bind_ (numP 2 lenE) fun n => repP (fun _ => insP n k) n []
def prP (P K : Int) : Par Pr := bind_ (ptP P) fun part => bind_ (codP K) fun l => pure_ ⟨part, l⟩
def prsP (P K : Int) : Par (List Pr) := bind_ (numP 1 fun n => cntE 32 n) fun n => repP (fun _ => prP P K) n []
def fuelP : Par Nat := numP 2 fun n => rngE 1 256 n
def laneP : Par Nat := numP 1 fun n => rngE 1 64 n
def locksP : Par Nat := numP 1 fun n => rngE 0 8 n
def logP : Par Nat := numP 2 fun n => rngE 0 4096 n
def cfgP : Par Cfg := bind_ hdP fun _ => bind_ labP fun labels => bind_ (tabP labels.length) fun table => bind_ fuelP fun fuel => bind_ laneP fun lane => bind_ locksP fun locks => bind_ logP fun log =>
  bind_ (prsP labels.length locks) fun procs => pure_ ⟨labels, table.map fun x : Nat => (x : Int), fuel, lane, locks, log, procs⟩

def decC (bs : List Nat) : Res Cfg := if 1048576 < bs.length then .er 22 1048576 else bind_ cfgP (fun c bs p => if p < bs.length then .er 6 p else .ok c p) bs 0

def noC : Cfg := ⟨[], [], 0, 0, 0, 0, []⟩
/-- What Decode tells. -/
def decF (bs : List Nat) : Cfg × Int × Int := match decC bs with
  | .ok c _ => (c, 0, 0)
  | .er e a => (noC, e, a)
end Go.Proofs.YtmjokinagbpihaaDoor

/- What readers promise: what is read is what was written, cut short, and where something is wrong. -/
namespace Go.Proofs.YtmjokinagbpihaaDoor
open Go.RowKit

def Byte (bs : List Nat) : Prop := ∀ i, bs.getD i 0 < 256

structure Sp {α : Type} (p : Par α) (e : α → List Nat) (V : α → Prop) : Prop where
  sound : ∀ (bs : List Nat) (q : Nat) (a : α) (q' : Nat), Byte bs → q ≤ bs.length → p bs q = .ok a q' → V a ∧ q' = q + (e a).length ∧ q' ≤ bs.length ∧ ∃ t, bs.drop q = e a ++ t
  full : ∀ (bs : List Nat) (q : Nat) (a : α) (t : List Nat), V a → q ≤ bs.length → bs.drop q = e a ++ t → p bs q = .ok a (q + (e a).length)
  cut : ∀ (bs : List Nat) (q : Nat) (a : α) (k : Nat), V a → q ≤ bs.length → k < (e a).length → bs.drop q = (e a).take k → p bs q = .er 5 bs.length
  place : ∀ (bs : List Nat) (q : Nat) (x y : Int), q ≤ bs.length → p bs q = .er x y → x ≠ 0 ∧ 0 ≤ y ∧ y ≤ bs.length

theorem drop_len {bs : List Nat} {q : Nat} {a t : List Nat} (hq : q ≤ bs.length) (h : bs.drop q = a ++ t) : q + a.length ≤ bs.length ∧ bs.drop (q + a.length) = t := by
  have h1 := congrArg List.length h
  rw [List.length_drop, List.length_append] at h1
  refine ⟨by omega, ?_⟩
  rw [← List.drop_drop, h, List.drop_left]

theorem getD_drop (bs : List Nat) (q i : Nat) : bs.getD (q + i) 0 = (bs.drop q).getD i 0 := by
  simp [List.getD_eq_getElem?_getD, List.getElem?_drop]

theorem Sp.bind {α β : Type} {p : Par α} {e1 : α → List Nat} {V1 : α → Prop} (hp : Sp p e1 V1) {f : α → Par β} {e2 : α → β → List Nat} {V2 : α → β → Prop} (hf : ∀ a, V1 a → Sp (f a) (e2 a) (V2 a))
    (hpl : ∀ a (bs : List Nat) (q : Nat) (x y : Int), q ≤ bs.length → f a bs q = .er x y → x ≠ 0 ∧ 0 ≤ y ∧ y ≤ bs.length) (hle : ∀ (bs : List Nat) (q : Nat) (a : α) (q' : Nat), q ≤ bs.length → p bs q = .ok a q' → q' ≤ bs.length)
    (pr : β → α) (hpr : ∀ a b, V2 a b → pr b = a) : Sp (bind_ p f) (fun b => e1 (pr b) ++ e2 (pr b) b) (fun b => V1 (pr b) ∧ V2 (pr b) b) where
  sound := fun bs q b q' hb hq h => by
    unfold bind_ at h
    split at h
    · next a q1 h1 =>
      obtain ⟨v1, l1, m1, t1, d1⟩ := hp.sound bs q a q1 hb hq h1
      obtain ⟨v2, l2, m2, t2, d2⟩ := (hf a v1).sound bs q1 b q' hb m1 h
      have hpb := hpr a b v2
      have hd := (drop_len hq d1).2
      rw [← l1] at hd
      refine ⟨by rw [hpb]; exact ⟨v1, v2⟩, ?_, m2, t2, ?_⟩
      · rw [hpb, List.length_append]; omega
      · rw [hpb, d1, ← hd, d2, List.append_assoc]
    · cases h
  full := fun bs q b t v hq h => by
    have h1 := hp.full bs q (pr b) (e2 (pr b) b ++ t) v.1 hq (by rw [h, List.append_assoc])
    have hd := drop_len hq (h.trans (List.append_assoc _ _ _))
    have h2 := (hf (pr b) v.1).full bs (q + (e1 (pr b)).length) b t v.2 hd.1 hd.2
    unfold bind_
    rw [h1]
    simp only
    rw [h2, List.length_append, Nat.add_assoc]
  cut := fun bs q b k v hq hk h => by
    rw [List.length_append] at hk
    unfold bind_
    by_cases hk1 : k < (e1 (pr b)).length
    · rw [List.take_append_of_le_length (by omega)] at h
      rw [hp.cut bs q (pr b) k v.1 hq hk1 h]
    · obtain ⟨m, rfl⟩ : ∃ m, k = (e1 (pr b)).length + m := ⟨k - (e1 (pr b)).length, by omega⟩
      rw [List.take_length_add_append] at h
      have h1 := hp.full bs q (pr b) _ v.1 hq h
      have hd := drop_len hq h
      rw [h1]
      exact (hf (pr b) v.1).cut bs _ b m v.2 hd.1 (by omega) hd.2
  place := fun bs q x y hq h => by
    unfold bind_ at h
    split at h
    · next a q1 h1 => exact hpl a bs q1 x y (hle bs q a q1 hq h1) h
    · next h1 =>
      cases h
      exact hp.place bs q _ _ hq h1

theorem Sp.pure {α : Type} (a : α) : Sp (pure_ a) (fun _ => []) (fun b => b = a) where
  sound := fun bs q b q' _ hq h => by
    unfold pure_ at h
    cases h
    exact ⟨rfl, rfl, hq, _, rfl⟩
  full := fun bs q b t v _ _ => by subst v; rfl
  cut := fun bs q b k _ _ hk _ => absurd hk (Nat.not_lt_zero k)
  place := fun bs q x y _ h => by cases h

/-- The same by other words. -/
theorem Sp.as {α : Type} {p : Par α} {e e' : α → List Nat} {V V' : α → Prop} (h : Sp p e V) (hv : ∀ a, V' a ↔ V a) (he : ∀ a, V a → e' a = e a) : Sp p e' V' where
  sound := fun bs q a q' hb hq h1 => by
    have h2 := h.sound bs q a q' hb hq h1
    rw [he a h2.1]
    exact ⟨(hv a).2 h2.1, h2.2⟩
  full := fun bs q a t v hq h1 => by
    rw [he a ((hv a).1 v)] at h1 ⊢
    exact h.full bs q a t ((hv a).1 v) hq h1
  cut := fun bs q a k v hq hk h1 => by
    rw [he a ((hv a).1 v)] at h1 hk
    exact h.cut bs q a k ((hv a).1 v) hq hk h1
  place := h.place

theorem numB_len (k u : Nat) : (numB k u).length = k := by simp [numB]
theorem numB_at (k u j : Nat) (h : j < k) : (numB k u).getD j 0 = u / 2 ^ (8 * j) % 256 := by
  simp [numB, List.getD_eq_getElem?_getD, h]
theorem numB_lt (k u : Nat) : Byte (numB k u) := fun i => by
  by_cases h : i < k
  · rw [numB_at k u i h]; exact Nat.mod_lt _ (by decide)
  · rw [List.getD_eq_getElem?_getD, List.getElem?_eq_none (by rw [numB_len]; omega)]; decide

theorem sum_num (bs : List Nat) (q k u : Nat) (t : List Nat) (hu : u < 2 ^ (8 * k)) (h : bs.drop q = numB k u ++ t) : sumB bs q k = u := by
  rw [sumB_of bs q u k (fun j hj => by
    rw [getD_drop, h, List.getD_eq_getElem?_getD, List.getElem?_append_left (by rw [numB_len]; exact hj), ← List.getD_eq_getElem?_getD, numB_at k u j hj]), Nat.mod_eq_of_lt hu]

theorem num_sum (bs : List Nat) (q k : Nat) (hb : Byte bs) (h : q + k ≤ bs.length) : ∃ t, bs.drop q = numB k (sumB bs q k) ++ t := by
  refine ⟨bs.drop (q + k), ?_⟩
  apply List.ext_getElem?
  intro i
  by_cases hi : i < k
  · rw [List.getElem?_append_left (by rw [numB_len]; exact hi), List.getElem?_drop]
    have h1 := numB_at k (sumB bs q k) i hi
    rw [sumB_byte bs q hb k i hi, List.getD_eq_getElem?_getD, List.getD_eq_getElem?_getD] at h1
    have hl : i < (numB k (sumB bs q k)).length := by rw [numB_len]; exact hi
    have hl2 : q + i < bs.length := by omega
    rw [List.getElem?_eq_getElem hl, List.getElem?_eq_getElem hl2] at h1
    rw [List.getElem?_eq_getElem hl, List.getElem?_eq_getElem hl2]
    simpa using h1.symm
  · rw [List.getElem?_append_right (by rw [numB_len]; omega), numB_len, List.getElem?_drop, List.getElem?_drop]
    congr 1
    omega

theorem num_le {k : Nat} {f : Nat → Int} : ∀ (bs : List Nat) (q : Nat) (a : Nat) (q' : Nat), q ≤ bs.length → numP k f bs q = .ok a q' → q' ≤ bs.length := fun bs q a q' _ h => by
  unfold numP at h
  split at h
  · cases h
  · split at h
    · cases h
    · cases h
      omega

theorem Sp.num (k : Nat) (f : Nat → Int) : Sp (numP k f) (numB k) (fun n => f n = 0 ∧ n < 2 ^ (8 * k)) where
  sound := fun bs q a q' hb hq h => by
    unfold numP at h
    split at h
    · cases h
    · next h1 =>
      split at h
      · cases h
      · next h2 =>
        cases h
        exact ⟨⟨by simpa using h2, sumB_lt bs q hb k⟩, by rw [numB_len], by omega, num_sum bs q k hb (by omega)⟩
  full := fun bs q a t v hq h => by
    have hl := drop_len hq h
    rw [numB_len] at hl
    unfold numP
    rw [sum_num bs q k a t v.2 h, if_neg (by omega), if_neg (by simp [v.1]), numB_len]
  cut := fun bs q a j v hq hj h => by
    have h1 := congrArg List.length h
    rw [List.length_drop, List.length_take, numB_len] at h1
    rw [numB_len] at hj
    unfold numP
    rw [if_pos (by omega)]
  place := fun bs q x y hq h => by
    unfold numP at h
    split at h
    · cases h
      omega
    · split at h
      · next h2 =>
        cases h
        exact ⟨h2, by omega, by omega⟩
      · cases h

def VL {α : Type} (V : List α → α → Prop) : List α → List α → Prop
  | _, [] => True
  | acc, a :: r => V acc a ∧ VL V (acc ++ [a]) r

theorem rep_le {α : Type} {f : List α → Par α} (hle : ∀ acc (bs : List Nat) (q : Nat) (a : α) (q' : Nat), q ≤ bs.length → f acc bs q = .ok a q' → q' ≤ bs.length) : ∀ (m : Nat) (acc : List α) (bs : List Nat) (q : Nat) (a : List α) (q' : Nat), q ≤ bs.length → repP f m acc bs q = .ok a q' → q' ≤ bs.length
  | 0, acc, bs, q, a, q', hq, h => by
    unfold repP pure_ at h
    cases h
    exact hq
  | m + 1, acc, bs, q, a, q', hq, h => by
    unfold repP bind_ at h
    split at h
    · next b q1 h1 => exact rep_le hle m _ bs q1 a q' (hle acc bs q b q1 hq h1) h
    · cases h

theorem rep_place {α : Type} {f : List α → Par α} (hle : ∀ acc (bs : List Nat) (q : Nat) (a : α) (q' : Nat), q ≤ bs.length → f acc bs q = .ok a q' → q' ≤ bs.length)
    (hpl : ∀ acc (bs : List Nat) (q : Nat) (x y : Int), q ≤ bs.length → f acc bs q = .er x y → x ≠ 0 ∧ 0 ≤ y ∧ y ≤ bs.length) : ∀ (m : Nat) (acc : List α) (bs : List Nat) (q : Nat) (x y : Int), q ≤ bs.length → repP f m acc bs q = .er x y → x ≠ 0 ∧ 0 ≤ y ∧ y ≤ bs.length
  | 0, acc, bs, q, x, y, hq, h => by cases h
  | m + 1, acc, bs, q, x, y, hq, h => by
    unfold repP bind_ at h
    split at h
    · next b q1 h1 => exact rep_place hle hpl m _ bs q1 x y (hle acc bs q b q1 hq h1) h
    · next h1 =>
      cases h
      exact hpl acc bs q _ _ hq h1

theorem Sp.rep {α : Type} [Inhabited α] {f : List α → Par α} {e : α → List Nat} {V : List α → α → Prop} (hf : ∀ acc, Sp (f acc) e (V acc))
    (hle : ∀ acc (bs : List Nat) (q : Nat) (a : α) (q' : Nat), q ≤ bs.length → f acc bs q = .ok a q' → q' ≤ bs.length) : ∀ (m : Nat) (acc : List α),
    Sp (repP f m acc) (fun r => (r.drop acc.length).flatMap e) (fun r => ∃ l, r = acc ++ l ∧ l.length = m ∧ VL V acc l)
  | 0, acc => (Sp.pure acc).as (fun a => ⟨fun ⟨l, h1, h2, _⟩ => by rw [h1, List.eq_nil_of_length_eq_zero h2, List.append_nil], fun h => ⟨[], by simpa using h, rfl, trivial⟩⟩) (fun a h => by subst h; simp)
  | m + 1, acc => by
    have hb := Sp.bind (hf acc) (e2 := fun a r => (r.drop (acc ++ [a]).length).flatMap e) (V2 := fun a r => ∃ l, r = (acc ++ [a]) ++ l ∧ l.length = m ∧ VL V (acc ++ [a]) l) (fun a _ => Sp.rep hf hle m (acc ++ [a]))
      (fun a bs q x y hq h => rep_place hle (fun acc => (hf acc).place) m _ bs q x y hq h) (hle acc) (fun r => r.getD acc.length default) (fun a r ⟨l, h1, _⟩ => by subst h1; simp)
    refine hb.as (fun r => ⟨?_, ?_⟩) (fun r h => ?_)
    · rintro ⟨l, rfl, h2, h3⟩
      cases l with
      | nil => cases h2
      | cons a l =>
        have e1 : (acc ++ a :: l).getD acc.length default = a := by simp
        rw [e1]
        exact ⟨h3.1, l, by simp, by simpa using h2, h3.2⟩
    · rintro ⟨h1, l, h2, h3, h4⟩
      refine ⟨r.getD acc.length default :: l, ?_, by simp [h3], ⟨h1, h4⟩⟩
      generalize r.getD acc.length default = a at h2 ⊢
      rw [h2, List.append_assoc]
      rfl
    · obtain ⟨h1, l, h2, h3, h4⟩ := h
      generalize r.getD acc.length default = a at h1 h2 h4 ⊢
      subst h2
      have e1 : (acc ++ [a] ++ l).drop acc.length = a :: l := by rw [List.append_assoc, List.drop_left]; rfl
      have e2 : (acc ++ [a] ++ l).drop (acc ++ [a]).length = l := by rw [List.drop_left]
      rw [e1, e2, List.flatMap_cons]

/-- So many of them, and how many first. -/
theorem Sp.list {α : Type} [Inhabited α] {k : Nat} {c : Nat → Int} {f : Nat → List α → Par α} {e : α → List Nat} {V : Nat → List α → α → Prop} (hf : ∀ n acc, Sp (f n acc) e (V n acc))
    (hle : ∀ n acc (bs : List Nat) (q : Nat) (a : α) (q' : Nat), q ≤ bs.length → f n acc bs q = .ok a q' → q' ≤ bs.length) :
    Sp (bind_ (numP k c) fun n => repP (f n) n []) (fun l => numB k l.length ++ l.flatMap e) (fun l => (c l.length = 0 ∧ l.length < 2 ^ (8 * k)) ∧ VL (V l.length) [] l) := by
  have hb := Sp.bind (Sp.num k c) (f := fun n => repP (f n) n []) (e2 := fun _ r => (r.drop 0).flatMap e) (V2 := fun n r => ∃ l, r = [] ++ l ∧ l.length = n ∧ VL (V n) [] l) (fun n _ => Sp.rep (hf n) (hle n) n [])
    (fun n bs q x y hq h => rep_place (hle n) (fun acc => (hf n acc).place) n _ bs q x y hq h) num_le List.length (fun n r ⟨l, h1, h2, _⟩ => by subst h1; simpa using h2)
  refine hb.as (fun l => ⟨fun ⟨h1, h2⟩ => ⟨h1, l, rfl, rfl, h2⟩, fun ⟨h1, l', h2, h3, h4⟩ => ?_⟩) (fun l _ => by simp)
  have : l' = l := by simpa using h2.symm
  subst this
  exact ⟨h1, h4⟩

theorem list_le {α : Type} {k : Nat} {c : Nat → Int} {f : Nat → List α → Par α} (hle : ∀ n acc (bs : List Nat) (q : Nat) (a : α) (q' : Nat), q ≤ bs.length → f n acc bs q = .ok a q' → q' ≤ bs.length) :
    ∀ (bs : List Nat) (q : Nat) (a : List α) (q' : Nat), q ≤ bs.length → (bind_ (numP k c) fun n => repP (f n) n []) bs q = .ok a q' → q' ≤ bs.length := fun bs q a q' hq h => by
  unfold bind_ at h
  split at h
  · next n q1 h1 => exact rep_le (hle n) n [] bs q1 a q' (num_le bs q n q1 hq h1) h
  · cases h

theorem bind_le {α β : Type} {p : Par α} {f : α → Par β} (hp : ∀ (bs : List Nat) (q : Nat) (a : α) (q' : Nat), q ≤ bs.length → p bs q = .ok a q' → q' ≤ bs.length)
    (hf : ∀ a (bs : List Nat) (q : Nat) (b : β) (q' : Nat), q ≤ bs.length → f a bs q = .ok b q' → q' ≤ bs.length) : ∀ (bs : List Nat) (q : Nat) (b : β) (q' : Nat), q ≤ bs.length → bind_ p f bs q = .ok b q' → q' ≤ bs.length := fun bs q b q' hq h => by
  unfold bind_ at h
  split at h
  · next a q1 h1 => exact hf a bs q1 b q' (hp bs q a q1 hq h1) h
  · cases h
theorem bind_place {α β : Type} {p : Par α} {f : α → Par β} (hp : ∀ (bs : List Nat) (q : Nat) (a : α) (q' : Nat), q ≤ bs.length → p bs q = .ok a q' → q' ≤ bs.length)
    (hpp : ∀ (bs : List Nat) (q : Nat) (x y : Int), q ≤ bs.length → p bs q = .er x y → x ≠ 0 ∧ 0 ≤ y ∧ y ≤ bs.length)
    (hf : ∀ a (bs : List Nat) (q : Nat) (x y : Int), q ≤ bs.length → f a bs q = .er x y → x ≠ 0 ∧ 0 ≤ y ∧ y ≤ bs.length) : ∀ (bs : List Nat) (q : Nat) (x y : Int), q ≤ bs.length → bind_ p f bs q = .er x y → x ≠ 0 ∧ 0 ≤ y ∧ y ≤ bs.length := fun bs q x y hq h => by
  unfold bind_ at h
  split at h
  · next a q1 h1 => exact hf a bs q1 x y (hp bs q a q1 hq h1) h
  · next h1 =>
    cases h
    exact hpp bs q _ _ hq h1
theorem pure_le {α : Type} {a : α} : ∀ (bs : List Nat) (q : Nat) (b : α) (q' : Nat), q ≤ bs.length → pure_ a bs q = .ok b q' → q' ≤ bs.length := fun bs q b q' hq h => by
  cases h
  exact hq
theorem pure_place {α : Type} {a : α} : ∀ (bs : List Nat) (q : Nat) (x y : Int), q ≤ bs.length → pure_ a bs q = .er x y → x ≠ 0 ∧ 0 ≤ y ∧ y ≤ bs.length := fun bs q x y _ h => by cases h
end Go.Proofs.YtmjokinagbpihaaDoor

/- Configs' bytes there and back. -/
namespace Go.Proofs.YtmjokinagbpihaaDoor
open Go.RowKit

theorem ins_le {n k : Int} : ∀ (bs : List Nat) (q : Nat) (a : Ins) (q' : Nat), q ≤ bs.length → insP n k bs q = .ok a q' → q' ≤ bs.length := fun bs q a q' _ h => by
  unfold insP at h
  split at h
  · cases h
  · split at h
    · cases h
    · cases h
      omega

theorem insB_byte (x : Ins) : Byte (insB x) := fun i => by
  have h : ∀ y ∈ insB x, y < 256 := by
    intro y hy
    simp only [insB, List.mem_append, List.mem_cons, List.not_mem_nil, or_false, List.mem_map] at hy
    rcases hy with ((rfl | rfl | rfl | rfl) | ⟨j, _, rfl⟩)
    · exact b8_lt _
    · exact b8_lt _
    · exact b8_lt _
    · exact b8_lt _
    · exact byteAt_lt _ _
  rw [List.getD_eq_getElem?_getD]
  cases hc : (insB x)[i]? with
  | none => simp
  | some y => exact h y (List.mem_of_getElem? hc)

theorem get_ins (bs : List Nat) (q : Nat) (x : Ins) (t : List Nat) (n k : Int) (hw : (wrong x n k).1 = 0) (hf : Fit x) (h : bs.drop q = insB x ++ t) : getI bs q = x := by
  have h1 := get_enc [x] 0 (by simp) n k hw hf
  have e1 : ∀ i, i < 12 → bs.getD (q + i) 0 = (encB [x]).getD i 0 := fun i hi => by
    rw [getD_drop, h, List.getD_eq_getElem?_getD, List.getElem?_append_left (by rw [insB_len]; exact hi)]
    simp [encB, List.getD_eq_getElem?_getD]
  have e2 : ∀ m, m ≤ 8 → sumB bs (q + 4) m = sumB (encB [x]) (0 + 4) m := fun m => by
    induction m with
    | zero => intro _; rfl
    | succ m ih =>
      intro hm
      rw [sumB, sumB, ih (by omega), show q + 4 + m = q + (4 + m) by omega, e1 (4 + m) (by omega), show 0 + 4 + m = 4 + m by omega]
  have : getI bs q = getI (encB [x]) (12 * 0) := by
    unfold getI
    rw [show 12 * 0 = 0 by rfl, e2 8 (by omega), e1 1 (by omega), e1 2 (by omega), e1 3 (by omega), show bs.getD q 0 = bs.getD (q + 0) 0 by rfl, e1 0 (by omega)]
  rw [this, h1]
  rfl

theorem ins_get (bs : List Nat) (q : Nat) (hb : Byte bs) (h : q + 12 ≤ bs.length) : ∃ t, bs.drop q = insB (getI bs q) ++ t := by
  refine ⟨bs.drop (q + 12), ?_⟩
  apply List.ext_getElem?
  intro i
  by_cases hi : i < 12
  · rw [List.getElem?_append_left (by rw [insB_len]; exact hi), List.getElem?_drop]
    have h1 := insB_get bs q hb i hi
    rw [List.getD_eq_getElem?_getD, List.getD_eq_getElem?_getD] at h1
    have hl : i < (insB (getI bs q)).length := by rw [insB_len]; exact hi
    have hl2 : q + i < bs.length := by omega
    rw [List.getElem?_eq_getElem hl, List.getElem?_eq_getElem hl2] at h1
    rw [List.getElem?_eq_getElem hl, List.getElem?_eq_getElem hl2]
    simpa using h1.symm
  · rw [List.getElem?_append_right (by rw [insB_len]; omega), insB_len, List.getElem?_drop, List.getElem?_drop]
    congr 1
    omega

theorem get_fit (bs : List Nat) (q : Nat) : Fit (getI bs q) := by
  unfold Fit getI wrap64
  simp only
  omega

theorem Sp.ins (n k : Int) : Sp (insP n k) insB (fun x => (wrong x n k).1 = 0 ∧ Fit x) where
  sound := fun bs q a q' hb hq h => by
    unfold insP at h
    split at h
    · cases h
    · next h1 =>
      split at h
      · cases h
      · next h2 =>
        cases h
        exact ⟨⟨by simpa using h2, get_fit bs q⟩, by rw [insB_len], by omega, ins_get bs q hb (by omega)⟩
  full := fun bs q a t v hq h => by
    have hl := drop_len hq h
    rw [insB_len] at hl
    unfold insP
    rw [get_ins bs q a t n k v.1 v.2 h, if_neg (by omega), if_neg (by simp [v.1]), insB_len]
  cut := fun bs q a j v hq hj h => by
    have h1 := congrArg List.length h
    rw [List.length_drop, List.length_take, insB_len] at h1
    rw [insB_len] at hj
    unfold insP
    rw [if_pos (by omega)]
  place := fun bs q x y hq h => by
    unfold insP at h
    split at h
    · cases h
      omega
    · split at h
      · next h1 h2 =>
        cases h
        have := wrong_at_lt (getI bs q) n k
        exact ⟨h2, by omega, by omega⟩
      · cases h

/-- A config that may be, as far as reading can tell. -/
def codV (K : Int) (l : List Ins) : Prop := (lenE l.length = 0 ∧ l.length < 2 ^ (8 * 2)) ∧ VL (fun _ x => (wrong x l.length K).1 = 0 ∧ Fit x) [] l
theorem Sp.cod (K : Int) : Sp (codP K) (fun l => numB 2 l.length ++ l.flatMap insB) (codV K) :=
  Sp.list (k := 2) (c := lenE) (f := fun n _ => insP n K) (V := fun n _ x => (wrong x n K).1 = 0 ∧ Fit x) (fun n _ => Sp.ins n K) (fun _ _ => ins_le)
theorem cod_le (K : Int) : ∀ (bs : List Nat) (q : Nat) (a : List Ins) (q' : Nat), q ≤ bs.length → codP K bs q = .ok a q' → q' ≤ bs.length := list_le (fun _ _ => ins_le)

def ptV (P : Int) (n : Nat) : Prop := rngE 0 (P - 1) n = 0 ∧ n < 2 ^ (8 * 1)
theorem Sp.pt (P : Int) : Sp (ptP P) (numB 1) (ptV P) := Sp.num 1 _

theorem pr_le (P K : Int) : ∀ (bs : List Nat) (q : Nat) (a : Pr) (q' : Nat), q ≤ bs.length → prP P K bs q = .ok a q' → q' ≤ bs.length :=
  bind_le num_le (fun _ => bind_le (cod_le K) (fun _ => pure_le))
def prV (P K : Int) (p : Pr) : Prop := ptV P p.part.toNat ∧ 0 ≤ p.part ∧ codV K p.code
theorem Sp.pr (P K : Int) : Sp (prP P K) prB (prV P K) := by
  have h := Sp.bind (Sp.pt P) (f := fun part => bind_ (codP K) fun l => pure_ (⟨part, l⟩ : Pr)) (e2 := fun _ p => (numB 2 p.code.length ++ p.code.flatMap insB) ++ []) (V2 := fun part p => codV K p.code ∧ p = ⟨part, p.code⟩)
    (fun part _ => Sp.bind (Sp.cod K) (f := fun l => pure_ (⟨part, l⟩ : Pr)) (e2 := fun _ _ => []) (V2 := fun l p => p = ⟨part, l⟩) (fun l _ => Sp.pure _) (fun l => pure_place) (cod_le K) Pr.code (fun l p hp => by rw [hp]))
    (fun part => bind_place (cod_le K) (Sp.cod K).place (fun l => pure_place)) num_le (fun p => p.part.toNat) (fun part p hp => by rw [hp.2]; simp)
  refine h.as (fun p => ⟨fun hp => ⟨hp.1, hp.2.2, ?_⟩, fun hp => ⟨hp.1, ?_, hp.2.1⟩⟩) (fun p hp => ?_)
  · have : ((p.part.toNat : Nat) : Int) = p.part := Int.toNat_of_nonneg hp.2.1
    rw [this]
  · rw [hp.2.2]
    exact Int.natCast_nonneg _
  · have h0 : p.part = ((p.part.toNat : Nat) : Int) := by
      have h1 := congrArg Pr.part hp.2.2
      simpa using h1
    have h2 : p.part.toNat < 256 := hp.1.2
    have : u64 p.part = p.part.toNat := by
      generalize p.part.toNat = m at *
      rw [h0]
      unfold u64
      omega
    simp only [prB, encB, this, List.append_nil]

def labV (l : List Nat) : Prop := (cntE 8 l.length = 0 ∧ l.length < 2 ^ (8 * 1)) ∧ VL (fun acc n => labE acc n = 0 ∧ n < 2 ^ (8 * 8)) [] l
theorem Sp.lab : Sp labP (fun l => numB 1 l.length ++ l.flatMap (numB 8)) labV :=
  Sp.list (k := 1) (c := fun n => cntE 8 n) (f := fun _ acc => numP 8 (labE acc)) (V := fun _ acc n => labE acc n = 0 ∧ n < 2 ^ (8 * 8)) (fun _ _ => Sp.num 8 _) (fun _ _ => num_le)
theorem lab_le : ∀ (bs : List Nat) (q : Nat) (a : List Nat) (q' : Nat), q ≤ bs.length → labP bs q = .ok a q' → q' ≤ bs.length := list_le (f := fun _ acc => numP 8 (labE acc)) (fun _ _ => num_le)

def tabV (P : Int) (l : List Nat) : Prop := (cntE 64 l.length = 0 ∧ l.length < 2 ^ (8 * 1)) ∧ VL (fun _ n => ptV P n) [] l
theorem Sp.tab (P : Int) : Sp (tabP P) (fun l => numB 1 l.length ++ l.flatMap (numB 1)) (tabV P) :=
  Sp.list (k := 1) (c := fun n => cntE 64 n) (f := fun _ _ => ptP P) (V := fun _ _ n => ptV P n) (fun _ _ => Sp.pt P) (fun _ _ => num_le)
theorem tab_le (P : Int) : ∀ (bs : List Nat) (q : Nat) (a : List Nat) (q' : Nat), q ≤ bs.length → tabP P bs q = .ok a q' → q' ≤ bs.length := list_le (f := fun _ _ => ptP P) (fun _ _ => num_le)

def prsV (P K : Int) (l : List Pr) : Prop := (cntE 32 l.length = 0 ∧ l.length < 2 ^ (8 * 1)) ∧ VL (fun _ p => prV P K p) [] l
theorem Sp.prs (P K : Int) : Sp (prsP P K) (fun l => numB 1 l.length ++ l.flatMap prB) (prsV P K) :=
  Sp.list (k := 1) (c := fun n => cntE 32 n) (f := fun _ _ => prP P K) (V := fun _ _ p => prV P K p) (fun _ _ => Sp.pr P K) (fun _ _ => pr_le P K)
theorem prs_le (P K : Int) : ∀ (bs : List Nat) (q : Nat) (a : List Pr) (q' : Nat), q ≤ bs.length → prsP P K bs q = .ok a q' → q' ≤ bs.length := list_le (f := fun _ _ => prP P K) (fun _ _ => pr_le P K)

theorem hd_le : ∀ (bs : List Nat) (q : Nat) (a : Unit) (q' : Nat), q ≤ bs.length → hdP bs q = .ok a q' → q' ≤ bs.length :=
  bind_le (rep_le (fun _ => num_le) 5 []) (fun _ => pure_le)
theorem hd_list : ∀ (l : List Nat), (l.length = 5 ∧ VL (fun acc n => (if n = hdB.getD acc.length 0 then (0 : Int) else 4) = 0 ∧ n < 2 ^ (8 * 1)) [] l) ↔ l = hdB := fun l => by
  constructor
  · rintro ⟨h1, h2⟩
    match l, h1 with
    | [a, b, c, d, e], _ =>
      simp only [VL, List.nil_append, List.cons_append, List.length_nil, List.length_cons, hdB] at h2
      have ha : a = 70 := by have := h2.1.1; split at this <;> simp_all
      have hb : b = 66 := by have := h2.2.1.1; split at this <;> simp_all
      have hc : c = 67 := by have := h2.2.2.1.1; split at this <;> simp_all
      have hd : d = 70 := by have := h2.2.2.2.1.1; split at this <;> simp_all
      have he : e = 1 := by have := h2.2.2.2.2.1.1; split at this <;> simp_all
      subst ha hb hc hd he
      rfl
  · rintro rfl
    refine ⟨rfl, ?_⟩
    simp [VL, hdB]
theorem Sp.hd : Sp hdP (fun _ => hdB) (fun _ => True) := by
  have h := Sp.bind (Sp.rep (f := fun acc => numP 1 fun n => if n = hdB.getD acc.length 0 then 0 else 4) (V := fun acc n => (if n = hdB.getD acc.length 0 then (0 : Int) else 4) = 0 ∧ n < 2 ^ (8 * 1)) (fun _ => Sp.num 1 _) (fun _ => num_le) 5 []) (f := fun _ => pure_ ()) (e2 := fun _ _ => []) (V2 := fun l _ => l = hdB)
    (fun l hl => by
      obtain ⟨l', h1, h2, h3⟩ := hl
      have : l = l' := by simpa using h1
      subst this
      have e := (hd_list l).1 ⟨h2, h3⟩
      exact (Sp.pure ()).as (fun _ => ⟨fun _ => rfl, fun _ => e⟩) (fun _ _ => rfl)) (fun _ => pure_place) (rep_le (fun _ => num_le) 5 []) (fun _ => hdB) (fun l _ hl => hl.symm)
  refine h.as (fun _ => ⟨fun _ => ⟨⟨hdB, rfl, ?_⟩, rfl⟩, fun _ => trivial⟩) (fun _ _ => by simp [hdB, numB, List.flatMap])
  exact (hd_list hdB).2 rfl
end Go.Proofs.YtmjokinagbpihaaDoor

/- A config that may be is what is read; Decode as a whole. -/
namespace Go.Proofs.YtmjokinagbpihaaDoor
open Go.RowKit

def iT (c : Cfg) : List Nat := c.table.map Int.toNat
def mkC (labels table : List Nat) (fuel lane locks log : Nat) (procs : List Pr) : Cfg := ⟨labels, table.map fun x : Nat => (x : Int), fuel, lane, locks, log, procs⟩
def W8 (labels table : List Nat) (fuel lane locks log : Nat) (c : Cfg) : Prop := prsV labels.length locks c.procs ∧ c = mkC labels table fuel lane locks log c.procs
def W7 (labels table : List Nat) (fuel lane locks : Nat) (c : Cfg) : Prop := (rngE 0 4096 c.log.toNat = 0 ∧ c.log.toNat < 2 ^ (8 * 2)) ∧ W8 labels table fuel lane locks c.log.toNat c
def W6 (labels table : List Nat) (fuel lane : Nat) (c : Cfg) : Prop := (rngE 0 8 c.locks.toNat = 0 ∧ c.locks.toNat < 2 ^ (8 * 1)) ∧ W7 labels table fuel lane c.locks.toNat c
def W5 (labels table : List Nat) (fuel : Nat) (c : Cfg) : Prop := (rngE 1 64 c.lane.toNat = 0 ∧ c.lane.toNat < 2 ^ (8 * 1)) ∧ W6 labels table fuel c.lane.toNat c
def W4 (labels table : List Nat) (c : Cfg) : Prop := (rngE 1 256 c.fuel.toNat = 0 ∧ c.fuel.toNat < 2 ^ (8 * 2)) ∧ W5 labels table c.fuel.toNat c
def W3 (labels : List Nat) (c : Cfg) : Prop := tabV labels.length (iT c) ∧ W4 labels (iT c) c
def W2 (c : Cfg) : Prop := labV c.labels ∧ W3 c.labels c
def cfgV (c : Cfg) : Prop := True ∧ W2 c

def P8 (labels table : List Nat) (fuel lane locks log : Nat) : Par Cfg := bind_ (prsP labels.length locks) fun procs => pure_ (mkC labels table fuel lane locks log procs)
def P7 (labels table : List Nat) (fuel lane locks : Nat) : Par Cfg := bind_ logP fun log => P8 labels table fuel lane locks log
def P6 (labels table : List Nat) (fuel lane : Nat) : Par Cfg := bind_ locksP fun locks => P7 labels table fuel lane locks
def P5 (labels table : List Nat) (fuel : Nat) : Par Cfg := bind_ laneP fun lane => P6 labels table fuel lane
def P4 (labels table : List Nat) : Par Cfg := bind_ fuelP fun fuel => P5 labels table fuel
def P3 (labels : List Nat) : Par Cfg := bind_ (tabP labels.length) fun table => P4 labels table
def P2 : Par Cfg := bind_ labP fun labels => P3 labels
theorem cfgP_eq : cfgP = bind_ hdP fun _ => P2 := rfl

def E8 (c : Cfg) : List Nat := (numB 1 c.procs.length ++ c.procs.flatMap prB) ++ []
def E7 (c : Cfg) : List Nat := numB 2 c.log.toNat ++ E8 c
def E6 (c : Cfg) : List Nat := numB 1 c.locks.toNat ++ E7 c
def E5 (c : Cfg) : List Nat := numB 1 c.lane.toNat ++ E6 c
def E4 (c : Cfg) : List Nat := numB 2 c.fuel.toNat ++ E5 c
def E3 (c : Cfg) : List Nat := (numB 1 (iT c).length ++ (iT c).flatMap (numB 1)) ++ E4 c
def E2 (c : Cfg) : List Nat := (numB 1 c.labels.length ++ c.labels.flatMap (numB 8)) ++ E3 c
def E1 (c : Cfg) : List Nat := hdB ++ E2 c

theorem sp8 (a b : List Nat) (f g h i : Nat) : Sp (P8 a b f g h i) E8 (W8 a b f g h i) :=
  Sp.bind (Sp.prs a.length h) (f := fun procs => pure_ (mkC a b f g h i procs)) (e2 := fun _ _ => []) (V2 := fun procs c => c = mkC a b f g h i procs) (fun _ _ => Sp.pure _) (fun _ => pure_place) (prs_le _ _) Cfg.procs (fun _ c hc => by rw [hc]; rfl)
theorem pl8 (a b : List Nat) (f g h i : Nat) : ∀ (bs : List Nat) (q : Nat) (x y : Int), q ≤ bs.length → P8 a b f g h i bs q = .er x y → x ≠ 0 ∧ 0 ≤ y ∧ y ≤ bs.length := (sp8 a b f g h i).place
theorem sp7 (a b : List Nat) (f g h : Nat) : Sp (P7 a b f g h) E7 (W7 a b f g h) :=
  Sp.bind (Sp.num 2 _) (f := fun log => P8 a b f g h log) (e2 := fun _ => E8) (V2 := fun log => W8 a b f g h log) (fun log _ => sp8 a b f g h log) (fun log => (sp8 a b f g h log).place) num_le (fun c => c.log.toNat) (fun _ c hc => by rw [hc.2]; exact Int.toNat_natCast _)
theorem sp6 (a b : List Nat) (f g : Nat) : Sp (P6 a b f g) E6 (W6 a b f g) :=
  Sp.bind (Sp.num 1 _) (f := fun locks => P7 a b f g locks) (e2 := fun _ => E7) (V2 := fun locks => W7 a b f g locks) (fun k _ => sp7 a b f g k) (fun k => (sp7 a b f g k).place) num_le (fun c => c.locks.toNat) (fun _ c hc => by rw [hc.2.2]; exact Int.toNat_natCast _)
theorem sp5 (a b : List Nat) (f : Nat) : Sp (P5 a b f) E5 (W5 a b f) :=
  Sp.bind (Sp.num 1 _) (f := fun lane => P6 a b f lane) (e2 := fun _ => E6) (V2 := fun k => W6 a b f k) (fun k _ => sp6 a b f k) (fun k => (sp6 a b f k).place) num_le (fun c => c.lane.toNat) (fun _ c hc => by rw [hc.2.2.2]; exact Int.toNat_natCast _)
theorem sp4 (a b : List Nat) : Sp (P4 a b) E4 (W4 a b) :=
  Sp.bind (Sp.num 2 _) (f := fun fuel => P5 a b fuel) (e2 := fun _ => E5) (V2 := fun k => W5 a b k) (fun k _ => sp5 a b k) (fun k => (sp5 a b k).place) num_le (fun c => c.fuel.toNat) (fun _ c hc => by rw [hc.2.2.2.2]; exact Int.toNat_natCast _)
theorem map_back (l : List Nat) : (l.map fun x : Nat => (x : Int)).map Int.toNat = l := by
  rw [List.map_map]
  exact (List.map_congr_left (fun x _ => by simp)).trans (List.map_id l)
theorem sp3 (a : List Nat) : Sp (P3 a) E3 (W3 a) :=
  Sp.bind (Sp.tab a.length) (f := fun table => P4 a table) (e2 := fun _ => E4) (V2 := fun k => W4 a k) (fun k _ => sp4 a k) (fun k => (sp4 a k).place) (tab_le _) iT (fun k c hc => by rw [hc.2.2.2.2.2]; exact map_back k)
theorem sp2 : Sp P2 E2 W2 :=
  Sp.bind Sp.lab (f := fun k => P3 k) (e2 := fun _ => E3) (V2 := fun k => W3 k) (fun k _ => sp3 k) (fun k => (sp3 k).place) lab_le Cfg.labels (fun k c hc => by rw [hc.2.2.2.2.2.2]; rfl)
theorem sp1 : Sp cfgP E1 cfgV :=
  Sp.bind Sp.hd (f := fun _ => P2) (e2 := fun _ => E2) (V2 := fun _ => W2) (fun _ _ => sp2) (fun _ => sp2.place) hd_le (fun _ => ()) (fun _ _ _ => rfl)

theorem vl_all {α : Type} {Q : α → Prop} : ∀ (l acc : List α), VL (fun _ a => Q a) acc l ↔ ∀ a ∈ l, Q a
  | [], acc => by simp [VL]
  | a :: r, acc => by simp [VL, vl_all r (acc ++ [a])]

theorem lab_from : ∀ (r acc : List Nat), 1 ≤ acc.length → ((lbFrom (acc ++ r) r.length acc.length).1 = 0 ↔ VL (fun acc n => labE acc n = 0) acc r)
  | [], acc, _ => by simp [VL, lbFrom]
  | a :: r, acc, h => by
    have ih := lab_from r (acc ++ [a]) (by simp)
    have e1 : (acc ++ a :: r).getD acc.length 0 = a := by simp
    have e2 : (acc ++ a :: r).getD (acc.length - 1) 0 = acc.getD (acc.length - 1) 0 := by
      rw [List.getD_eq_getElem?_getD, List.getElem?_append_left (by omega), ← List.getD_eq_getElem?_getD]
    rw [List.length_cons, lbFrom, e1, e2]
    rw [List.append_assoc, List.length_append] at ih
    have hl : labE acc a = if a = acc.getD (acc.length - 1) 0 then 8 else if a < acc.getD (acc.length - 1) 0 then 7 else 0 := by
      unfold labE
      rw [if_neg (by omega : ¬ acc.length = 0)]
    simp only [VL]
    rw [hl]
    by_cases h1 : a = acc.getD (acc.length - 1) 0
    · rw [if_pos h1, if_pos h1]; simp
    · rw [if_neg h1, if_neg h1]
      by_cases h2 : a < acc.getD (acc.length - 1) 0
      · rw [if_pos h2, if_pos h2]; simp
      · rw [if_neg h2, if_neg h2]
        simp only [true_and]
        exact ih

theorem lab_iff (l : List Nat) (hw : ∀ x ∈ l, x < 18446744073709551616) : labV l ↔ (lbL l).1 = 0 := by
  have h2 : ∀ (r acc : List Nat), (∀ x ∈ r, x < 18446744073709551616) → (VL (fun acc n => labE acc n = 0 ∧ n < 2 ^ (8 * 8)) acc r ↔ VL (fun acc n => labE acc n = 0) acc r) := by
    intro r
    induction r with
    | nil => intro acc _; simp [VL]
    | cons a r ih =>
      intro acc hr
      simp only [VL]
      rw [ih (acc ++ [a]) (fun x hx => hr x (List.mem_cons_of_mem _ hx))]
      have := hr a List.mem_cons_self
      constructor
      · rintro ⟨⟨h1, _⟩, h3⟩; exact ⟨h1, h3⟩
      · rintro ⟨h1, h3⟩; exact ⟨⟨h1, this⟩, h3⟩
  unfold labV
  rw [h2 l [] hw]
  unfold lbL cntE
  cases l with
  | nil => simp
  | cons a r =>
    have h3 := lab_from r [a] (by simp)
    have h4 : labE [] a = 0 := by simp [labE]
    simp only [VL, h4, true_and, List.nil_append, List.length_cons]
    rw [← h3]
    simp only [List.cons_append, List.nil_append, List.length_cons, List.length_nil]
    rw [if_neg (by omega : ¬ ((r.length + 1 : Nat) : Int) = 0), if_neg (by omega : ¬ r.length + 1 = 0)]
    by_cases h8 : 8 < r.length + 1
    · rw [if_pos (by omega : (8 : Int) < ((r.length + 1 : Nat) : Int)), if_pos h8]
      simp
    · rw [if_neg (by omega : ¬ (8 : Int) < ((r.length + 1 : Nat) : Int)), if_neg h8]
      simp
      omega

theorem pt_iff (P x : Int) (hP : P ≤ 8) : (ptV P x.toNat ∧ 0 ≤ x) ↔ isPt P x = true := by
  unfold ptV rngE isPt
  simp only [Bool.and_eq_true, decide_eq_true_eq]
  constructor
  · rintro ⟨⟨h1, _⟩, h2⟩
    split at h1
    · omega
    · simp at h1
  · rintro ⟨h1, h2⟩
    rw [if_pos (by omega)]
    exact ⟨⟨rfl, by omega⟩, h1⟩

theorem tab_iff (l : List Int) (P : Int) (hP : P ≤ 8) : (tabV P (l.map Int.toNat) ∧ ∀ x ∈ l, 0 ≤ x) ↔ tabE l P = 0 := by
  unfold tabV tabE cntE
  rw [vl_all, List.length_map]
  have h1 : (∀ a ∈ l.map Int.toNat, ptV P a) ∧ (∀ x ∈ l, 0 ≤ x) ↔ l.all (isPt P) = true := by
    rw [List.all_eq_true]
    constructor
    · rintro ⟨h1, h2⟩ x hx
      exact (pt_iff P x hP).1 ⟨h1 _ (List.mem_map_of_mem hx), h2 x hx⟩
    · intro h
      refine ⟨fun a ha => ?_, fun x hx => ((pt_iff P x hP).2 (h x hx)).2⟩
      obtain ⟨x, hx, rfl⟩ := List.mem_map.1 ha
      exact ((pt_iff P x hP).2 (h x hx)).1
  rw [and_assoc, h1]
  by_cases h0 : l.length = 0
  · rw [if_pos (by omega), if_pos h0]; simp
  · rw [if_neg (by omega), if_neg h0]
    by_cases h2 : 64 < l.length
    · rw [if_pos (by omega), if_pos h2]; simp
    · rw [if_neg (by omega), if_neg h2]
      by_cases h3 : l.all (isPt P) = true
      · rw [if_pos h3]; simp [h3]; omega
      · rw [if_neg h3]; simp [h3]

theorem rng_iff (lo hi : Int) (x : Int) (k : Nat) (h0 : 0 ≤ lo) (hk : hi < (2 ^ (8 * k) : Nat)) : ((rngE lo hi (x.toNat : Nat) = 0 ∧ x.toNat < 2 ^ (8 * k)) ∧ x = (x.toNat : Nat)) ↔ rngE lo hi x = 0 := by
  generalize 2 ^ (8 * k) = M at hk ⊢
  unfold rngE
  constructor
  · rintro ⟨⟨h1, _⟩, h2⟩
    rw [← h2] at h1
    exact h1
  · intro h
    split at h
    · next h1 =>
      have e : ((x.toNat : Nat) : Int) = x := Int.toNat_of_nonneg (by omega)
      rw [e, if_pos h1]
      exact ⟨⟨rfl, by omega⟩, rfl⟩
    · simp at h

theorem cod_iff (K : Int) (l : List Ins) (hK : 0 ≤ K ∧ K ≤ 8) (hf : ∀ x ∈ l, Fit x) : codV K l ↔ (mayL l K).1 = 0 := by
  unfold codV lenE mayL
  rw [vl_all, if_neg (by omega : ¬ ¬ (0 ≤ K ∧ K ≤ 8))]
  by_cases h : 256 < l.length
  · rw [if_pos h, if_pos h]; simp
  · rw [if_neg h, if_neg h]
    constructor
    · rintro ⟨_, h1⟩
      rw [firstE_none _ _ _ _ (fun j hj => (h1 _ (by rw [List.getD_eq_getElem?_getD, List.getElem?_eq_getElem hj]; exact List.getElem_mem hj)).1)]
    · intro h1
      refine ⟨⟨rfl, by omega⟩, fun x hx => ⟨?_, hf x hx⟩⟩
      obtain ⟨j, hj, rfl⟩ := List.getElem_of_mem hx
      have := firstE_zero _ _ _ _ h1 j hj
      rwa [List.getD_eq_getElem?_getD, List.getElem?_eq_getElem hj] at this

theorem prE_iff (P K : Int) (p : Pr) (hP : P ≤ 8) (hK : 0 ≤ K ∧ K ≤ 8) (hf : ∀ x ∈ p.code, Fit x) : prV P K p ↔ prE P K p = 0 := by
  unfold prV prE
  rw [cod_iff K _ hK hf, ← and_assoc, pt_iff P p.part hP]
  unfold isPt rngE
  simp only [Bool.and_eq_true, decide_eq_true_eq]
  by_cases h : 0 ≤ p.part ∧ p.part < P
  · rw [if_neg (by rw [if_pos (by omega)]; simp)]
    exact ⟨fun h => h.2, fun h' => ⟨h, h'⟩⟩
  · rw [if_pos (by rw [if_neg (by omega)]; decide)]
    simp [h]

theorem prF_iff (P K : Int) : ∀ (l : List Pr) (i : Int), (prF P K l i).1 = 0 ↔ ∀ p ∈ l, prE P K p = 0
  | [], _ => by simp [prF]
  | p :: r, i => by
    unfold prF
    by_cases h : prE P K p = 0
    · rw [if_neg (by simp [h]), prF_iff P K r (i + 1)]
      simp [h]
    · rw [if_pos h]
      simp [h]
theorem prF_zero (P K : Int) : ∀ (l : List Pr) (i : Int), (prF P K l i).1 = 0 → prF P K l i = (0, 0)
  | [], _, _ => rfl
  | p :: r, i, h => by
    unfold prF at h ⊢
    by_cases h1 : prE P K p = 0
    · rw [if_neg (by simp [h1])] at h ⊢
      exact prF_zero P K r (i + 1) h
    · rw [if_pos h1] at h
      exact absurd h h1

/-- What a config's numbers are. -/
structure Good (c : Cfg) : Prop where
  lab : ∀ x ∈ c.labels, x < 18446744073709551616
  fit : ∀ p ∈ c.procs, ∀ x ∈ p.code, Fit x

theorem lab_len {l : List Nat} (h : (lbL l).1 = 0) : 1 ≤ l.length ∧ l.length ≤ 8 := by
  unfold lbL at h
  split at h
  · simp at h
  · split at h
    · simp at h
    · omega

theorem mayC_iff (c : Cfg) : (mayC c).1 = 0 ↔ (lbL c.labels).1 = 0 ∧ tabE c.table c.labels.length = 0 ∧ rngE 1 256 c.fuel = 0 ∧ rngE 1 64 c.lane = 0 ∧ rngE 0 8 c.locks = 0 ∧ rngE 0 4096 c.log = 0 ∧ cntE 32 c.procs.length = 0 ∧ ∀ p ∈ c.procs, prE c.labels.length c.locks p = 0 := by
  unfold mayC
  by_cases h0 : (lbL c.labels).1 = 0
  · rw [if_neg (by simp [h0])]
    by_cases h1 : tabE c.table c.labels.length = 0
    · rw [if_neg (by simp [h1])]
      by_cases h2 : rngE 1 256 c.fuel = 0
      · rw [if_neg (by simp [h2])]
        by_cases h3 : rngE 1 64 c.lane = 0
        · rw [if_neg (by simp [h3])]
          by_cases h4 : rngE 0 8 c.locks = 0
          · rw [if_neg (by simp [h4])]
            by_cases h5 : rngE 0 4096 c.log = 0
            · rw [if_neg (by simp [h5])]
              by_cases h6 : cntE 32 c.procs.length = 0
              · rw [if_neg (by simp [h6]), prF_iff]
                simp [h0, h1, h2, h3, h4, h5, h6]
              · rw [if_pos h6]
                simp [h6]
            · rw [if_pos h5]; simp [h5]
          · rw [if_pos h4]; simp [h4]
        · rw [if_pos h3]; simp [h3]
      · rw [if_pos h2]; simp [h2]
    · rw [if_pos h1]; simp [h1]
  · rw [if_pos (by simpa using h0)]; simp [h0]

theorem mayC_zero (c : Cfg) (h : (mayC c).1 = 0) : mayC c = (0, 0) := by
  obtain ⟨h0, h1, h2, h3, h4, h5, h6, h7⟩ := (mayC_iff c).1 h
  unfold mayC
  rw [if_neg (by simp [h0]), if_neg (by simp [h1]), if_neg (by simp [h2]), if_neg (by simp [h3]), if_neg (by simp [h4]), if_neg (by simp [h5]), if_neg (by simp [h6])]
  exact prF_zero _ _ _ _ ((prF_iff _ _ _ _).2 h7)

theorem rng_ok {lo hi x : Int} (h : rngE lo hi x = 0) : lo ≤ x ∧ x ≤ hi := by
  unfold rngE at h
  split at h
  · assumption
  · simp at h

theorem cfg_iff (c : Cfg) (g : Good c) : cfgV c ↔ (mayC c).1 = 0 := by
  rw [mayC_iff]
  unfold cfgV W2 W3 W4 W5 W6 W7 W8
  rw [lab_iff c.labels g.lab]
  constructor
  · rintro ⟨_, h0, h1, h2, h3, h4, h5, h6, e⟩
    have e1 := congrArg Cfg.table e
    have e2 := congrArg Cfg.fuel e
    have e3 := congrArg Cfg.lane e
    have e4 := congrArg Cfg.locks e
    have e5 := congrArg Cfg.log e
    simp only [mkC] at e1 e2 e3 e4 e5
    have hl := lab_len h0
    have k4 := (rng_iff 0 8 c.locks 1 (by omega) (by decide)).1 ⟨h4, e4⟩
    have hK := rng_ok k4
    refine ⟨h0, (tab_iff _ _ (by omega)).1 ⟨h1, ?_⟩, (rng_iff 1 256 c.fuel 2 (by omega) (by decide)).1 ⟨h2, e2⟩, (rng_iff 1 64 c.lane 1 (by omega) (by decide)).1 ⟨h3, e3⟩, k4, (rng_iff 0 4096 c.log 2 (by omega) (by decide)).1 ⟨h5, e5⟩, h6.1.1, ?_⟩
    · intro x hx
      rw [e1, iT] at hx
      obtain ⟨y, _, rfl⟩ := List.mem_map.1 hx
      exact Int.natCast_nonneg _
    · intro p hp
      have := (vl_all _ _).1 h6.2 p hp
      rw [← e4] at this
      exact (prE_iff _ _ p (by omega) hK (g.fit p hp)).1 this
  · rintro ⟨h0, h1, h2, h3, h4, h5, h6, h7⟩
    have hl := lab_len h0
    have hK := rng_ok h4
    have k1 := (tab_iff _ _ (by omega)).2 h1
    have k2 := (rng_iff 1 256 c.fuel 2 (by omega) (by decide)).2 h2
    have k3 := (rng_iff 1 64 c.lane 1 (by omega) (by decide)).2 h3
    have k4 := (rng_iff 0 8 c.locks 1 (by omega) (by decide)).2 h4
    have k5 := (rng_iff 0 4096 c.log 2 (by omega) (by decide)).2 h5
    have k6 : c.procs.length < 2 ^ (8 * 1) := by
      unfold cntE at h6
      split at h6
      · simp at h6
      · split at h6
        · simp at h6
        · omega
    have k7 : (c.table.map Int.toNat).map (fun x : Nat => (x : Int)) = c.table := by
      rw [List.map_map]
      exact (List.map_congr_left (fun x hx => Int.toNat_of_nonneg (k1.2 x hx))).trans (List.map_id _)
    refine ⟨trivial, h0, k1.1, k2.1, k3.1, k4.1, k5.1, ⟨⟨h6, k6⟩, (vl_all _ _).2 fun p hp => ?_⟩, ?_⟩
    · rw [← k4.2]
      exact (prE_iff _ _ p (by omega) hK (g.fit p hp)).2 (h7 p hp)
    · unfold mkC iT
      rw [k7, ← k2.2, ← k3.2, ← k4.2, ← k5.2]

theorem u64_nat {x : Int} {n : Nat} (h : x = (n : Int)) (hn : n < 18446744073709551616) : u64 x = n := by
  subst h
  unfold u64
  omega

theorem enc_eq (c : Cfg) (h : (mayC c).1 = 0) : encC c = E1 c := by
  obtain ⟨h0, h1, h2, h3, h4, h5, h6, h7⟩ := (mayC_iff c).1 h
  have hl := lab_len h0
  have k1 := (tab_iff _ _ (by omega)).2 h1
  have k2 := rng_ok h2
  have k3 := rng_ok h3
  have k4 := rng_ok h4
  have k5 := rng_ok h5
  have e : ∀ x : Int, 0 ≤ x → x ≤ 4096 → u64 x = x.toNat := fun x h1 h2 => u64_nat (Int.toNat_of_nonneg h1).symm (by omega)
  have e1 : (c.table.flatMap fun x => numB 1 (u64 x)) = (iT c).flatMap (numB 1) := by
    unfold iT
    rw [List.flatMap_map]
    have hb : ∀ x ∈ c.table, 0 ≤ x ∧ x ≤ 4096 := fun x hx => by
      have hx2 := (vl_all _ _).1 k1.1.2 x.toNat (List.mem_map_of_mem hx)
      have := hx2.2
      have := k1.2 x hx
      omega
    clear h1 k1
    generalize c.table = l at hb
    induction l with
    | nil => rfl
    | cons x l ih =>
      rw [List.flatMap_cons, List.flatMap_cons, ih (fun y hy => hb y (List.mem_cons_of_mem _ hy)), e x (hb x List.mem_cons_self).1 (hb x List.mem_cons_self).2]
  unfold encC E1 E2 E3 E4 E5 E6 E7 E8
  rw [e1, e _ (by omega) (by omega), e _ (by omega) (by omega), e _ (by omega) (by omega), e _ (by omega) (by omega), List.append_nil]
  simp only [iT, List.length_map]
end Go.Proofs.YtmjokinagbpihaaDoor

/- Decode of Encode, Encode of Decode, bytes that are cut, bytes with a rest. -/
namespace Go.Proofs.YtmjokinagbpihaaDoor
open Go.RowKit

theorem vl_mem {α : Type} {V : List α → α → Prop} {Q : α → Prop} (hq : ∀ acc a, V acc a → Q a) : ∀ (l acc : List α), VL V acc l → ∀ a ∈ l, Q a
  | [], _, _, a, h => by cases h
  | b :: r, acc, h, a, ha => by
    rcases List.mem_cons.1 ha with rfl | ha
    · exact hq acc _ h.1
    · exact vl_mem hq r _ h.2 a ha

theorem cfg_good (c : Cfg) (h : cfgV c) : Good c where
  lab := vl_mem (fun _ _ h => h.2) c.labels [] h.2.1.2
  fit := fun p hp => by
    have h1 := h.2.2.2.2.2.2.2.1.2
    have h2 := (vl_all _ _).1 h1 p hp
    exact fun x hx => ((vl_all _ _).1 h2.2.2.2 x hx).2

theorem dec_ok {bs : List Nat} {c : Cfg} {q : Nat} (hb : Byte bs) (h : decC bs = .ok c q) : Good c ∧ mayC c = (0, 0) ∧ encC c = bs ∧ bs.length ≤ 1048576 := by
  unfold decC at h
  split at h
  · cases h
  · next hl =>
    unfold bind_ at h
    split at h
    · next c' q' h1 =>
      simp only at h
      split at h
      · cases h
      · next hq =>
        cases h
        obtain ⟨v, l, m, t, d⟩ := sp1.sound bs 0 _ _ hb (Nat.zero_le _) h1
        have g := cfg_good _ v
        have hm := (cfg_iff _ g).1 v
        refine ⟨g, mayC_zero _ hm, ?_, by omega⟩
        rw [enc_eq _ hm]
        rw [List.drop_zero] at d
        have ht : t.length = 0 := by
          have := congrArg List.length d
          rw [List.length_append] at this
          omega
        rw [d, List.eq_nil_of_length_eq_zero ht, List.append_nil]
    · cases h

theorem dec_place {bs : List Nat} {e a : Int} (h : decC bs = .er e a) : e ≠ 0 ∧ 0 ≤ a ∧ a ≤ bs.length := by
  unfold decC at h
  split at h
  · cases h
    omega
  · unfold bind_ at h
    split at h
    · next h1 =>
      simp only at h
      split at h
      · cases h
        omega
      · cases h
    · next h1 =>
      cases h
      exact sp1.place bs 0 _ _ (Nat.zero_le _) h1

theorem flat_len {α : Type} (e : α → List Nat) (m : Nat) : ∀ (l : List α), (∀ a ∈ l, (e a).length ≤ m) → (l.flatMap e).length ≤ l.length * m
  | [], _ => by simp
  | a :: r, h => by
    have := flat_len e m r (fun x hx => h x (List.mem_cons_of_mem _ hx))
    have h1 := h a List.mem_cons_self
    rw [List.flatMap_cons, List.length_append, List.length_cons, Nat.add_mul]
    omega

theorem tab_len {l : List Int} {P : Int} (h : tabE l P = 0) : 1 ≤ l.length ∧ l.length ≤ 64 := by
  unfold tabE at h
  split at h
  · simp at h
  · split at h
    · simp at h
    · omega
theorem cnt_len {m n : Int} (h : cntE m n = 0) : n ≠ 0 ∧ n ≤ m := by
  unfold cntE at h
  split at h
  · simp at h
  · split at h
    · simp at h
    · omega
theorem prE_len {P K : Int} {p : Pr} (h : prE P K p = 0) : p.code.length ≤ 256 := by
  unfold prE at h
  split at h
  · simp at h
  · unfold mayL at h
    split at h
    · simp at h
    · split at h
      · simp at h
      · omega

theorem enc_len (c : Cfg) (h : (mayC c).1 = 0) : (encC c).length ≤ 98542 := by
  obtain ⟨h0, h1, h2, h3, h4, h5, h6, h7⟩ := (mayC_iff c).1 h
  have l1 := lab_len h0
  have l2 := tab_len h1
  have l3 := cnt_len h6
  have f1 := flat_len (numB 8) 8 c.labels (fun x _ => by rw [numB_len]; omega)
  have f2 := flat_len (fun x => numB 1 (u64 x)) 1 c.table (fun x _ => by rw [numB_len]; omega)
  have f3 := flat_len prB 3075 c.procs (fun p hp => by
    have := prE_len (h7 p hp)
    simp only [prB, List.length_append, numB_len, encB_len]
    omega)
  simp only [encC, List.length_append, numB_len, hdB, List.length_cons, List.length_nil]
  omega

theorem cfg_read (c : Cfg) (g : Good c) (h : (mayC c).1 = 0) (t : List Nat) : cfgP (encC c ++ t) 0 = .ok c (encC c).length := by
  have := sp1.full (encC c ++ t) 0 c t ((cfg_iff c g).2 h) (Nat.zero_le _) (by rw [List.drop_zero, enc_eq c h])
  rw [this, ← enc_eq c h, Nat.zero_add]

theorem decC_enc (c : Cfg) (g : Good c) (h : (mayC c).1 = 0) : decC (encC c) = .ok c (encC c).length := by
  have hl := enc_len c h
  have := cfg_read c g h []
  rw [List.append_nil] at this
  unfold decC bind_
  rw [this, if_neg (by omega)]
  simp

theorem dec_rest (c : Cfg) (g : Good c) (h : (mayC c).1 = 0) (t : List Nat) (h0 : 0 < t.length) (ht : t.length ≤ 100) : decC (encC c ++ t) = .er 6 (encC c).length := by
  have hl := enc_len c h
  have := cfg_read c g h t
  unfold decC bind_
  rw [this, if_neg (by rw [List.length_append]; omega)]
  simp only
  rw [if_pos (by rw [List.length_append]; omega)]

theorem dec_cut (c : Cfg) (g : Good c) (h : (mayC c).1 = 0) (k : Nat) (hk : k < (encC c).length) : decC ((encC c).take k) = .er 5 k := by
  have hl := enc_len c h
  have h1 : ((encC c).take k).length = k := by rw [List.length_take]; omega
  have := sp1.cut ((encC c).take k) 0 c k ((cfg_iff c g).2 h) (Nat.zero_le _) (by rw [← enc_eq c h]; exact hk) (by rw [List.drop_zero, enc_eq c h])
  unfold decC bind_
  rw [this, if_neg (by omega)]
  simp [h1]

theorem flat_byte {α : Type} (e : α → List Nat) (he : ∀ a, ∀ y ∈ e a, y < 256) (l : List α) : ∀ y ∈ l.flatMap e, y < 256 := fun y hy => by
  obtain ⟨a, _, h⟩ := List.mem_flatMap.1 hy
  exact he a y h
theorem byte_of_mem {l : List Nat} (h : ∀ y ∈ l, y < 256) : Byte l := fun i => by
  rw [List.getD_eq_getElem?_getD]
  cases hc : l[i]? with
  | none => simp
  | some y => exact h y (List.mem_of_getElem? hc)
theorem mem_of_byte {l : List Nat} (h : Byte l) : ∀ y ∈ l, y < 256 := fun y hy => by
  obtain ⟨i, hi, rfl⟩ := List.getElem_of_mem hy
  have := h i
  rwa [List.getD_eq_getElem?_getD, List.getElem?_eq_getElem hi] at this
theorem numB_mem (k u : Nat) : ∀ y ∈ numB k u, y < 256 := mem_of_byte (numB_lt k u)
theorem enc_byte (c : Cfg) : Byte (encC c) := byte_of_mem fun y hy => by
  simp only [encC, List.mem_append] at hy
  rcases hy with h | (h | h) | (h | h) | h | h | h | h | h | h
  · simp [hdB] at h
    omega
  · exact numB_mem _ _ _ h
  · exact flat_byte _ (fun a => numB_mem 8 a) _ _ h
  · exact numB_mem _ _ _ h
  · exact flat_byte _ (fun a => numB_mem 1 _) _ _ h
  · exact numB_mem _ _ _ h
  · exact numB_mem _ _ _ h
  · exact numB_mem _ _ _ h
  · exact numB_mem _ _ _ h
  · exact numB_mem _ _ _ h
  · refine flat_byte _ (fun p y hy => ?_) _ _ h
    simp only [prB, List.mem_append] at hy
    rcases hy with h | h | h
    · exact numB_mem _ _ _ h
    · exact numB_mem _ _ _ h
    · exact flat_byte insB (fun x => mem_of_byte (insB_byte x)) _ _ h
end Go.Proofs.YtmjokinagbpihaaDoor
