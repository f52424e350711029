/- Those whose time has come, plainly. -/
import Derived.Test.YthhcecllejddeaaGreatDoorGMc
import Derived.Test.YthhcecllejddeaaGreatDoorGMh
import Derived.Test.YthhcecllejddeaaGreatDoorGWd
namespace Go.Proofs.YthhcecllejddeaaGreatDoor
def mapS (m : MS) (f : Nat → PrS → PrS) : MS := { m with pr := m.pr.mapIdx f }
theorem mapS_len (m : MS) (f : Nat → PrS → PrS) : (mapS m f).pr.length = m.pr.length := by simp [mapS]
theorem prOf_mapS {m : MS} {f : Nat → PrS → PrS} {p : Nat} (hp : p < m.pr.length) : prOf (mapS m f) p = f p (prOf m p) := by
 unfold prOf mapS
 rw [List.getD_eq_getElem?_getD, List.getD_eq_getElem?_getD, List.getElem?_mapIdx, List.getElem?_eq_getElem hp]
 rfl
theorem ms_ext {a b : MS} (h1 : a.tick = b.tick) (h2 : a.pt = b.pt) (h3 : a.pr.length = b.pr.length) (h4 : ∀ p, p < a.pr.length → prOf a p = prOf b p) : a = b := by
 obtain ⟨t, x, y⟩ := a
 obtain ⟨t', x', y'⟩ := b
 simp only at h1 h2 h3
 subst h1 h2
 have : y = y' := List.ext_getElem h3 (fun i hi hi' => by
  have := h4 i hi
  unfold prOf at this
  simp only at this
  rw [List.getD_eq_getElem?_getD, List.getD_eq_getElem?_getD, List.getElem?_eq_getElem hi, List.getElem?_eq_getElem hi'] at this
  exact this)
 rw [this]
theorem pops_mem {now : Int} {L out L' : List Wheel.Th} (h : Wheel.Pops now L out L') (hg : Wheel.GoodW L) : (∀ t, t ∈ out ↔ t ∈ L ∧ t.1 ≤ now) ∧ (∀ t, t ∈ L' ↔ t ∈ L ∧ now < t.1) ∧ (out.map (·.2)).Nodup := by
 induction h with
 | none => simp
 | late hm hl =>
  have key : ∀ t ∈ _, _ := fun t ht => hm.2 t ht
  refine ⟨fun t => ⟨fun ht => absurd ht List.not_mem_nil, fun ⟨ht, hle⟩ => ?_⟩, fun t => ⟨fun ht => ⟨ht, ?_⟩, fun h => h.1⟩, List.nodup_nil⟩
  ·have := hm.2 t ht
   unfold Wheel.ltT at this
   omega
  ·have := hm.2 t ht
   unfold Wheel.ltT at this
   omega
 | one hm hl _ ih =>
  obtain ⟨i1, i2, i3⟩ := ih (hg.clr _)
  rename_i L out L' x _
  refine ⟨fun t => ?_, fun t => ?_, ?_⟩
  ·rw [List.mem_cons, i1, Wheel.clr_mem]
   constructor
   ·rintro (rfl | ⟨⟨h1, _⟩, h2⟩)
    ·exact ⟨hm.1, hl⟩
    ·exact ⟨h1, h2⟩
   ·rintro ⟨h1, h2⟩
    by_cases e : t.2 = x.2
    ·exact .inl (hg.uniq h1 hm.1 e)
    ·exact .inr ⟨⟨h1, e⟩, h2⟩
  ·rw [i2, Wheel.clr_mem]
   constructor
   ·rintro ⟨⟨h1, _⟩, h2⟩
    exact ⟨h1, h2⟩
   ·rintro ⟨h1, h2⟩
    refine ⟨⟨h1, fun e => ?_⟩, h2⟩
    have := hg.uniq h1 hm.1 e
    rw [this] at h2
    omega
  ·rw [List.map_cons, List.nodup_cons]
   refine ⟨fun hx => ?_, i3⟩
   obtain ⟨t, ht, e⟩ := List.mem_map.1 hx
   exact (Wheel.clr_mem.1 ((i1 t).1 ht).1).2 e
def zeroP (tick : Int) (x : PrS) : PrS := { x with timer := if 0 < x.timer ∧ x.timer ≤ tick then 0 else x.timer, wake := if 0 < x.wake ∧ x.wake ≤ tick then 0 else x.wake }
def fireP (a b : Bool) (y : PrS) : PrS := { y with fired := y.fired || a, st := if b then 0 else if a ∧ y.st = 1 then 0 else y.st, core := if b then y.core.next else y.core }
def dueS (c : Cfg) (m : MS) (i : Nat) (done : List Int) : MS := mapS m fun p x => if p ∈ ofL c i then fireP (decide (2 * (p : Int) ∈ done)) (decide (2 * (p : Int) + 1 ∈ done)) (zeroP m.tick x) else x
theorem fire_none (y : PrS) : fireP false false y = y := by simp [fireP]
section
variable {c : Cfg} {m : MS} {i p : Nat}
theorem dueS_len (done : List Int) : (dueS c m i done).pr.length = m.pr.length := mapS_len _ _
theorem dueS_at (done : List Int) {q : Nat} (hq : q < m.pr.length) : prOf (dueS c m i done) q = if q ∈ ofL c i then fireP (decide (2 * (q : Int) ∈ done)) (decide (2 * (q : Int) + 1 ∈ done)) (zeroP m.tick (prOf m q)) else prOf m q := prOf_mapS hq
theorem dueS_go (done : List Int) (hp : p ∈ ofL c i) (hm : p < m.pr.length) (hn : 2 * (p : Int) + 1 ∉ done) : goOnM (dueS c m i done) p = dueS c m i (done ++ [2 * (p : Int) + 1]) := by
 refine ms_ext rfl rfl (by unfold goOnM; rw [len_modP, dueS_len, dueS_len]) (fun q hq => ?_)
 unfold goOnM at hq ⊢
 rw [len_modP, dueS_len] at hq
 rw [prOf_modP (by rw [dueS_len]; exact hm)]
 by_cases e : q = p
 ·subst e
  rw [if_pos rfl, dueS_at _ hq, dueS_at _ hq, if_pos hp, if_pos hp]
  rw [decide_eq_false hn, decide_eq_true (show 2 * (q : Int) + 1 ∈ done ++ [2 * (q : Int) + 1] by simp)]
  have : decide (2 * (q : Int) ∈ done ++ [2 * (q : Int) + 1]) = decide (2 * (q : Int) ∈ done) := by
   rw [decide_eq_decide, List.mem_append, List.mem_singleton]
   constructor
   ·rintro (h | h)
    ·exact h
    ·omega
   ·exact fun h => .inl h
  rw [this]
  simp [fireP]
 ·rw [if_neg e, dueS_at _ hq, dueS_at _ hq]
  have h1 : decide (2 * (q : Int) ∈ done ++ [2 * (p : Int) + 1]) = decide (2 * (q : Int) ∈ done) := by
   rw [decide_eq_decide, List.mem_append, List.mem_singleton]
   constructor
   ·rintro (h | h)
    ·exact h
    ·omega
   ·exact fun h => .inl h
  have h2 : decide (2 * (q : Int) + 1 ∈ done ++ [2 * (p : Int) + 1]) = decide (2 * (q : Int) + 1 ∈ done) := by
   rw [decide_eq_decide, List.mem_append, List.mem_singleton]
   constructor
   ·rintro (h | h)
    ·exact h
    ·omega
   ·exact fun h => .inl h
  rw [h1, h2]
theorem dueS_fire (done : List Int) (hp : p ∈ ofL c i) (hm : p < m.pr.length) (hn : 2 * (p : Int) ∉ done) : rouseM ((dueS c m i done).modP p fun x => { x with fired := true }) p = dueS c m i (done ++ [2 * (p : Int)]) := by
 have hl : p < (dueS c m i done).pr.length := by rw [dueS_len]; exact hm
 unfold rouseM
 rw [modP_modP hl]
 refine ms_ext rfl rfl (by rw [len_modP, dueS_len, dueS_len]) (fun q hq => ?_)
 rw [len_modP, dueS_len] at hq
 rw [prOf_modP hl]
 by_cases e : q = p
 ·subst e
  rw [if_pos rfl, dueS_at _ hq, dueS_at _ hq, if_pos hp, if_pos hp]
  rw [decide_eq_false hn, decide_eq_true (show 2 * (q : Int) ∈ done ++ [2 * (q : Int)] by simp)]
  have : decide (2 * (q : Int) + 1 ∈ done ++ [2 * (q : Int)]) = decide (2 * (q : Int) + 1 ∈ done) := by
   rw [decide_eq_decide, List.mem_append, List.mem_singleton]
   constructor
   ·rintro (h | h)
    ·exact h
    ·omega
   ·exact fun h => .inl h
  rw [this]
  cases decide (2 * (q : Int) + 1 ∈ done) <;> simp [fireP]
 ·rw [if_neg e, dueS_at _ hq, dueS_at _ hq]
  have h1 : decide (2 * (q : Int) ∈ done ++ [2 * (p : Int)]) = decide (2 * (q : Int) ∈ done) := by
   rw [decide_eq_decide, List.mem_append, List.mem_singleton]
   constructor
   ·rintro (h | h)
    ·exact h
    ·omega
   ·exact fun h => .inl h
  have h2 : decide (2 * (q : Int) + 1 ∈ done ++ [2 * (p : Int)]) = decide (2 * (q : Int) + 1 ∈ done) := by
   rw [decide_eq_decide, List.mem_append, List.mem_singleton]
   constructor
   ·rintro (h | h)
    ·exact h
    ·omega
   ·exact fun h => .inl h
  rw [h1, h2]
theorem wake_at : ∀ (l : List Nat) {m : MS} {p : Nat}, l.Nodup → (∀ q ∈ l, q < m.pr.length) → (wakeM m l).tick = m.tick ∧ (wakeM m l).pt = m.pt ∧ (wakeM m l).pr.length = m.pr.length ∧ (p < m.pr.length → prOf (wakeM m l) p = if p ∈ l then dueP m.tick (prOf m p) else prOf m p)
 | [], m, p, _, _ => ⟨rfl, rfl, rfl, fun _ => by simp [wakeM]⟩
 | q :: r, m, p, hd, hl => by
  obtain ⟨h1, h2⟩ := List.nodup_cons.1 hd
  have hq := hl q List.mem_cons_self
  obtain ⟨i1, i2, i3, i4⟩ := wake_at r (m := m.modP q (dueP m.tick)) (p := p) h2 (fun x hx => by rw [len_modP]; exact hl x (List.mem_cons_of_mem _ hx))
  have e : wakeM m (q :: r) = wakeM (m.modP q (dueP m.tick)) r := rfl
  rw [e]
  refine ⟨i1, i2, by rw [i3, len_modP], fun hp => ?_⟩
  rw [i4 (by rw [len_modP]; exact hp), tick_modP, prOf_modP hq]
  by_cases e1 : p = q
  ·subst e1
   rw [if_neg h1, if_pos rfl, if_pos List.mem_cons_self]
  ·rw [if_neg e1]
   by_cases e2 : p ∈ r
   ·rw [if_pos e2, if_pos (List.mem_cons_of_mem _ e2)]
   ·rw [if_neg e2, if_neg (fun h => by rcases List.mem_cons.1 h with h | h; exact e1 h; exact e2 h)]
theorem fire_due (tick : Int) (x : PrS) : fireP (decide (0 < x.timer ∧ x.timer ≤ tick)) (decide (0 < x.wake ∧ x.wake ≤ tick)) (zeroP tick x) = dueP tick x := by
 unfold fireP zeroP dueP
 by_cases h1 : 0 < x.timer ∧ x.timer ≤ tick
 ·by_cases h2 : 0 < x.wake ∧ x.wake ≤ tick
  ·simp [h1, h2]
  ·simp [h1, h2]
 ·by_cases h2 : 0 < x.wake ∧ x.wake ≤ tick
  ·simp [h1, h2]
  ·simp [h1, h2]
theorem ofL_nodup (c : Cfg) (i : Nat) : (ofL c i).Nodup := List.nodup_range.filter _
theorem dueS_all (hnq : m.pr.length = c.procs.length) {L out L' : List Wheel.Th} (hL : WOk c m i L) (hg : Wheel.GoodW L) (hP : Wheel.Pops m.tick L out L') : dueS c m i (out.map (·.2)) = wakeM m (ofL c i) := by
 obtain ⟨p1, p2, p3⟩ := pops_mem hP hg
 have hall : ∀ q ∈ ofL c i, q < m.pr.length := fun q hq => by rw [hnq]; exact (mem_ofL.1 hq).1
 obtain ⟨a1, a2, a3, _⟩ := wake_at (ofL c i) (p := 0) (ofL_nodup c i) hall
 refine ms_ext a1.symm a2.symm (by rw [dueS_len, a3]) (fun q hq => ?_)
 rw [dueS_len] at hq
 rw [dueS_at _ hq, (wake_at (ofL c i) (p := q) (ofL_nodup c i) hall).2.2.2 hq]
 by_cases e : q ∈ ofL c i
 ·rw [if_pos e, if_pos e, ← fire_due]
  congr 1
  ·rw [decide_eq_decide]
   constructor
   ·intro h
    obtain ⟨t, ht, e2⟩ := List.mem_map.1 h
    obtain ⟨ht1, ht2⟩ := (p1 t).1 ht
    obtain ⟨r, hr, ⟨rfl, h3⟩ | ⟨rfl, h3⟩⟩ := (hL t).1 ht1
    ·have : r = q := by simp only at e2; omega
     subst this
     exact ⟨h3, ht2⟩
    ·simp only at e2; omega
   ·rintro ⟨h1, h2⟩
    exact List.mem_map.2 ⟨((prOf m q).timer, 2 * (q : Int)), (p1 _).2 ⟨(hL _).2 ⟨q, e, .inl ⟨rfl, h1⟩⟩, h2⟩, rfl⟩
  ·rw [decide_eq_decide]
   constructor
   ·intro h
    obtain ⟨t, ht, e2⟩ := List.mem_map.1 h
    obtain ⟨ht1, ht2⟩ := (p1 t).1 ht
    obtain ⟨r, hr, ⟨rfl, h3⟩ | ⟨rfl, h3⟩⟩ := (hL t).1 ht1
    ·simp only at e2; omega
    ·have : r = q := by simp only at e2; omega
     subst this
     exact ⟨h3, ht2⟩
   ·rintro ⟨h1, h2⟩
    exact List.mem_map.2 ⟨((prOf m q).wake, 2 * (q : Int) + 1), (p1 _).2 ⟨(hL _).2 ⟨q, e, .inr ⟨rfl, h1⟩⟩, h2⟩, rfl⟩
 ·rw [if_neg e, if_neg e]
theorem dueS_wok (hnq : m.pr.length = c.procs.length) {L out L' : List Wheel.Th} (hL : WOk c m i L) (hg : Wheel.GoodW L) (hP : Wheel.Pops m.tick L out L') (done : List Int) : WOk c (dueS c m i done) i L' := fun t => by
 obtain ⟨p1, p2, p3⟩ := pops_mem hP hg
 rw [p2, hL t]
 constructor
 ·rintro ⟨⟨q, hq, h⟩, hlt⟩
  refine ⟨q, hq, ?_⟩
  rw [dueS_at _ (by rw [hnq]; exact (mem_ofL.1 hq).1), if_pos hq]
  unfold fireP zeroP
  rcases h with ⟨rfl, h⟩ | ⟨rfl, h⟩
  ·left
   simp only at hlt ⊢
   rw [if_neg (by omega)]
   exact ⟨rfl, h⟩
  ·right
   simp only at hlt ⊢
   rw [if_neg (by omega)]
   exact ⟨rfl, h⟩
 ·rintro ⟨q, hq, h⟩
  rw [dueS_at _ (by rw [hnq]; exact (mem_ofL.1 hq).1), if_pos hq] at h
  unfold fireP zeroP at h
  simp only at h
  rcases h with ⟨rfl, h⟩ | ⟨rfl, h⟩
  ·split at h
   ·exact absurd h (Int.lt_irrefl 0)
   ·next hn =>
    rw [if_neg hn]
    exact ⟨⟨q, hq, .inl ⟨rfl, h⟩⟩, by simp only; omega⟩
  ·split at h
   ·exact absurd h (Int.lt_irrefl 0)
   ·next hn =>
    rw [if_neg hn]
    exact ⟨⟨q, hq, .inr ⟨rfl, h⟩⟩, by simp only; omega⟩
theorem dueS_agr (hnq : m.pr.length = c.procs.length) {y : Ix} (hy : y ≠ .whl i) : Agr c m (dueS c m i []) y := by
 have out : ∀ q, ¬ q < m.pr.length → prOf (dueS c m i []) q = prOf m q := fun q hq => by
  unfold prOf
  rw [List.getD_eq_getElem?_getD, List.getD_eq_getElem?_getD, List.getElem?_eq_none (by rw [dueS_len]; omega), List.getElem?_eq_none (by omega)]
 have at0 : ∀ q, q < m.pr.length → prOf (dueS c m i []) q = if q ∈ ofL c i then zeroP m.tick (prOf m q) else prOf m q := fun q hq => by
  rw [dueS_at _ hq]
  simp only [List.not_mem_nil, decide_false, fire_none]
 cases y with
 | whl j =>
  intro q hq
  have hqn : q < m.pr.length := by rw [hnq]; exact (mem_ofL.1 hq).1
  have : q ∉ ofL c i := fun h => hy (by rw [← pa_of h, pa_of hq])
  rw [at0 q hqn, if_neg this]
  exact ⟨rfl, rfl⟩
 | proc q =>
  simp only [Agr]
  by_cases hqn : q < m.pr.length
  ·rw [at0 q hqn]
   split <;> exact ⟨rfl, rfl, rfl⟩
  ·rw [out q hqn]
   exact ⟨rfl, rfl, rfl⟩
 | pst q =>
  simp only [Agr]
  by_cases hqn : q < m.pr.length
  ·rw [at0 q hqn]
   split <;> exact ⟨rfl, rfl⟩
  ·rw [out q hqn]
   exact ⟨rfl, rfl⟩
 | head => rfl
 | tbl => trivial
 | slt => trivial
 | part j => exact ⟨rfl, rfl, rfl, rfl⟩
 | lck j => exact ⟨rfl, rfl⟩
theorem Shp.dueS (h : Shp c m) (done : List Int) : Shp c (dueS c m i done) := by
 have key : ∀ (P : PrS → Prop), (∀ x a b, P x → P (fireP a b (zeroP m.tick x))) → (∀ q, q < c.procs.length → P (prOf m q)) → ∀ q, q < c.procs.length → P (prOf (Go.Proofs.YthhcecllejddeaaGreatDoor.dueS c m i done) q) := fun P h1 h2 q hq => by
  rw [dueS_at _ (by rw [h.nq]; exact hq)]
  split
  ·exact h1 _ _ _ (h2 q hq)
  ·exact h2 q hq
 refine ⟨h.np, by rw [dueS_len]; exact h.nq, h.t0, h.lk, h.own, h.que, h.cur, h.log, h.cnt, key (fun x => Lane.GoodP x.ss x.lc ∧ x.ss.length = c.labels.length + 1) (fun x a b hx => hx) h.ln,
  key (fun x => ∀ s ∈ x.ss, (s.room : Int) = c.lane) (fun x a b hx => hx) h.room, key (fun x => ∀ s ∈ x.ss, ∀ y ∈ s.ws, isNo c y.1) (fun x a b hx => hx) h.wai,
  key (fun x => (0 ≤ x.timer ∧ x.timer ≤ m.tick + 1099511627776) ∧ 0 ≤ x.wake ∧ x.wake ≤ m.tick + 1099511627776) (fun x a b hx => ?_) h.tim⟩
 have h0 := h.t0
 unfold fireP zeroP
 simp only
 split <;> split <;> omega
end
end Go.Proofs.YthhcecllejddeaaGreatDoor

namespace Go.Proofs.YthhcecllejddeaaGreatDoor
open Go.RowKit
structure BesideI (w : World) (l : Lay) (U : Nat → Prop) (m : MS) (a : Option Addr) (n c : Nat) (ids : List Int) : Prop where
 ma : Mk w l U m
 row : Row w 3 1 a n c (Wheel.iC ids)
 ap : ∀ k, blk a = some k → ¬ U k
theorem BesideI.step {w w' : World} {l : Lay} {U U' : Nat → Prop} {m m' : MS} {a : Option Addr} {n c : Nat} {ids : List Int} (h : BesideI w l U m a n c ids) (t : To w U w' U') (hk : Mk w' l U' m') : BesideI w' l U' m' a n c ids :=
 ⟨hk, h.row.mod t.1 h.ap, fun k hk hu => by
  rcases t.2 k hu with h1 | h1
  ·exact h.ap k hk h1
  ·have := h.row.lt k hk
   omega⟩
section
variable {w w' : World} {l : Lay} {m : MS} {U : Nat → Prop} {p q i j : Nat}
set_option maxRecDepth 100000 in
set_option maxHeartbeats 4000000 in
theorem wake_m (h : Mk w l U m) (hs : Shp l.c m) (hc : CfgOk l.c) (hi : i < l.c.labels.length) : Calls Tryz.prog 108 #[.pointer (some ⟨l.bm, 0, none⟩), .pointer (some ⟨l.bp i, 0, none⟩)] w fun e w' => e = .returned (.tuple #[]) ∧ MkOut w l U (wakeM m (ofL l.c i)) w' := by
 have m9 := h.maC.2.2.2.2.1
 have n7 := (h.paC hi).2.2.2.2.2.2.1
 obtain ⟨F, L, hW, hL, hFU, hgo⟩ := h.drew.whl hi
 have hl := wok_len hL hW.good hc
 have hpop := Wheel.wpop_any hW m.tick (by omega)
 have HN : Hid (∀ (e : Ending) (w2 : World), (∃ out L' a c, e = .returned (.slice a out.length c) ∧ Wheel.Pops m.tick L out L' ∧ Wheel.PopTo w.drew (l.bw i) F m.tick L w2 out L' a c) →
   ∃ ids a c, e = .returned (.slice a ids.length c) ∧ ids.length ≤ 64 ∧ Hid ((∃ U2, To w U w2 U2 ∧ BesideI w2 l U2 (dueS l.c m i []) a ids.length c ids) ∧ dueS l.c m i ids = wakeM m (ofL l.c i) ∧ ids.Nodup ∧ ∀ x ∈ ids, ∃ p : Nat, p ∈ ofL l.c i ∧ (x = 2 * (p : Int) ∨ x = 2 * (p : Int) + 1))) := hd (fun e w2 he => by
  obtain ⟨out, L', a, c, rfl, hP, hT⟩ := he
  obtain ⟨p1, p2, p3⟩ := pops_mem hP hW.good
  obtain ⟨F', q1, q2, q3⟩ := hT.wh
  have hln : out.length ≤ 64 := by
   have h1 := nodup_le (2 * l.c.procs.length) (out.map (·.2)) p3 (fun x hx => by
    obtain ⟨t, ht, rfl⟩ := List.mem_map.1 hx
    obtain ⟨p, hp, ⟨rfl, _⟩ | ⟨rfl, _⟩⟩ := (hL t).1 ((p1 t).1 ht).1
    ·have := (mem_ofL.1 hp).1
     simp only
     omega
    ·have := (mem_ofL.1 hp).1
     simp only
     omega)
   have := hc.p32
   simp at h1
   omega
  refine ⟨out.map (·.2), a, c, by rw [List.length_map], by rw [List.length_map]; exact hln, hd ⟨?_, dueS_all hs.nq hL hW.good hP, p3, fun x hx => ?_⟩⟩
  ·have h2 := MkOutR.of (A := fun k => blk a = some k) h.drew hFU q2 (fun k hk => ⟨hT.new k hk, q3 k hk⟩) (hgo w2 (dueS l.c m i []) F' L' hT.mod q1 (dueS_wok hs.nq hL hW.good hP []) q2 (fun y hy => dueS_agr hs.nq hy))
   obtain ⟨r1, U2, r2, r3, r4⟩ := h2
   exact ⟨U2, (to_drew (To.refl w U)).trans ⟨r1, r3⟩, ⟨r2, by rw [List.length_map]; exact hT.row, r4⟩⟩
  ·obtain ⟨t, ht, rfl⟩ := List.mem_map.1 hx
   obtain ⟨p, hp, ⟨rfl, _⟩ | ⟨rfl, _⟩⟩ := (hL t).1 ((p1 t).1 ht).1
   ·exact ⟨p, hp, .inl rfl⟩
   ·exact ⟨p, hp, .inr rfl⟩)
 have HS := hd hs
 have HC := hd hc
 obtain ⟨M, hM⟩ : ∃ M, Hid (wakeM m (ofL l.c i) = M) := ⟨_, rfl⟩
 rw [hM.out] at HN ⊢
 obtain ⟨T, hT⟩ : ∃ T, Hid (m.tick = T) := ⟨_, rfl⟩
 rw [hT.out] at m9 hpop HN
 clear h hs hc hi hW hL hFU hgo hl hM hT
 go_enter Tryz.func108, Tryz.ntmps108
 go_upto_region 0 with fail
 go_cut [15, 16, 17] (fun v15 v16 v17 wy => ∃ ids a c, v15 = .slice a ids.length c ∧ v16 = .int .i64 (ids.length : Int) ∧ v17 = .int .i64 0 ∧ ids.length ≤ 64 ∧ Hid ((∃ U2, To w U wy U2 ∧ BesideI wy l U2 (dueS l.c m i []) a ids.length c ids) ∧ dueS l.c m i ids = M ∧ ids.Nodup ∧ ∀ x ∈ ids, ∃ p : Nat, p ∈ ofL l.c i ∧ (x = 2 * (p : Int) ∨ x = 2 * (p : Int) + 1)))
 case first =>
  go_region_law (first | (go_simp; (with_reducible refine hpop.mono ?_); rintro e w2 he; obtain ⟨ids, a, cc, rfl, hl, HX⟩ := HN.out e w2 he; clear he))
  all_goals (
   go_wp2_with fail
   go_meet
   case rel => exact ⟨ids, a, cc, rfl, rfl, rfl, hl, HX⟩)
 case rest =>
  obtain ⟨ids, a, cc, rfl, rfl, rfl, hl, HX⟩ := hcut
  clear hpop HN m9 n7
  obtain ⟨N, hN⟩ : ∃ N, Hid (ids.length = N) := ⟨_, rfl⟩
  obtain ⟨HX0, HXE, HXN, HXI⟩ := HX.out
  replace HXE := hd HXE
  replace HXN := hd HXN
  replace HXI := hd HXI
  rw [hN.out] at hl HX0 ⊢
  have HB0 : Hid (∃ U2, To w U wc U2 ∧ BesideI wc l U2 (dueS l.c m i (ids.take 0)) a N cc ids) := hd HX0
  clear HX HX0
  go_wp2_with fail
  go_loopg [17] N (fun k v17 wr => ∃ j : Nat, v17 = .int .i64 (j : Int) ∧ j + k = N ∧ Hid (∃ U2, To w U wr U2 ∧ BesideI wr l U2 (dueS l.c m i (ids.take j)) a N cc ids))
  case atStart => exact ⟨0, rfl, by omega, HB0⟩
  case round =>
   obtain ⟨j, rfl, hik, HH⟩ := hrel
   clear HB0
   by_cases hlt : j < N
   ·have hlt' : (j : Int) < (N : Int) := by omega
    have hil : j < ids.length := by rw [hN.out]; exact hlt
    obtain ⟨U2, t2, k2⟩ := HH.out
    obtain ⟨g, rfl, d0⟩ := k2.row.cell j (by omega)
    obtain ⟨x, hx⟩ : ∃ x, Hid (ids.getD j 0 = x) := ⟨_, rfl⟩
    rw [show (Wheel.iC ids)[j]? = some (.int .i64 x) by rw [← hx.out]; simp [Wheel.iC, List.getD_eq_getElem?_getD, List.getElem?_eq_getElem hil]] at d0
    obtain ⟨p, hpm, hxp⟩ := HXI.out x (by rw [← hx.out]; exact getD_mem hil)
    have hpn := (mem_ofL.1 hpm).1
    have hp32 := HC.out.p32
    have hpn' : (p : Int) < (l.c.procs.length : Int) := by omega
    have hpl : p < m.pr.length := by rw [HS.out.nq]; exact hpn
    have hnot : x ∉ ids.take j := fun hmem => by
     have h2 := HXN.out
     rw [← List.take_append_drop j ids, List.drop_eq_getElem_cons hil, List.nodup_append] at h2
     refine h2.2.2 x hmem x ?_ rfl
     rw [← hx.out, List.getD_eq_getElem?_getD, List.getElem?_eq_getElem hil]
     exact List.mem_cons_self
    have hdiv : x.tdiv 2 = (p : Int) := by
     rcases hxp with e | e
     ·rw [Int.tdiv_eq_ediv_of_nonneg (by omega)]; omega
     ·rw [Int.tdiv_eq_ediv_of_nonneg (by omega)]; omega
    have hx0 : 0 ≤ x ∧ x ≤ 1000 := by rcases hxp with e | e <;> omega
    have m11 := k2.ma.maC.2.2.2.2.2.2.1
    obtain ⟨gp, ag, cg⟩ := k2.ma.procPtr hpn
    rw [ag] at m11
    have HSj : Hid (Shp l.c (dueS l.c m i (ids.take j))) := hd (HS.out.dueS _)
    have hsn := snum_any k2.ma HC.out hpn
    have hts := take_snoc ids j 0 hil
    rw [hx.out] at hts
    by_cases e : x = 2 * (p : Int) + 1
    ·have hgo := goOn_any k2.ma HSj.out hpn
     have hst : goOnM (dueS l.c m i (ids.take j)) p = dueS l.c m i (ids.take (j + 1)) := by rw [hts, e]; exact dueS_go _ hpm hpl (by rw [← e]; exact hnot)
     rw [hst] at hgo
     have HNX : Hid (∀ w3, MkOut wr l U2 (dueS l.c m i (ids.take (j + 1))) w3 → ∃ U3, To w U w3 U3 ∧ BesideI w3 l U3 (dueS l.c m i (ids.take (j + 1))) (some ⟨g, 0, none⟩) N cc ids) := hd (fun w3 ho => by
      obtain ⟨U3, t3, k3⟩ := ho.get
      exact ⟨U3, t2.trans t3, k2.step t3 k3⟩)
     have e' : (x == 2 * (p : Int) + 1) = true := by simpa using e
     clear t2 k2 HH HSj hst hts hnot hxp hpl hpm HXE hx hil e
     go_wp2_with (first
      | (go_at_call 88; refine hsn.mono ?_; rintro e w1 ⟨rfl, rfl⟩; clear hsn)
      | (go_at_call 138; refine hgo.mono ?_; rintro e w3 ⟨rfl, ho⟩; clear hgo))
     go_roundg (gk - 1)
     case rel => exact ⟨j + 1, by go_num, by omega, hd (HNX.out w3 ho)⟩
     case measure => omega
    ·have e2 : x = 2 * (p : Int) := by rcases hxp with h | h; exact h; exact absurd h e
     have x13 := (k2.ma.prC hpn).c13
     have xf := (k2.ma.prC hpn).fr
     obtain ⟨U3, t3, k3⟩ := (k2.ma.setFired HSj.out hpn true).get
     have k4 := k2.step t3 k3
     have hgo := rouse_any k3 (HSj.out.modS (f := fun x => { x with fired := true }) hpn (fun _ => rfl) (fun _ => rfl) (fun _ => rfl) (fun _ => rfl)) hpn
     have hst : rouseM ((dueS l.c m i (ids.take j)).modP p fun x => { x with fired := true }) p = dueS l.c m i (ids.take (j + 1)) := by rw [hts, e2]; exact dueS_fire _ hpm hpl (by rw [← e2]; exact hnot)
     rw [hst] at hgo
     have HNX : Hid (∀ w3, MkOut (wr.setCell ⟨l.bq p, 13, none⟩ (.bool true)) l U3 (dueS l.c m i (ids.take (j + 1))) w3 → ∃ U3, To w U w3 U3 ∧ BesideI w3 l U3 (dueS l.c m i (ids.take (j + 1))) (some ⟨g, 0, none⟩) N cc ids) := hd (fun w3 ho => by
      obtain ⟨U4, t4, k5⟩ := ho.get
      exact ⟨U4, (t2.trans t3).trans t4, k4.step t4 k5⟩)
     have e' : (x == 2 * (p : Int) + 1) = false := by simpa using e
     clear t2 k2 k4 k3 t3 HH HSj hst hts hnot hxp hpl hpm HXE hx hil e e2
     go_wp2_with (first
      | (go_at_call 88; refine hsn.mono ?_; rintro e w1 ⟨rfl, rfl⟩; clear hsn)
      | (go_at_call 139; refine hgo.mono ?_; rintro e w3 ⟨rfl, ho⟩; clear hgo))
     go_roundg (gk - 1)
     case rel => exact ⟨j + 1, by go_num, by omega, hd (HNX.out w3 ho)⟩
     case measure => omega
   ·have hin : j = N := by omega
    subst hin
    obtain ⟨U2, t2, k2⟩ := HH.out
    have k2 := k2.ma
    rw [List.take_of_length_le (by have := hN.out; omega), HXE.out] at k2
    have HO := hd (t2.mk k2)
    clear t2 k2 HH hik hlt hN HXE HXN HXI
    go_wp2_with fail
    go_end0
    exact ⟨rfl, HO.out⟩
end
end Go.Proofs.YthhcecllejddeaaGreatDoor
