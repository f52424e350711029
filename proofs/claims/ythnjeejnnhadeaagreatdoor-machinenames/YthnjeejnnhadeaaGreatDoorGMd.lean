/- Timers of a machine. -/
import Derived.Test.YthnjeejnnhadeaaGreatDoorGMc
import Derived.Test.YthnjeejnnhadeaaGreatDoorGWd
namespace Go.Proofs.YthnjeejnnhadeaaGreatDoor
open Go.RowKit
theorem ids_le : ∀ (L : List Wheel.Th), L.Pairwise (fun a b => a.2 ≠ b.2) → (L.map (·.2)).Nodup := fun _ h => List.pairwise_map.2 h
theorem wok_len {c : Cfg} {m : MS} {i : Nat} {L : List Wheel.Th} (h : WOk c m i L) (hg : Wheel.GoodW L) (hc : CfgOk c) : L.length ≤ 64 := by
 have h1 := nodup_le (2 * c.procs.length) (L.map (·.2)) (ids_le L hg.nod) (fun x hx => by
  obtain ⟨t, ht, rfl⟩ := List.mem_map.1 hx
  obtain ⟨p, hp, ⟨rfl, _⟩ | ⟨rfl, _⟩⟩ := (h t).1 ht
  ·have := (mem_ofL.1 hp).1
   simp only
   omega
  ·have := (mem_ofL.1 hp).1
   simp only
   omega)
 have := hc.p32
 simp at h1
 omega
theorem mem_setA {id due : Int} {L : List Wheel.Th} {t : Wheel.Th} : t ∈ Wheel.setA id due L ↔ (t ∈ L ∧ t.2 ≠ id) ∨ t = (due, id) := by
 unfold Wheel.setA
 rw [List.mem_append, Wheel.clr_mem, List.mem_singleton]
section
variable {c : Cfg} {m : MS} {i p : Nat} {L : List Wheel.Th}
theorem wok_timer (h : WOk c m i L) (hp : p ∈ ofL c i) (hm : p < m.pr.length) {due : Int} (hd : 0 < due) : WOk c (m.modP p fun x => { x with timer := due }) i (Wheel.setA (2 * (p : Int)) due L) := fun t => by
 rw [mem_setA]
 constructor
 ·rintro (⟨h1, h2⟩ | rfl)
  ·obtain ⟨q, hq, ⟨rfl, h3⟩ | ⟨rfl, h3⟩⟩ := (h t).1 h1
   ·have hqp : q ≠ p := fun e => h2 (by simp only; omega)
    exact ⟨q, hq, .inl (by rw [prOf_other hqp]; exact ⟨rfl, h3⟩)⟩
   ·refine ⟨q, hq, .inr ?_⟩
    rw [prOf_modP hm]
    split
    ·next e => subst e; exact ⟨rfl, h3⟩
    ·exact ⟨rfl, h3⟩
  ·exact ⟨p, hp, .inl (by rw [prOf_same hm]; exact ⟨rfl, hd⟩)⟩
 ·rintro ⟨q, hq, ⟨rfl, h3⟩ | ⟨rfl, h3⟩⟩
  ·by_cases e : q = p
   ·subst e
    rw [prOf_same hm]
    exact .inr rfl
   ·rw [prOf_other e] at h3 ⊢
    exact .inl ⟨(h _).2 ⟨q, hq, .inl ⟨rfl, h3⟩⟩, by simp only; omega⟩
  ·refine .inl ⟨(h _).2 ⟨q, hq, .inr ?_⟩, by simp only; omega⟩
   rw [prOf_modP hm] at h3 ⊢
   by_cases e : q = p
   ·rw [if_pos e] at h3 ⊢
    subst e
    exact ⟨rfl, h3⟩
   ·rw [if_neg e] at h3 ⊢
    exact ⟨rfl, h3⟩
theorem wok_wake (h : WOk c m i L) (hp : p ∈ ofL c i) (hm : p < m.pr.length) {due : Int} (hd : 0 < due) : WOk c (m.modP p fun x => { x with wake := due }) i (Wheel.setA (2 * (p : Int) + 1) due L) := fun t => by
 rw [mem_setA]
 constructor
 ·rintro (⟨h1, h2⟩ | rfl)
  ·obtain ⟨q, hq, ⟨rfl, h3⟩ | ⟨rfl, h3⟩⟩ := (h t).1 h1
   ·refine ⟨q, hq, .inl ?_⟩
    rw [prOf_modP hm]
    split
    ·next e => subst e; exact ⟨rfl, h3⟩
    ·exact ⟨rfl, h3⟩
   ·have hqp : q ≠ p := fun e => h2 (by simp only; omega)
    exact ⟨q, hq, .inr (by rw [prOf_other hqp]; exact ⟨rfl, h3⟩)⟩
  ·exact ⟨p, hp, .inr (by rw [prOf_same hm]; exact ⟨rfl, hd⟩)⟩
 ·rintro ⟨q, hq, ⟨rfl, h3⟩ | ⟨rfl, h3⟩⟩
  ·refine .inl ⟨(h _).2 ⟨q, hq, .inl ?_⟩, by simp only; omega⟩
   rw [prOf_modP hm] at h3 ⊢
   by_cases e : q = p
   ·rw [if_pos e] at h3 ⊢
    subst e
    exact ⟨rfl, h3⟩
   ·rw [if_neg e] at h3 ⊢
    exact ⟨rfl, h3⟩
  ·by_cases e : q = p
   ·subst e
    rw [prOf_same hm]
    exact .inr rfl
   ·rw [prOf_other e] at h3 ⊢
    exact .inl ⟨(h _).2 ⟨q, hq, .inr ⟨rfl, h3⟩⟩, by simp only; omega⟩
theorem wok_noTimer (h : WOk c m i L) (hm : p < m.pr.length) : WOk c (m.modP p fun x => { x with timer := 0 }) i (Wheel.clr (2 * (p : Int)) L) := fun t => by
 rw [Wheel.clr_mem]
 constructor
 ·rintro ⟨h1, h2⟩
  obtain ⟨q, hq, ⟨rfl, h3⟩ | ⟨rfl, h3⟩⟩ := (h t).1 h1
  ·have hqp : q ≠ p := fun e => h2 (by simp only; omega)
   exact ⟨q, hq, .inl (by rw [prOf_other hqp]; exact ⟨rfl, h3⟩)⟩
  ·refine ⟨q, hq, .inr ?_⟩
   rw [prOf_modP hm]
   split
   ·next e => subst e; exact ⟨rfl, h3⟩
   ·exact ⟨rfl, h3⟩
 ·rintro ⟨q, hq, ⟨rfl, h3⟩ | ⟨rfl, h3⟩⟩
  ·by_cases e : q = p
   ·subst e
    rw [prOf_same hm] at h3
    exact absurd h3 (Int.lt_irrefl 0)
   ·rw [prOf_other e] at h3 ⊢
    exact ⟨(h _).2 ⟨q, hq, .inl ⟨rfl, h3⟩⟩, by simp only; omega⟩
  ·refine ⟨(h _).2 ⟨q, hq, .inr ?_⟩, by simp only; omega⟩
   rw [prOf_modP hm] at h3 ⊢
   by_cases e : q = p
   ·rw [if_pos e] at h3 ⊢
    subst e
    exact ⟨rfl, h3⟩
   ·rw [if_neg e] at h3 ⊢
    exact ⟨rfl, h3⟩
theorem wok_noWake (h : WOk c m i L) (hm : p < m.pr.length) : WOk c (m.modP p fun x => { x with wake := 0 }) i (Wheel.clr (2 * (p : Int) + 1) L) := fun t => by
 rw [Wheel.clr_mem]
 constructor
 ·rintro ⟨h1, h2⟩
  obtain ⟨q, hq, ⟨rfl, h3⟩ | ⟨rfl, h3⟩⟩ := (h t).1 h1
  ·refine ⟨q, hq, .inl ?_⟩
   rw [prOf_modP hm]
   split
   ·next e => subst e; exact ⟨rfl, h3⟩
   ·exact ⟨rfl, h3⟩
  ·have hqp : q ≠ p := fun e => h2 (by simp only; omega)
   exact ⟨q, hq, .inr (by rw [prOf_other hqp]; exact ⟨rfl, h3⟩)⟩
 ·rintro ⟨q, hq, ⟨rfl, h3⟩ | ⟨rfl, h3⟩⟩
  ·refine ⟨(h _).2 ⟨q, hq, .inl ?_⟩, by simp only; omega⟩
   rw [prOf_modP hm] at h3 ⊢
   by_cases e : q = p
   ·rw [if_pos e] at h3 ⊢
    subst e
    exact ⟨rfl, h3⟩
   ·rw [if_neg e] at h3 ⊢
    exact ⟨rfl, h3⟩
  ·by_cases e : q = p
   ·subst e
    rw [prOf_same hm] at h3
    exact absurd h3 (Int.lt_irrefl 0)
   ·rw [prOf_other e] at h3 ⊢
    exact ⟨(h _).2 ⟨q, hq, .inr ⟨rfl, h3⟩⟩, by simp only; omega⟩
end
section
variable {w w' : World} {l : Lay} {m : MS} {U : Nat → Prop} {p q i j : Nat}
theorem tnum_any (h : Mk w l U m) (hc : CfgOk l.c) (hp : p < l.c.procs.length) : Calls Tryz.prog 97 #[.pointer (some ⟨l.bq p, 0, none⟩)] w fun e w' => e = .returned (.int .i64 (2 * (p : Int))) ∧ w = w' := by
 have c0 := (h.prC hp).c0
 have := hc.p32
 go_enter Tryz.func97, Tryz.ntmps97
 go_wp2
 go_ret
 exact ⟨rfl, rfl⟩
theorem snum_any (h : Mk w l U m) (hc : CfgOk l.c) (hp : p < l.c.procs.length) : Calls Tryz.prog 98 #[.pointer (some ⟨l.bq p, 0, none⟩)] w fun e w' => e = .returned (.int .i64 (2 * (p : Int) + 1)) ∧ w = w' := by
 have c0 := (h.prC hp).c0
 have := hc.p32
 go_enter Tryz.func98, Tryz.ntmps98
 go_wp2
 go_ret
 exact ⟨rfl, rfl⟩
theorem Mk.setW (h : Mk w l U m) (hs : Shp l.c m) (hc : CfgOk l.c) (hp : p < l.c.procs.length) (id due : Int) (f : PrS → PrS) (hid : 0 ≤ id ∧ id ≤ 64) (hdue : 0 < due ∧ due ≤ 9223372036854775807) (hf : (∀ x, (f x).ss = x.ss) ∧ (∀ x, (f x).lc = x.lc) ∧ (∀ x, (f x).st = x.st) ∧ (∀ x, (f x).core = x.core) ∧ ∀ x, (f x).fired = x.fired)
  (hw : ∀ L, WOk l.c m (pa l.c p) L → WOk l.c (m.modP p f) (pa l.c p) (Wheel.setA id due L)) : Calls Tryz.prog 129 #[.pointer (some ⟨l.bw (pa l.c p), 0, none⟩), .int .i64 id, .int .i64 due] w fun e w' => e = .returned (.int .i64 0) ∧ MkOut w l U (m.modP p f) w' := by
 have hp' : p < m.pr.length := by rw [hs.nq]; exact hp
 obtain ⟨F, L, h1, h2, h3, h4⟩ := h.whl (hc.pa_lt hp)
 have hl := wok_len h2 h1.good hc
 refine (Wheel.set_right h1 (id := id) (due := due) ⟨⟨by simp only; omega, by simp only; omega⟩, by simp only; omega, by simp only; omega⟩ (by omega)).mono ?_
 rintro e w1 ⟨rfl, k1, F', k2, k3⟩
 obtain ⟨f1, f2, f3, f4, f5⟩ := hf
 exact ⟨rfl, MkOut.of h3 k3 (h4 w1 _ F' _ k1 k2 (hw L h2) k3 (fun y hy => agr_whl f1 f2 f3 f4 f5 hp' hy))⟩
theorem Mk.clearW (h : Mk w l U m) (hs : Shp l.c m) (hc : CfgOk l.c) (hp : p < l.c.procs.length) (id : Int) (f : PrS → PrS) (hid : 0 ≤ id ∧ id ≤ 64) (hf : (∀ x, (f x).ss = x.ss) ∧ (∀ x, (f x).lc = x.lc) ∧ (∀ x, (f x).st = x.st) ∧ (∀ x, (f x).core = x.core) ∧ ∀ x, (f x).fired = x.fired)
  (hw : ∀ L, WOk l.c m (pa l.c p) L → WOk l.c (m.modP p f) (pa l.c p) (Wheel.clr id L)) : Calls Tryz.prog 119 #[.pointer (some ⟨l.bw (pa l.c p), 0, none⟩), .int .i64 id] w fun e w' => (∃ b, e = .returned (.bool b)) ∧ MkOut w l U (m.modP p f) w' := by
 have hp' : p < m.pr.length := by rw [hs.nq]; exact hp
 obtain ⟨F, L, h1, h2, h3, h4⟩ := h.whl (hc.pa_lt hp)
 have hl := wok_len h2 h1.good hc
 refine (Wheel.clear_any h1 (id := id) ⟨by omega, by omega⟩ (by omega)).mono ?_
 rintro e w1 ⟨rfl, k1, F', k2, k3⟩
 obtain ⟨f1, f2, f3, f4, f5⟩ := hf
 exact ⟨⟨_, rfl⟩, MkOut.of h3 k3 (h4 w1 _ F' _ k1 k2 (hw L h2) k3 (fun y hy => agr_whl f1 f2 f3 f4 f5 hp' hy))⟩
set_option maxRecDepth 100000 in
set_option maxHeartbeats 2000000 in
theorem setDue_m (h : Mk w l U m) (hs : Shp l.c m) (hc : CfgOk l.c) (hp : p < l.c.procs.length) (ht : m.tick ≤ 6917529027641081856) (id v : Int) (hv : 0 < v) (f : PrS → PrS) (hid : 0 ≤ id ∧ id ≤ 64) (hf : (∀ x, (f x).ss = x.ss) ∧ (∀ x, (f x).lc = x.lc) ∧ (∀ x, (f x).st = x.st) ∧ (∀ x, (f x).core = x.core) ∧ ∀ x, (f x).fired = x.fired)
  (hw : ∀ L, WOk l.c m (pa l.c p) L → WOk l.c (m.modP p f) (pa l.c p) (Wheel.setA id (dueM m v) L)) : Calls Tryz.prog 108 #[.pointer (some ⟨l.bm, 0, none⟩), .pointer (some ⟨l.bq p, 0, none⟩), .int .i64 id, .int .i64 v] w fun e w' => e = .returned (.tuple #[]) ∧ MkOut w l U (m.modP p f) w' := by
 have t0 := hs.t0
 have hpa := hc.pa_lt hp
 have c1 := (h.prC hp).c1
 have n7 := (h.paC hpa).2.2.2.2.2.2.1
 have m9 := h.maC.2.2.2.2.1
 obtain ⟨V, hV⟩ : ∃ V, min v 1099511627776 = V := ⟨_, rfl⟩
 have hV0 : 0 < V ∧ V ≤ 1099511627776 := by omega
 have hset := h.drew.setW hs hc hp id (dueM m v) f hid (by unfold dueM; rw [hV]; omega) hf hw
 unfold dueM at hset
 rw [hV] at hset
 have HE : Hid (∀ w1, MkOut w.drew l U (m.modP p f) w1 → MkOut w l U (m.modP p f) w1) := hd (fun w1 ho => MkOut.ahead (bel_drew w) ho)
 generalize m.modP p f = M at *
 generalize m.tick = T at *
 have eT : IntKind.i64.wrap (T + V) = T + V := by rw [IntKind.wrap_i64]; omega
 clear h hs hc hp hpa hf hw
 go_enter Tryz.func108, Tryz.ntmps108
 go_region_law (first | (go_simp; (with_reducible refine hset.mono ?_); rintro e w1 ⟨rfl, ho⟩))
 all_goals (
  go_end0
  exact ⟨rfl, HE.out w1 ho⟩)
set_option maxRecDepth 100000 in
set_option maxHeartbeats 2000000 in
theorem setTimer_m (h : Mk w l U m) (hs : Shp l.c m) (hc : CfgOk l.c) (hp : p < l.c.procs.length) (ht : m.tick ≤ 6917529027641081856) (v : Int) : Calls Tryz.prog 107 #[.pointer (some ⟨l.bm, 0, none⟩), .pointer (some ⟨l.bq p, 0, none⟩), .int .i64 v] w fun e w' => e = .returned (.tuple #[]) ∧ MkOut w l U (timerM m p v) w' := by
 have hp' : p < m.pr.length := by rw [hs.nq]; exact hp
 have hpa := hc.pa_lt hp
 have hp32 := hc.p32
 have c13 := (h.prC hp).c13
 have fr := (h.prC hp).fr
 obtain ⟨U1, t1, k1⟩ := (h.setFired hs hp false).get
 have hs1 := hs.modS (f := fun x => { x with fired := false }) hp (fun _ => rfl) (fun _ => rfl) (fun _ => rfl) (fun _ => rfl)
 have hn1 : p < (m.modP p fun x => { x with fired := false }).pr.length := by rw [len_modP]; exact hp'
 have em : timerM m p v = (m.modP p fun x => { x with fired := false }).modP p fun x => { x with timer := if v ≤ 0 then 0 else dueM m v } := by
  unfold timerM
  rw [modP_modP hp']
 by_cases e : v ≤ 0
 ·rw [if_pos e] at em
  rw [em]
  have x1 := (k1.prC hp).c1
  have y7 := (k1.paC hpa).2.2.2.2.2.2.1
  have htn := tnum_any k1.drew hc hp
  have hcl := k1.drew.clearW hs1 hc hp (2 * (p : Int)) (fun x => { x with timer := 0 }) (by omega) ⟨fun _ => rfl, fun _ => rfl, fun _ => rfl, fun _ => rfl, fun _ => rfl⟩ (fun L hL => wok_noTimer hL hn1)
  obtain ⟨M, hM⟩ : ∃ M, Hid (((m.modP p fun x => { x with fired := false }).modP p fun x => { x with timer := 0 }) = M) := ⟨_, rfl⟩
  rw [hM.out] at hcl ⊢
  replace t1 := hd (to_drew t1)
  clear h hs hc hp hpa em k1 hs1 hp' hM hn1
  go_enter Tryz.func107, Tryz.ntmps107
  go_upto_region 2 with fail
  obtain ⟨W, hW⟩ : ∃ W, Hid (w.setCell ⟨l.bq p, 13, none⟩ (.bool false) = W) := ⟨_, rfl⟩
  rw [hW.out] at x1 y7 htn hcl t1 ⊢
  clear hW c13 fr
  go_region_law (first
   | (go_simp; (with_reducible refine htn.mono ?_); rintro e w1 ⟨rfl, rfl⟩)
   | (go_simp; (with_reducible refine hcl.mono ?_); rintro e w2 ⟨⟨b, rfl⟩, ho⟩))
  all_goals (
   go_wp2_with fail
   refine bodyPost_ret (results_none rfl _ _ _) rfl ?_
   exact ⟨rfl, t1.out.out ho⟩)
 ·rw [if_neg e] at em
  rw [em]
  have e' : decide (v ≤ 0) = false := by simpa using e
  have htn := tnum_any k1 hc hp
  have hsd := setDue_m k1 hs1 hc hp ht (2 * (p : Int)) v (by omega) (fun x => { x with timer := dueM m v }) (by omega) ⟨fun _ => rfl, fun _ => rfl, fun _ => rfl, fun _ => rfl, fun _ => rfl⟩ (fun L hL => wok_timer hL (hc.mem hp) hn1 (by unfold dueM; have := hs.t0; omega))
  obtain ⟨M, hM⟩ : ∃ M, Hid (((m.modP p fun x => { x with fired := false }).modP p fun x => { x with timer := dueM m v }) = M) := ⟨_, rfl⟩
  rw [hM.out] at hsd ⊢
  replace t1 := hd t1
  clear h hs hc hp hpa em k1 hs1 hp' hM hn1 e
  go_enter Tryz.func107, Tryz.ntmps107
  go_wp2_with (first
   | (go_at_call 97; refine htn.mono ?_; rintro e w1 ⟨rfl, rfl⟩)
   | (go_at_call 108; refine hsd.mono ?_; rintro e w2 ⟨rfl, ho⟩))
  go_end0
  exact ⟨rfl, t1.out.out ho⟩
end
end Go.Proofs.YthnjeejnnhadeaaGreatDoor

namespace Go.Proofs.YthnjeejnnhadeaaGreatDoor
open Go.RowKit
theorem info_entry : (Tryz.prog.info? 68).map (fun i => (i.zero, i.size, i.bytes)) = some (some (.agg #[.int .i64 0, .int .i64 0, .int .i64 0]), 3, 24) := by kernel_rfl
section
variable {w w' : World} {l : Lay} {m : MS} {U : Nat → Prop} {p q i j : Nat}
theorem Mk.pushLog (h : Mk w l U m) (hs : Shp l.c m) (hc : CfgOk l.c) (hi : i < l.c.labels.length) (x : Int × Int × Int) : ∃ la lc a' c' w2, w.cell? ⟨l.bp i, 3, none⟩ = some (.slice la (ptOf m i).log.length lc) ∧
  (∀ ty, (Builtin.append_ #[63, 63] ty #[.slice la (ptOf m i).log.length lc, .slice (some ⟨w.heap.size, 0, none⟩) 1 1]).run Tryz.prog (w.alloc (.cells #[.int .i64 x.1, .int .i64 x.2.1, .int .i64 x.2.2] 68)) = .ok (.slice a' ((ptOf m i).log.length + 1) c') w2) ∧
  w2.cell? ⟨l.bp i, 3, none⟩ = some (.slice la (ptOf m i).log.length lc) ∧ w2.frozen? ⟨l.bp i, 3, none⟩ = false ∧
  MkOut w l U (m.modT i fun t => { t with log := t.log ++ [x] }) (w2.setCell ⟨l.bp i, 3, none⟩ (.slice a' ((ptOf m i).log.length + 1) c')) := by
 have hi' : i < m.pt.length := by rw [hs.np]; exact hi
 have hll := hs.log i hi
 have hg4 := hc.g4096
 obtain ⟨F, ⟨la, lc, k1, k2, k3, k4, k5, k6, k7, k8, k9⟩, _, hgo⟩ := h.open_ (.part i) hi
 obtain ⟨a', c', w2, q1, q2, q3, q4⟩ := push_any (T := 63) Tryz.underlying63 info_entry rfl (by omega) k3 (by omega) [.int .i64 x.1, .int .i64 x.2.1, .int .i64 x.2.2] rfl (by simp [Value.oneCell'])
 have hbl := (Array.getElem?_eq_some_iff.1 k1).1
 have hb2 : w2.heap[l.bp i]? = w.heap[l.bp i]? := q3.block _ hbl k5
 have c3 : w.cell? ⟨l.bp i, 3, none⟩ = some (.slice la (ptOf m i).log.length lc) := by rw [cell_of_row _ _ _ _ _ _ k1]; rfl
 have hk' : ∀ k, k ≠ l.bp i → (w2.setCell ⟨l.bp i, 3, none⟩ (.slice a' ((ptOf m i).log.length + 1) c')).heap[k]? = w2.heap[k]? := fun k hk => Below.heap_setCell _ _ _ _ hk
 have n1 : blk a' ≠ some (l.bp i) := fun e => by
  rcases q4 _ e with h1 | h1
  ·exact k5 h1
  ·omega
 have n2 : ∀ k, blk a' = some k → blk (l.ar i) ≠ some k := fun k hk e => by
  rcases q4 _ hk with h1 | h1
  ·exact k6 k h1 e
  ·have := k2.lt k e
   omega
 refine ⟨la, lc, a', c', w2, c3, q1, (World.cell?_of_block (w := w) hb2).trans c3, (World.frozen?_of_block (w := w) hb2).trans (by simp [World.frozen?, k1]), ?_⟩
 refine hgo _ _ (fun k => k = l.bp i ∨ blk (l.ar i) = some k ∨ blk a' = some k) ((q3.mono (fun k _ hk => k9 k hk)).setCell (.inl k7) _) ⟨a', c', ?_, ?_, ?_, k4, n1, n2, .inl rfl, fun k hk => .inr (.inl hk), fun k hk => .inr (.inr hk)⟩ ?_ ?_ (fun y hy => agr_part (f := fun t => { t with log := t.log ++ [x] }) (fun _ => rfl) (fun _ => rfl) hi' hy)
 ·rw [ptOf_same hi', heap_setCell_self (hb2.trans k1)]
  unfold paA
  simp
 ·exact ((k2.mod q3 (fun k hk e => k6 k e hk)).kept fun k hk => hk' k (fun e => k4 (by rw [← e]; exact hk)))
 ·rw [ptOf_same hi']
  simp only [List.length_append, List.length_cons, List.length_nil, Nat.zero_add]
  rw [enC_app]
  exact (Row.kept q2 fun k hk => hk' k (fun e => n1 (by rw [← e]; exact hk)))
 ·rintro k (rfl | hk | hk)
  ·exact .inl k7
  ·exact .inl (k8 k hk)
  ·rcases q4 k hk with h1 | h1
   ·exact .inl (k9 k h1)
   ·exact .inr h1
 ·have hsz : (w2.setCell ⟨l.bp i, 3, none⟩ (.slice a' ((ptOf m i).log.length + 1) c')).heap.size = w2.heap.size := by simp [World.setCell]
  rintro k (rfl | hk | hk)
  ·rw [hsz]; exact Nat.lt_of_lt_of_le hbl q3.size
  ·rw [hsz]; exact Nat.lt_of_lt_of_le (k2.lt k hk) q3.size
  ·rw [hsz]; exact q2.lt k hk
theorem Mk.logCell (h : Mk w l U m) (hi : i < l.c.labels.length) : ∃ la lc, w.cell? ⟨l.bp i, 3, none⟩ = some (.slice la (ptOf m i).log.length lc) := by
 obtain ⟨la, lc, k1, _⟩ := h.partAt hi
 exact ⟨la, lc, by rw [cell_of_row _ _ _ _ _ _ k1]; rfl⟩
set_option maxRecDepth 100000 in
set_option maxHeartbeats 4000000 in
theorem write_m (h : Mk w l U m) (hs : Shp l.c m) (hc : CfgOk l.c) (hp : p < l.c.procs.length) (v : Int) : Calls Tryz.prog 111 #[.pointer (some ⟨l.bm, 0, none⟩), .pointer (some ⟨l.bq p, 0, none⟩), .int .i64 v] w fun e w' => e = .returned (.tuple #[]) ∧ MkOut w l U (outM l.c m p v) w' := by
 have hpa := hc.pa_lt hp
 have hpt : pa l.c p < m.pt.length := by rw [hs.np]; exact hpa
 have c0 := (h.prC hp).c0
 have c1 := (h.prC hp).c1
 obtain ⟨-, m5, -, -, m9, -, -, -⟩ := h.maC
 obtain ⟨-, -, -, n4, -, -, -, nf⟩ := h.paC hpa
 have hcn := (hs.cnt _ hpa).1
 by_cases e : l.c.log ≤ ((ptOf m (pa l.c p)).log.length : Int)
 ·have em : outM l.c m p v = m.modT (pa l.c p) fun t => { t with lost := more (ptOf m (pa l.c p)).lost } := by
   unfold outM MS.modT
   simp only [if_pos e]
  rw [em]
  obtain ⟨la, lc, n3⟩ := h.logCell hpa
  have hmo := more_any (ptOf m (pa l.c p)).lost hcn
  have HE : Hid (∀ n, MkOut w l U (m.modT (pa l.c p) fun t => { t with lost := more (ptOf m (pa l.c p)).lost }) ((w.drewN n).setCell ⟨l.bp (pa l.c p), 4, none⟩ (.int .i64 (more (ptOf m (pa l.c p)).lost)))) := hd (fun n => MkOut.ahead (below_draw w n) ((h.below (below_draw w n)).setLost hs hpa (more (ptOf m (pa l.c p)).lost)))
  generalize (m.modT (pa l.c p) fun t => { t with lost := more (ptOf m (pa l.c p)).lost }) = M at *
  generalize more (ptOf m (pa l.c p)).lost = V at *
  clear h hs hc hp hpa hpt em hcn
  go_enter Tryz.func111, Tryz.ntmps111
  go_upto_region 1 with fail
  go_quiet (fail)
  go_wp2_with (go_at_call 168; refine (hmo _).mono ?_; rintro e w1 ⟨rfl, rfl⟩)
  refine bodyPost_ret (results_none rfl _ _ _) rfl ?_
  exact ⟨rfl, HE.out _⟩
 ·have em : outM l.c m p v = m.modT (pa l.c p) fun t => { t with log := t.log ++ [(m.tick, (p : Int), v)] } := by
   unfold outM MS.modT
   simp only [if_neg e]
  rw [em]
  have e' : decide (l.c.log ≤ ((ptOf m (pa l.c p)).log.length : Int)) = false := by simpa using e
  have HL : Hid (∀ n, _) := hd (fun n => (h.below (below_draw w n)).pushLog hs hc hpa (m.tick, (p : Int), v))
  obtain ⟨la, lc, n3⟩ := h.logCell hpa
  obtain ⟨M, hM⟩ : ∃ M, Hid ((m.modT (pa l.c p) fun t => { t with log := t.log ++ [(m.tick, (p : Int), v)] }) = M) := ⟨_, rfl⟩
  rw [hM.out]
  have HB := hd (below_draw w)
  clear h hs hc hp hpa hpt em hcn e
  go_enter Tryz.func111, Tryz.ntmps111
  go_upto_region 1 with fail
  go_quiet (fail)
  go_upto_region 3 with fail
  obtain ⟨la', lc', a', c', w2, g1, g2, g3, g4, g5⟩ := HL.out (nq + 1)
  rw [show (w.drewN (nq + 1)).cell? ⟨l.bp (pa l.c p), 3, none⟩ = w.cell? ⟨l.bp (pa l.c p), 3, none⟩ from rfl, n3] at g1
  obtain ⟨rfl, rfl⟩ : la = la' ∧ lc = lc' := by simpa using g1
  replace g2 := hd g2
  replace g5 := hd g5
  dsimp only at g2
  have nA : ∀ ob, ((w.drewN (nq + 1)).alloc ob).cell? ⟨l.bp (pa l.c p), 3, none⟩ = some (.slice la (ptOf m (pa l.c p)).log.length lc) := fun ob => ((below_al (w.drewN (nq + 1)) ob).cell (p := ⟨l.bp (pa l.c p), 3, none⟩) (World.block_lt_of_cell? w _ n3)).trans n3
  clear g1 HL
  go_region_law (first | (refine Lane.step_append_run (by rfl) _ _ _ (by rfl) _ _ _ _ (by rfl) (by rfl) g2.out ?_; clear g2))
  all_goals (
   go_wp2_with fail
   go_end0
   refine ⟨rfl, ?_⟩
   rw [← hM.out]
   exact MkOut.ahead (HB.out _) g5.out)
end
end Go.Proofs.YthnjeejnnhadeaaGreatDoor
