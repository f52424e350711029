/- Sends. -/
import Derived.Test.YthhcecllejddeaaGreatDoorGMb
import Derived.Test.YthhcecllejddeaaGreatDoorGPc
import Derived.Test.YthhcecllejddeaaGreatDoorGWd
import Derived.LaidEqlPtr
namespace Go.Proofs.YthhcecllejddeaaGreatDoor
open Go.RowKit
theorem to_drew {w w1 : World} {U U1 : Nat → Prop} (h : To w U w1 U1) : To w U w1.drew U1 := h.bel (bel_drew w1)
theorem Mk.drew {w : World} {l : Lay} {U : Nat → Prop} {m : MS} (h : Mk w l U m) : Mk w.drew l U m := h.below (bel_drew w)
section
variable {w w' : World} {l : Lay} {m : MS} {U : Nat → Prop} {p q i : Nat}
theorem Mk.setFired (h : Mk w l U m) (hs : Shp l.c m) (hp : p < l.c.procs.length) (s : Bool) : MkOut w l U (m.modP p fun x => { x with fired := s }) (w.setCell ⟨l.bq p, 13, none⟩ (.bool s)) :=
 h.putProc hs hp (fun _ => rfl) (fun _ => rfl) (fun _ => rfl) (fun _ => rfl) (mod_set _ _ _ _) (putF_at (h.procAt hp) s)
end
end Go.Proofs.YthhcecllejddeaaGreatDoor

namespace Go.Proofs.YthhcecllejddeaaGreatDoor
open Go.RowKit
section
variable {w w' : World} {l : Lay} {m : MS} {U : Nat → Prop} {p q i j : Nat}
theorem Mk.putPart (h : Mk w l U m) (hs : Shp l.c m) (hi : i < l.c.labels.length) {f : PtS → PtS} (h1 : ∀ x, (f x).os = x.os) (h2 : ∀ x, (f x).qs = x.qs) (h3 : (f (ptOf m i)).log = (ptOf m i).log)
  (hm : Mod (fun k => k = l.bp i) w w') (hh : ∀ la lc, w.heap[l.bp i]? = some (.cells (paA l i (ptOf m i) la lc) 152 (0, 0)) → w'.heap[l.bp i]? = some (.cells (paA l i (f (ptOf m i)) la lc) 152 (0, 0))) : MkOut w l U (m.modT i f) w' := by
 have hi' : i < m.pt.length := by rw [hs.np]; exact hi
 obtain ⟨F, ⟨la, lc, k1, k2, k3, k4, k5, k6, k7, k8, k9⟩, _, hgo⟩ := h.open_ (.part i) hi
 have hx := hh la lc k1
 refine hgo w' _ (fun k => k = l.bp i ∨ blk (l.ar i) = some k ∨ blk la = some k) (hm.mono (fun k _ e => by rw [e]; exact k7)) ⟨la, lc, by rw [ptOf_same hi']; exact hx, k2.mod hm (fun k hk e => k4 (by rw [← e]; exact hk)), by rw [ptOf_same hi', h3]; exact k3.mod hm (fun k hk e => k5 (by rw [← e]; exact hk)), k4, k5, k6, .inl rfl, fun k hk => .inr (.inl hk), fun k hk => .inr (.inr hk)⟩ ?_ ?_ (fun y hy => agr_part h1 h2 hi' hy)
 ·rintro k (rfl | hk | hk)
  ·exact .inl k7
  ·exact .inl (k8 k hk)
  ·exact .inl (k9 k hk)
 ·rintro k (rfl | hk | hk)
  ·exact (Array.getElem?_eq_some_iff.1 hx).1
  ·exact Nat.lt_of_lt_of_le (k2.lt k hk) hm.size
  ·exact Nat.lt_of_lt_of_le (k3.lt k hk) hm.size
theorem Mk.setCur (h : Mk w l U m) (hs : Shp l.c m) (hi : i < l.c.labels.length) (v : Nat) : MkOut w l U (m.modT i fun x => { x with cur := v }) (w.setCell ⟨l.bp i, 2, none⟩ (.int .i64 (v : Int))) :=
 h.putPart hs hi (fun _ => rfl) (fun _ => rfl) rfl (mod_set _ _ _ _) (fun la lc e => by rw [heap_setCell_self e]; rfl)
end
end Go.Proofs.YthhcecllejddeaaGreatDoor

namespace Go.Proofs.YthhcecllejddeaaGreatDoor
open Go.RowKit
section
variable {w w' : World} {l : Lay} {m : MS} {U : Nat → Prop} {p q i j : Nat}
end
end Go.Proofs.YthhcecllejddeaaGreatDoor

namespace Go.Proofs.YthhcecllejddeaaGreatDoor
open Go.RowKit
theorem fitL {c : Cfg} (hc : CfgOk c) {p : Nat} (hp : p < c.procs.length) : Locks.Fit64 (p : Int) := by
 have := hc.p32
 constructor <;> omega
section
variable {w w' : World} {l : Lay} {m : MS} {U : Nat → Prop} {p q i j : Nat}
theorem Shp.given {c : Cfg} {m : MS} (h : Shp c m) {x : Int} (hx : x = -1 ∨ isNo c x) : Shp c (givenM m x) := by
 unfold givenM
 split
 ·exact h
 ·next hn =>
  rcases hx with hx | hx
  ·exact absurd hx hn
  ·exact h.goOn (no_to hx)
set_option maxRecDepth 100000 in
theorem given_m (h : Mk w l U m) (hs : Shp l.c m) {x : Int} (hx : x = -1 ∨ isNo l.c x) : Calls Tryz.prog 154 #[.pointer (some ⟨l.bm, 0, none⟩), .int .i64 x] w fun e w' => e = .returned (.tuple #[]) ∧ MkOut w l U (givenM m x) w' := by
 by_cases e : x = -1
 ·subst e
  have em : givenM m (-1) = m := by unfold givenM; rw [if_pos rfl]
  rw [em]
  have HO := hd (h.out (Below.refl _ _))
  clear h hs hx em
  go_enter Tryz.func154, Tryz.ntmps154
  go_wp2
  go_end0
  exact ⟨rfl, HO.out⟩
 ·have hx' : isNo l.c x := by rcases hx with h | h; exact absurd h e; exact h
  have em : givenM m x = goOnM m x.toNat := by unfold givenM; rw [if_neg e]
  rw [em]
  have hlt := no_to hx'
  obtain ⟨n, hn⟩ : ∃ n : Nat, x = (n : Int) := ⟨x.toNat, by have := hx'.1; omega⟩
  subst hn
  rw [Int.toNat_natCast] at hlt ⊢
  have hno' : (n : Int) < (l.c.procs.length : Int) := by omega
  obtain ⟨m2, m5, m7, m8, m9, m10, m11, mf⟩ := h.maC
  obtain ⟨gp, ag, cg⟩ := h.procPtr hlt
  rw [ag] at m11
  have hgo := goOn_any h hs hlt
  clear h hs hx em hx' hlt m2 m5 m7 m8 m9 m10 mf
  go_enter Tryz.func154, Tryz.ntmps154
  go_wp2_with (go_at_call 138; refine hgo.mono ?_; rintro e w1 ⟨rfl, ho⟩; clear hgo)
  go_end0
  exact ⟨rfl, ho⟩
end
end Go.Proofs.YthhcecllejddeaaGreatDoor

namespace Go.Proofs.YthhcecllejddeaaGreatDoor
open Go.RowKit
theorem ids_le : ∀ (L : List Wheel.Th), L.Pairwise (fun a b => a.2 ≠ b.2) → (L.map (·.2)).Nodup := fun _ h => List.pairwise_map.2 h
theorem wok_len {c : Cfg} {m : MS} {i : Nat} {L : List Wheel.Th} (h : WOk c m i L) (hg : Wheel.GoodW L) (hc : CfgOk c) : L.length ≤ 64 := by
 have h1 := nodup_le (2 * c.procs.length) (L.map (·.2)) (ids_le L hg.nod) (fun x hx => by
  obtain ⟨t, ht, rfl⟩ := List.mem_map.1 hx
  obtain ⟨p, hp, ⟨rfl, _⟩ | ⟨rfl, _⟩⟩ := (h t).1 ht
  ·have := (mem_ofL.1 hp).1
   simp only
   omega
  ·have := (mem_ofL.1 hp).1
   simp only
   omega)
 have := hc.p32
 simp at h1
 omega
section
variable {c : Cfg} {m : MS} {i p : Nat} {L : List Wheel.Th}
theorem wok_noTimer (h : WOk c m i L) (hm : p < m.pr.length) : WOk c (m.modP p fun x => { x with timer := 0 }) i (Wheel.clr (2 * (p : Int)) L) := fun t => by
 rw [Wheel.clr_mem]
 constructor
 ·rintro ⟨h1, h2⟩
  obtain ⟨q, hq, ⟨rfl, h3⟩ | ⟨rfl, h3⟩⟩ := (h t).1 h1
  ·have hqp : q ≠ p := fun e => h2 (by simp only; omega)
   exact ⟨q, hq, .inl (by rw [prOf_other hqp]; exact ⟨rfl, h3⟩)⟩
  ·refine ⟨q, hq, .inr ?_⟩
   rw [prOf_modP hm]
   split
   ·next e => subst e; exact ⟨rfl, h3⟩
   ·exact ⟨rfl, h3⟩
 ·rintro ⟨q, hq, ⟨rfl, h3⟩ | ⟨rfl, h3⟩⟩
  ·by_cases e : q = p
   ·subst e
    rw [prOf_same hm] at h3
    exact absurd h3 (Int.lt_irrefl 0)
   ·rw [prOf_other e] at h3 ⊢
    exact ⟨(h _).2 ⟨q, hq, .inl ⟨rfl, h3⟩⟩, by simp only; omega⟩
  ·refine ⟨(h _).2 ⟨q, hq, .inr ?_⟩, by simp only; omega⟩
   rw [prOf_modP hm] at h3 ⊢
   by_cases e : q = p
   ·rw [if_pos e] at h3 ⊢
    subst e
    exact ⟨rfl, h3⟩
   ·rw [if_neg e] at h3 ⊢
    exact ⟨rfl, h3⟩
theorem wok_noWake (h : WOk c m i L) (hm : p < m.pr.length) : WOk c (m.modP p fun x => { x with wake := 0 }) i (Wheel.clr (2 * (p : Int) + 1) L) := fun t => by
 rw [Wheel.clr_mem]
 constructor
 ·rintro ⟨h1, h2⟩
  obtain ⟨q, hq, ⟨rfl, h3⟩ | ⟨rfl, h3⟩⟩ := (h t).1 h1
  ·refine ⟨q, hq, .inl ?_⟩
   rw [prOf_modP hm]
   split
   ·next e => subst e; exact ⟨rfl, h3⟩
   ·exact ⟨rfl, h3⟩
  ·have hqp : q ≠ p := fun e => h2 (by simp only; omega)
   exact ⟨q, hq, .inr (by rw [prOf_other hqp]; exact ⟨rfl, h3⟩)⟩
 ·rintro ⟨q, hq, ⟨rfl, h3⟩ | ⟨rfl, h3⟩⟩
  ·refine ⟨(h _).2 ⟨q, hq, .inl ?_⟩, by simp only; omega⟩
   rw [prOf_modP hm] at h3 ⊢
   by_cases e : q = p
   ·rw [if_pos e] at h3 ⊢
    subst e
    exact ⟨rfl, h3⟩
   ·rw [if_neg e] at h3 ⊢
    exact ⟨rfl, h3⟩
  ·by_cases e : q = p
   ·subst e
    rw [prOf_same hm] at h3
    exact absurd h3 (Int.lt_irrefl 0)
   ·rw [prOf_other e] at h3 ⊢
    exact ⟨(h _).2 ⟨q, hq, .inr ⟨rfl, h3⟩⟩, by simp only; omega⟩
end
section
variable {w w' : World} {l : Lay} {m : MS} {U : Nat → Prop} {p q i j : Nat}
theorem tnum_any (h : Mk w l U m) (hc : CfgOk l.c) (hp : p < l.c.procs.length) : Calls Tryz.prog 87 #[.pointer (some ⟨l.bq p, 0, none⟩)] w fun e w' => e = .returned (.int .i64 (2 * (p : Int))) ∧ w = w' := by
 have c0 := (h.prC hp).c0
 have := hc.p32
 go_enter Tryz.func87, Tryz.ntmps87
 go_wp2
 go_ret
 exact ⟨rfl, rfl⟩
theorem snum_any (h : Mk w l U m) (hc : CfgOk l.c) (hp : p < l.c.procs.length) : Calls Tryz.prog 88 #[.pointer (some ⟨l.bq p, 0, none⟩)] w fun e w' => e = .returned (.int .i64 (2 * (p : Int) + 1)) ∧ w = w' := by
 have c0 := (h.prC hp).c0
 have := hc.p32
 go_enter Tryz.func88, Tryz.ntmps88
 go_wp2
 go_ret
 exact ⟨rfl, rfl⟩
theorem Mk.clearW (h : Mk w l U m) (hs : Shp l.c m) (hc : CfgOk l.c) (hp : p < l.c.procs.length) (id : Int) (f : PrS → PrS) (hid : 0 ≤ id ∧ id ≤ 64) (hf : (∀ x, (f x).ss = x.ss) ∧ (∀ x, (f x).lc = x.lc) ∧ (∀ x, (f x).st = x.st) ∧ (∀ x, (f x).core = x.core) ∧ ∀ x, (f x).fired = x.fired)
  (hw : ∀ L, WOk l.c m (pa l.c p) L → WOk l.c (m.modP p f) (pa l.c p) (Wheel.clr id L)) : Calls Tryz.prog 155 #[.pointer (some ⟨l.bw (pa l.c p), 0, none⟩), .int .i64 id] w fun e w' => (∃ b, e = .returned (.bool b)) ∧ MkOut w l U (m.modP p f) w' := by
 have hp' : p < m.pr.length := by rw [hs.nq]; exact hp
 obtain ⟨F, L, h1, h2, h3, h4⟩ := h.whl (hc.pa_lt hp)
 have hl := wok_len h2 h1.good hc
 refine (Wheel.clear_any h1 (id := id) ⟨by omega, by omega⟩ (by omega)).mono ?_
 rintro e w1 ⟨rfl, k1, F', k2, k3⟩
 obtain ⟨f1, f2, f3, f4, f5⟩ := hf
 exact ⟨⟨_, rfl⟩, MkOut.of h3 k3 (h4 w1 _ F' _ k1 k2 (hw L h2) k3 (fun y hy => agr_whl f1 f2 f3 f4 f5 hp' hy))⟩
end
end Go.Proofs.YthhcecllejddeaaGreatDoor

namespace Go.Proofs.YthhcecllejddeaaGreatDoor
open Go.RowKit
section
variable {w w' : World} {l : Lay} {m : MS} {U : Nat → Prop} {p q i j : Nat}
theorem Mk.rowAt (h : Mk w l U m) (hi : i < l.c.labels.length) {k : Nat} (hk : k < (ofL l.c i).length) : ∃ g, l.ar i = some ⟨g, 0, none⟩ ∧ w.cell? ⟨g, k, none⟩ = some (.pointer (some ⟨l.bq ((ofL l.c i).getD k 0), 0, none⟩)) := by
 obtain ⟨la, lc, _, k2, _⟩ := h.partAt hi
 obtain ⟨g, e, hcell⟩ := k2.cell k (by omega)
 refine ⟨g, e, ?_⟩
 rw [hcell, ptC_at _ k (by simpa using hk), List.getD_eq_getElem?_getD, List.getElem?_map, List.getElem?_eq_getElem hk, List.getD_eq_getElem?_getD, List.getElem?_eq_getElem hk]
 rfl
set_option maxRecDepth 100000 in
set_option maxHeartbeats 4000000 in
theorem next_m (h : Mk w l U m) (hs : Shp l.c m) (hc : CfgOk l.c) (hi : i < l.c.labels.length) {k n : Nat} (hn : Hid ((ofL l.c i).length = n)) (hcur : Hid ((ptOf m i).cur = k)) (hk : k < n) : Calls Tryz.prog 109 #[.pointer (some ⟨l.bp i, 0, none⟩)] w fun e w' => e = .returned (.pointer (some ⟨l.bq ((ofL l.c i).getD k 0), 0, none⟩)) ∧ MkOut w l U (m.modT i fun t => { t with cur := (k + 1) % n }) w' := by
 have hl := ofL_len l.c i
 have h32 := hc.p32
 rw [hn.out] at hl
 obtain ⟨-, n1, n2, -, -, -, -, nf⟩ := h.paC hi
 rw [hcur.out] at n2
 rw [hn.out] at n1
 obtain ⟨g, ag, cg⟩ := h.rowAt hi (k := k) (by rw [hn.out]; exact hk)
 rw [ag] at n1
 have hk' : (k : Int) < (n : Int) := by omega
 have hne : (n : Int) ≠ 0 := by omega
 have hne2 : n ≠ 0 := by omega
 obtain ⟨R, hR⟩ : ∃ R : Nat, (k + 1) % n = R := ⟨_, rfl⟩
 have hRn : R < n := by rw [← hR]; exact Nat.mod_lt _ (by omega)
 have hmod : ((k : Int) + 1).tmod (n : Int) = (R : Int) := by rw [← hR, show (k : Int) + 1 = ((k + 1 : Nat) : Int) by omega]; exact (Int.ofNat_tmod _ _).symm
 have HE : Hid (∀ d, MkOut w l U (m.modT i fun t => { t with cur := R }) ((w.drewN d).setCell ⟨l.bp i, 2, none⟩ (.int .i64 (R : Int)))) := hd (fun d => MkOut.ahead (below_draw w d) ((h.below (below_draw w d)).setCur hs hi R))
 rw [hR]
 generalize (m.modT i fun t => { t with cur := R }) = M at *
 generalize l.bq ((ofL l.c i).getD k 0) = bq at *
 have w1 : IntKind.i64.wrap ((k : Int) + 1) = (k : Int) + 1 := by rw [IntKind.wrap_i64]; omega
 clear h hs hc hi hn hcur hR ag
 go_enter Tryz.func109, Tryz.ntmps109
 go_upto_region 1 with fail
 go_quiet (fail)
 go_upto_region 2 with fail
 go_region_law (fail)
 all_goals (
  go_wp2_with fail
  go_ret
  exact ⟨rfl, HE.out _⟩)
def liveV (l : Lay) (m : MS) (p : Int) : Value := if liveE l.c m p = 0 then .pointer (some ⟨l.bq p.toNat, 0, none⟩) else .pointer none
set_option maxRecDepth 100000 in
theorem living_m (h : Mk w l U m) (p : Int) : Calls Tryz.prog 111 #[.pointer (some ⟨l.bm, 0, none⟩), .int .i64 p] w fun e w' => e = .returned (.tuple #[liveV l m p, .int .i64 (liveE l.c m p)]) ∧ w = w' := by
 have m11 := h.maC.2.2.2.2.2.2.1
 by_cases e1 : p < 0 ∨ (l.c.procs.length : Int) ≤ p
 ·have ee : liveE l.c m p = 17 := by unfold liveE; rw [if_pos e1]
  have ev : liveV l m p = .pointer none := by unfold liveV; rw [ee]; rfl
  rw [ee, ev]
  clear h ee ev
  by_cases e2 : p < 0
  ·go_enter Tryz.func111, Tryz.ntmps111
   go_wp2
   go_ret2
   exact ⟨rfl, rfl⟩
  ·have e2' : decide (p < 0) = false := by simpa using e2
   have e3 : (l.c.procs.length : Int) ≤ p := by omega
   clear e1 e2
   go_enter Tryz.func111, Tryz.ntmps111
   go_wp2
   go_ret2
   exact ⟨rfl, rfl⟩
 ·obtain ⟨q, rfl⟩ : ∃ q : Nat, p = (q : Int) := ⟨p.toNat, by omega⟩
  have hq : q < l.c.procs.length := by omega
  have hq' : (q : Int) < (l.c.procs.length : Int) := by omega
  obtain ⟨g, ag, cg⟩ := h.procPtr hq
  rw [ag] at m11
  have c3 := (h.prC hq).c3
  have hen := ended_any (prOf m q).st w
  by_cases e2 : ended (prOf m q).st = true
  ·have ee : liveE l.c m q = 18 := by unfold liveE; rw [if_neg e1, Int.toNat_natCast, if_pos e2]
   have ev : liveV l m q = .pointer none := by unfold liveV; rw [ee]; rfl
   rw [ee, ev]
   rw [e2] at hen
   clear h ee ev e1 e2
   go_enter Tryz.func111, Tryz.ntmps111
   go_wp2_with (go_at_call 148; refine hen.mono ?_; rintro e w1 ⟨rfl, rfl⟩)
   go_ret2
   exact ⟨rfl, rfl⟩
  ·have ee : liveE l.c m q = 0 := by unfold liveE; rw [if_neg e1, Int.toNat_natCast, if_neg e2]
   have ev : liveV l m q = .pointer (some ⟨l.bq q, 0, none⟩) := by unfold liveV; rw [ee, if_pos rfl, Int.toNat_natCast]
   rw [ee, ev]
   rw [show ended (prOf m q).st = false by simpa using e2] at hen
   clear h ee ev e1 e2
   go_enter Tryz.func111, Tryz.ntmps111
   go_wp2_with (go_at_call 148; refine hen.mono ?_; rintro e w1 ⟨rfl, rfl⟩)
   go_ret2
   exact ⟨rfl, rfl⟩
theorem kill_no (h : Mk w l U m) (p : Int) (e1 : liveE l.c m p ≠ 0) : Calls Tryz.prog 83 #[.pointer (some ⟨l.bm, 0, none⟩), .int .i64 p] w fun e w' => e = .returned (.int .i64 (liveE l.c m p)) ∧ w = w' := by
 have hlv := living_m h p
 have e1' : (liveE l.c m p == 0) = false := by simpa using e1
 generalize liveV l m p = LV at *
 generalize liveE l.c m p = E at *
 clear h e1
 go_enter Tryz.func83, Tryz.ntmps83
 go_wp2_with (go_at_call 111; refine hlv.mono ?_; rintro e w1 ⟨rfl, rfl⟩; clear hlv)
 go_ret
 exact ⟨rfl, rfl⟩
end
end Go.Proofs.YthhcecllejddeaaGreatDoor

namespace Go.Proofs.YthhcecllejddeaaGreatDoor
open Go.RowKit
theorem info_entry : (Tryz.prog.info? 163).map (fun i => (i.zero, i.size, i.bytes)) = some (some (.agg #[.int .i64 0, .int .i64 0, .int .i64 0]), 3, 24) := by kernel_rfl
section
variable {w w' : World} {l : Lay} {m : MS} {U : Nat → Prop} {p q i j : Nat}
end
end Go.Proofs.YthhcecllejddeaaGreatDoor
