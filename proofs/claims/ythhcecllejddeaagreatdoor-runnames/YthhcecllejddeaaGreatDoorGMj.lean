/- An instruction keeps what must be; its tick. -/
import Derived.Test.YthhcecllejddeaaGreatDoorGMi
import Derived.Test.YthhcecllejddeaaGreatDoorGXMG
namespace Go.Proofs.YthhcecllejddeaaGreatDoor
section
variable {c : Cfg} {m : MS} {p q : Nat}
theorem Shp.over (h : Shp c m) (hc : CfgOk c) (hp : p < c.procs.length) (st : Int) : Shp c (endM c m p st) := by
 rw [endM_eq]
 simp only
 have h0 : Shp c (end0 m p st) := h.modS hp (fun _ => rfl) (fun _ => rfl) (fun _ => rfl) (fun _ => rfl)
 have h1 : Shp c (end1 c m p st) := Shp.leaves p _ h0 (fun x hx => (mem_ofL.1 hx).1)
 have h2 := h1.end2 hc hp
 have h3 := Shp.gives _ h2.1 h2.2
 have h4 := (h3.end3 hp).end4 hp
 exact Shp.tells _ h4.1 h4.2
theorem step_on (c : Cfg) (m : MS) (p : Nat) : stepM c m p = stepOn c (m.modP p fun x => { x with core := (Cpu.stepL (prOf m p).core (cd c p) m.tick p).1 }) p (Cpu.stepL (prOf m p).core (cd c p) m.tick p).2.1 := by
 unfold stepM stepOn
 rfl
theorem Shp.stepS (h : Shp c m) (hc : CfgOk c) (hp : p < c.procs.length) : Shp c (stepM c m p) := by
 rw [step_on]
 generalize Cpu.stepL (prOf m p).core (cd c p) m.tick p = r
 have h1 := h.modS (f := fun x => { x with core := r.1 }) hp (fun _ => rfl) (fun _ => rfl) (fun _ => rfl) (fun _ => rfl)
 unfold stepOn
 split
 ·exact h1.over hc hp 5
 ·exact h1
theorem given_tick (x : Int) : (givenM m x).tick = m.tick := by unfold givenM; split <;> rfl
theorem leave_tick (p : Nat) : ∀ (L : List Nat) (m : MS), (leaveM m p L).tick = m.tick
 | [], _ => rfl
 | q :: r, m => (leave_tick p r (m.modP q fun x => { x with ss := (Lane.leaveP x.ss p).2 })).trans rfl
theorem gives_tick : ∀ (L : List (Int × Int)) (m : MS), (givesM m L).tick = m.tick
 | [], _ => rfl
 | g :: r, m => (gives_tick r (givenM m g.2)).trans (given_tick _)
theorem tells_tick (c : Cfg) : ∀ (L : List (Int × Int)) (m : MS), (tellsM c m L).tick = m.tick
 | [], _ => rfl
 | g :: r, m => (tells_tick c r (toldM c m g.1.toNat 2)).trans rfl
theorem end_tick (st : Int) : (endM c m p st).tick = m.tick := by
 rw [endM_eq]
 simp only
 rw [tells_tick]
 unfold end4
 rw [tick_modP, tick_modP, gives_tick]
 unfold end2
 rw [tick_modT]
 unfold end1
 rw [leave_tick]
 unfold end0
 rw [tick_modP]
theorem step_tick : (stepM c m p).tick = m.tick := by
 rw [step_on]
 unfold stepOn
 split
 ·exact (end_tick _).trans rfl
 ·rfl
end
end Go.Proofs.YthhcecllejddeaaGreatDoor

namespace Go.Proofs.YthhcecllejddeaaGreatDoor
open Go.RowKit
section
variable {w w' : World} {l : Lay} {m : MS} {U : Nat → Prop} {p q i j : Nat}
theorem Mk.slt (h : Mk w l U m) : ∃ a cap, w.cell? ⟨l.bs, 0, none⟩ = some (.slice a l.c.table.length cap) ∧ Rd w a (iC l.c.table) := by
 obtain ⟨Fs, h1, _⟩ := h
 obtain ⟨a, cap, h2, h3, _⟩ := h1.cmp .slt trivial
 exact ⟨a, cap, by rw [cell_of_row _ _ _ _ _ _ h2]; rfl, h3.rd⟩
theorem round_any {bs : Nat} {a : Option Addr} {n cap : Nat} (c0 : w.cell? ⟨bs, 0, none⟩ = some (.slice a n cap)) : Calls Tryz.prog 136 #[.pointer (some ⟨bs, 0, none⟩)] w fun e w' => e = .returned (.int .i64 (n : Int)) ∧ w' = w := by
 go_enter Tryz.func136, Tryz.ntmps136
 go_wp2
 go_ret
 exact ⟨rfl, rfl⟩
set_option maxRecDepth 100000 in
set_option maxHeartbeats 1000000 in
theorem owner_any {bs : Nat} {a : Option Addr} {cap : Nat} {tb : List Int} {T : Int} (c0 : w.cell? ⟨bs, 0, none⟩ = some (.slice a tb.length cap)) (hR : Rd w a (iC tb)) (h0 : 0 < tb.length) (h64 : tb.length ≤ 64) (hT : 0 ≤ T) : Calls Tryz.prog 107 #[.pointer (some ⟨bs, 0, none⟩), .int .i64 T] w fun e w' => e = .returned (.int .i64 (tb.getD (T.toNat % tb.length) 0)) ∧ ∃ n, w' = w.drewN n := by
 obtain ⟨b, o, rfl, hc⟩ := rd_int hR h0
 obtain ⟨n, hn⟩ : ∃ n, Hid (tb.length = n) := ⟨_, rfl⟩
 obtain ⟨R, hRR⟩ : ∃ R, Hid (T.toNat % tb.length = R) := ⟨_, rfl⟩
 have hRn : R < n := by rw [← hRR.out, hn.out]; exact Nat.mod_lt _ (by rw [← hn.out]; exact h0)
 have hmod : T.tmod (n : Int) = (R : Int) := by
  rw [← hRR.out, hn.out]
  obtain ⟨t, rfl⟩ : ∃ t : Nat, T = (t : Int) := ⟨T.toNat, by omega⟩
  rw [Int.toNat_natCast]
  exact (Int.ofNat_tmod _ _).symm
 have cR := hc R (by rw [hn.out]; exact hRn)
 rw [hRR.out]
 rw [hn.out] at c0 h0 h64
 generalize tb.getD R 0 = X at *
 have hRn' : (R : Int) < (n : Int) := by omega
 have hn0 : (n : Int) ≠ 0 := by omega
 have hn0' : n ≠ 0 := by omega
 have hT0 : decide (T < 0) = false := by simpa using hT
 have hro : ∀ d, Calls Tryz.prog 136 #[.pointer (some ⟨bs, 0, none⟩)] (w.drewN d) fun e w' => e = .returned (.int .i64 (n : Int)) ∧ w' = w.drewN d := fun d => round_any (w := w.drewN d) c0
 clear hc hR hn hRR
 go_enter Tryz.func107, Tryz.ntmps107
 go_upto_region 3 with fail
 go_quiet (first | (go_at_call 136; exact Calls.quiet_of_same (hro _)))
 go_wp2
 go_ret
 exact ⟨rfl, _, rfl⟩
theorem Mk.setTick (h : Mk w l U m) (t : Int) : MkOut w l U { m with tick := t } (w.setCell ⟨l.bm, 9, none⟩ (.int .i64 t)) := by
 obtain ⟨F, ⟨k1, k2, k3, k4, k5, k6, k7, k8⟩, hFU, hgo⟩ := h.open_ .head trivial
 have hm := mod_set w l.bm 9 (.int .i64 t)
 have hx : (w.setCell ⟨l.bm, 9, none⟩ (.int .i64 t)).heap[l.bm]? = some (.cells (maA l t) 99 (0, 0)) := by rw [heap_setCell_self k1]; rfl
 refine hgo _ _ (fun k => k = l.bm ∨ blk l.ap = some k ∨ blk l.aq = some k) (hm.mono (fun k _ e => by rw [e]; exact k6)) ⟨hx, k2.mod hm (fun k hk e => k4 (by rw [← e]; exact hk)), k3.mod hm (fun k hk e => k5 (by rw [← e]; exact hk)), k4, k5, .inl rfl, fun k hk => .inr (.inl hk), fun k hk => .inr (.inr hk)⟩ ?_ ?_ (fun y hy => agr_tick hy)
 ·rintro k (rfl | hk | hk)
  ·exact .inl k6
  ·exact .inl (k7 k hk)
  ·exact .inl (k8 k hk)
 ·rintro k (rfl | hk | hk)
  ·exact (Array.getElem?_eq_some_iff.1 hx).1
  ·exact Nat.lt_of_lt_of_le (k2.lt k hk) hm.size
  ·exact Nat.lt_of_lt_of_le (k3.lt k hk) hm.size
theorem ownerC_lt {c : Cfg} (hc : CfgOk c) (m : MS) : ownerM c m < c.labels.length ∧ c.table.getD (m.tick.toNat % c.table.length) 0 = (ownerM c m : Int) := by
 have h1 := hc.t1
 have := hc.tab (m.tick.toNat % c.table.length) (Nat.mod_lt _ (by omega))
 unfold ownerM
 omega
theorem modT_modT {m : MS} {i : Nat} {f g : PtS → PtS} (hi : i < m.pt.length) : (m.modT i f).modT i g = m.modT i (fun x => g (f x)) := by
 have h1 := ptOf_same (h := f) hi
 unfold MS.modT at *
 simp only [h1, List.set_set]
theorem modT_id {m : MS} {i : Nat} {f : PtS → PtS} (hi : i < m.pt.length) (hf : f (ptOf m i) = ptOf m i) : m.modT i f = m := by
 unfold MS.modT
 rw [hf]
 have : m.pt.set i (ptOf m i) = m.pt := by
  unfold ptOf
  rw [List.getD_eq_getElem?_getD, List.getElem?_eq_getElem hi]
  simp
 rw [this]
end
end Go.Proofs.YthhcecllejddeaaGreatDoor

namespace Go.Proofs.YthhcecllejddeaaGreatDoor
open Go.RowKit
theorem Shp.wakes {c : Cfg} : ∀ (L : List Nat) {m : MS}, Shp c m → (∀ q ∈ L, q < c.procs.length) → Shp c (wakeM m L)
 | [], _, h, _ => h
 | q :: r, m, h, hq => by
  have hqq := hq q List.mem_cons_self
  have ht := h.tim q hqq
  have h0 := h.t0
  have h1 : Shp c (m.modP q (dueP m.tick)) := h.modP hqq (by
   rw [← fire_due]
   exact h.ls hqq) (by
   rw [← fire_due]
   unfold fireP zeroP
   simp only
   split <;> split <;> omega)
  exact Shp.wakes r h1 (fun x hx => hq x (List.mem_cons_of_mem _ hx))
def slotOn (c : Cfg) (i f n : Nat) (m : MS) : Option Nat → MS
 | none => m
 | some k => slotM c i f (stepM c (m.modT i fun t => { t with cur := (k + 1) % n }) ((ofL c i).getD k 0))
theorem slot_succ (c : Cfg) (i f : Nat) (m : MS) : slotM c i (f + 1) m = slotOn c i f (ofL c i).length m (nextR m (ofL c i) (ptOf m i).cur 0 (ofL c i).length) := by
 rw [slotM]
 cases nextR m (ofL c i) (ptOf m i).cur 0 (ofL c i).length <;> rfl
theorem next_found {m : MS} {l : List Nat} {cur j f : Nat} (h : (prOf m (l.getD ((cur + j) % l.length) 0)).st = 0) : nextR m l cur j (f + 1) = some ((cur + j) % l.length) := by
 unfold nextR
 rw [if_pos h]
theorem next_on {m : MS} {l : List Nat} {cur j f : Nat} (h : (prOf m (l.getD ((cur + j) % l.length) 0)).st ≠ 0) : nextR m l cur j (f + 1) = nextR m l cur (j + 1) f := by
 rw [nextR, if_neg h]
section
variable {w w' : World} {l : Lay} {m : MS} {U : Nat → Prop} {p q i j : Nat}
set_option maxRecDepth 100000 in
set_option maxHeartbeats 8000000 in
theorem tick_m (h : Mk w l U m) (hs : Shp l.c m) (hc : CfgOk l.c) (ht : m.tick ≤ 6917529027641081856) : Calls Tryz.prog 81 #[.pointer (some ⟨l.bm, 0, none⟩)] w fun e w' => e = .returned (.int .i64 (ownerM l.c m : Int)) ∧ MkOut w l U (tickM l.c m) w' := by
 have ht0 := hs.t0
 obtain ⟨i, hi⟩ : ∃ i, Hid (ownerM l.c m = i) := ⟨_, rfl⟩
 obtain ⟨hil, htb⟩ := ownerC_lt hc m
 have hil' : i < l.c.labels.length := by rw [← hi.out]; exact hil
 have hil2 : (i : Int) < (l.c.labels.length : Int) := by omega
 rw [hi.out] at htb ⊢
 have em : tickM l.c m = { slotM l.c i l.c.fuel.toNat (wakeM m (ofL l.c i)) with tick := (slotM l.c i l.c.fuel.toNat (wakeM m (ofL l.c i))).tick + 1 } := by unfold tickM; simp only [hi.out]
 rw [em]
 obtain ⟨m2, m5, m7, m8, m9, m10, m11, mf⟩ := h.maC
 obtain ⟨gp, ag, cg⟩ := h.partPtr hil'
 rw [ag] at m10
 have how : ∀ d, Calls Tryz.prog 107 #[.pointer (some ⟨l.bs, 0, none⟩), .int .i64 m.tick] (w.drewN d) fun e w' => e = .returned (.int .i64 (i : Int)) ∧ ∃ k, w' = (w.drewN d).drewN k := fun d => by
  obtain ⟨a, cap, h1, h2⟩ := (h.below (below_draw w d)).slt
  rw [← htb]
  exact owner_any h1 h2 (by have := hc.t1; omega) hc.t64 ht0
 have HW : Hid (∀ d, Calls Tryz.prog 108 #[.pointer (some ⟨l.bm, 0, none⟩), .pointer (some ⟨l.bp i, 0, none⟩)] (w.drewN d) fun e w' => e = .returned (.tuple #[]) ∧ MkOut w l U (wakeM m (ofL l.c i)) w') := hd (fun d => (wake_m (h.below (below_draw w d)) hs hc hil').mono (fun e w1 ho => ⟨ho.1, MkOut.ahead (below_draw w d) ho.2⟩))
 have hall : ∀ q ∈ ofL l.c i, q < l.c.procs.length := fun q hq => (mem_ofL.1 hq).1
 have HS0 : Hid (Shp l.c (wakeM m (ofL l.c i))) := hd (Shp.wakes _ hs hall)
 have HT0 : Hid ((wakeM m (ofL l.c i)).tick = m.tick) := hd (wake_at (ofL l.c i) (p := 0) (ofL_nodup l.c i) (fun q hq => by rw [hs.nq]; exact hall q hq)).1
 obtain ⟨m0, hm0⟩ : ∃ x, Hid (wakeM m (ofL l.c i) = x) := ⟨_, rfl⟩
 obtain ⟨Fu, hFu⟩ : ∃ f : Nat, l.c.fuel = (f : Int) := ⟨l.c.fuel.toNat, by have := hc.f1; omega⟩
 have hF256 : Fu ≤ 256 := by have := hc.f256; omega
 rw [hFu, Int.toNat_natCast]
 replace hFu := hd hFu
 rw [hm0.out] at HW HS0 HT0 ⊢
 obtain ⟨S, hS⟩ : ∃ x, Hid (slotM l.c i Fu m0 = x) := ⟨_, rfl⟩
 rw [hS.out]
 obtain ⟨T, hT⟩ : ∃ T, Hid (m.tick = T) := ⟨_, rfl⟩
 rw [hT.out] at ht ht0 m9 how HT0
 have HC := hd hc
 have HIL := hd hil'
 obtain ⟨n, hn⟩ : ∃ n, Hid ((ofL l.c i).length = n) := ⟨_, rfl⟩
 have hn32 : n ≤ 32 := by have := ofL_len l.c i; have := hn.out; have := hc.p32; omega
 have hst : Hid (S.tick = T → ∀ (wr : World) (U1 : Nat → Prop), To w U wr U1 → Mk wr l U1 S → ∃ U2, wr.cell? ⟨l.bm, 9, none⟩ = some (.int .i64 T) ∧ wr.frozen? ⟨l.bm, 9, none⟩ = false ∧ (wr.setCell ⟨l.bm, 9, none⟩ (.int .i64 (T + 1))).cell? ⟨l.bp i, 0, none⟩ = some (.int .i64 (i : Int)) ∧ MkOut w l U { S with tick := S.tick + 1 } (wr.setCell ⟨l.bm, 9, none⟩ (.int .i64 (T + 1))) ∧ U2 = U1) := hd (fun hST wr U1 t1 k1 => by
  have e1 := k1.maC
  obtain ⟨U2, t2, k2⟩ := (k1.setTick (T + 1)).get
  refine ⟨U1, by rw [← hST]; exact e1.2.2.2.2.1, e1.2.2.2.2.2.2.2 9, (k2.paC HIL.out).1, ?_, rfl⟩
  rw [hST]
  exact (t1.trans t2).mk k2)
 clear h hs hc hil hil' htb em hall hm0 ag hi hT
 go_enter Tryz.func81, Tryz.ntmps81
 go_wp2_with fail
 go_step3
 go_upto_region 1 with fail
 go_quiet (first | (go_at_call 107; exact Calls.quiet_of (how _)))
 have hw1 := HW.out nq
 go_wp2_with (go_at_call 108; refine hw1.mono ?_; rintro e w1 ⟨rfl, ho⟩; clear hw1)
 go_step3
 obtain ⟨U1, t1, k1⟩ := ho.get
 have z2 := k1.maC.1
 rw [hFu.out] at z2
 have HB0 : Hid (∃ mc U1, To w U w1 U1 ∧ Mk w1 l U1 mc ∧ Shp l.c mc ∧ mc.tick = T ∧ slotM l.c i Fu mc = S) := hd ⟨m0, U1, t1, k1, HS0.out, HT0.out, hS.out⟩
 clear m2 m5 m7 m8 m9 m10 m11 mf cg how HW ho t1 k1 HS0 HT0 hS
 go_wp2_with fail
 go_loopg [28] Fu (fun k v28 wr => ∃ f : Nat, v28 = .int .i64 (f : Int) ∧ f + k = Fu ∧ Hid (∃ mc U1, To w U wr U1 ∧ Mk wr l U1 mc ∧ Shp l.c mc ∧ mc.tick = T ∧ slotM l.c i k mc = S))
 case atStart => exact ⟨0, rfl, by omega, HB0⟩
 case round =>
  obtain ⟨f, rfl, hfk, HH⟩ := hrel
  clear HB0 z2
  obtain ⟨mc, U1, t1, k1, hsc, htc, hsl⟩ := HH.out
  clear HH
  by_cases hlt : f < Fu
  ·have hlt' : (f : Int) < (Fu : Int) := by omega
   obtain ⟨K, rfl⟩ : ∃ K, gk = K + 1 := ⟨gk - 1, by omega⟩
   have hcp : i < mc.pt.length := by rw [hsc.np]; exact HIL.out
   obtain ⟨cu, hcu⟩ : ∃ x, Hid ((ptOf mc i).cur = x) := ⟨_, rfl⟩
   have hcu0 : cu % n = cu := by
    have := hsc.cur i HIL.out
    rw [hcu.out, hn.out] at this
    rcases this with h | h
    ·rw [h]; exact Nat.zero_mod n
    ·exact Nat.mod_eq_of_lt h
   have hid : mc.modT i (fun t => { t with cur := (cu + 0) % n }) = mc := modT_id hcp (by rw [Nat.add_zero, hcu0, ← hcu.out])
   have n1 := (k1.paC HIL.out).2.1
   rw [hn.out] at n1
   obtain ⟨R, hR⟩ : ∃ R, Hid (nextR mc (ofL l.c i) cu 0 n = R) := ⟨_, rfl⟩
   have HB1 : Hid (∃ U1, To w U wr U1 ∧ Mk wr l U1 (mc.modT i fun t => { t with cur := (cu + 0) % n }) ∧ nextR mc (ofL l.c i) cu 0 (n - 0) = R) := hd ⟨U1, t1, by rw [hid]; exact k1, hR.out⟩
   have HSL : Hid (slotOn l.c i K n mc R = S) := hd (by rw [slot_succ, hcu.out, hn.out, hR.out] at hsl; exact hsl)
   have HSC := hd hsc
   have HTC := hd htc
   have HCP := hd hcp
   have HCU := hd hcu0
   obtain ⟨wo, hwo⟩ : ∃ W, W = wr := ⟨_, rfl⟩
   clear t1 k1 hsl hid hR hsc htc hcp hcu0
   go_wp2_with fail
   go_loopg [35] n (fun k v35 wr => ∃ j : Nat, v35 = .int .i64 (j : Int) ∧ j + k = n ∧ Hid (∃ U1, To w U wr U1 ∧ Mk wr l U1 (mc.modT i fun t => { t with cur := (cu + j) % n }) ∧ nextR mc (ofL l.c i) cu j (n - j) = R))
   case atStart => exact ⟨0, rfl, by omega, HB1⟩
   case round =>
    obtain ⟨j, rfl, hjk, HH⟩ := hrel
    clear HB1 n1
    obtain ⟨U1, t1, k1, hnx⟩ := HH.out
    clear HH
    by_cases hj : j < n
    ·have hj' : (j : Int) < (n : Int) := by omega
     have hkn : (cu + j) % n < n := Nat.mod_lt _ (by omega)
     have hS1 : Shp l.c (mc.modT i fun t => { t with cur := (cu + j) % n }) := HSC.out.modO HIL.out (fun _ => rfl) (fun _ => rfl) (.inr (by rw [hn.out]; exact hkn)) (HSC.out.log i HIL.out) (HSC.out.cnt i HIL.out)
     have hnext := next_m k1 hS1 HC.out HIL.out hn (hd (by rw [ptOf_same HCP.out])) hkn
     have hcj : ((cu + j) % n + 1) % n = (cu + (j + 1)) % n := by rw [Nat.mod_add_mod, Nat.add_assoc]
     rw [hcj, modT_modT HCP.out] at hnext
     have hqm : (ofL l.c i).getD ((cu + j) % n) 0 ∈ ofL l.c i := ofL_at (by rw [hn.out]; exact hkn)
     have hnj : n - j = (n - (j + 1)) + 1 := by omega
     rw [hnj] at hnx
     have hfd := @next_found mc (ofL l.c i) cu j (n - (j + 1))
     have hon := @next_on mc (ofL l.c i) cu j (n - (j + 1))
     rw [hn.out] at hfd hon
     have hS2 : Hid (Shp l.c (mc.modT i fun t => { t with cur := (cu + (j + 1)) % n })) := hd (HSC.out.modO HIL.out (fun _ => rfl) (fun _ => rfl) (.inr (by rw [hn.out]; exact Nat.mod_lt _ (by omega))) (HSC.out.log i HIL.out) (HSC.out.cnt i HIL.out))
     obtain ⟨q, hq⟩ : ∃ q, Hid ((ofL l.c i).getD ((cu + j) % n) 0 = q) := ⟨_, rfl⟩
     rw [hq.out] at hnext hqm hfd hon
     have hqn := (mem_ofL.1 hqm).1
     obtain ⟨mj, hmj⟩ : ∃ x, Hid ((mc.modT i fun t => { t with cur := (cu + (j + 1)) % n }) = x) := ⟨_, rfl⟩
     have hpr : prOf mj q = prOf mc q := by rw [← hmj.out]; rfl
     have htj : mj.tick = T := by rw [← hmj.out]; exact HTC.out
     rw [hmj.out] at hnext hS2
     clear k1 hS1
     by_cases hst0 : (prOf mc q).st = 0
     ·have hR : R = some ((cu + j) % n) := by rw [← hnx]; exact hfd hst0
      have HSL2 : Hid (slotM l.c i K (stepM l.c mj q) = S) := hd (by
       have h2 := HSL.out
       rw [hR] at h2
       have h3 : slotM l.c i K (stepM l.c (mc.modT i fun t => { t with cur := ((cu + j) % n + 1) % n }) ((ofL l.c i).getD ((cu + j) % n) 0)) = S := h2
       rw [hcj, hmj.out, hq.out] at h3
       exact h3)
      have HST : Hid (Shp l.c (stepM l.c mj q) ∧ (stepM l.c mj q).tick = T) := hd ⟨hS2.out.stepS HC.out hqn, by rw [step_tick]; exact htj⟩
      have HQN := hd hqn
      have HTJ := hd htj
      have HPR := hd hpr
      have HT1 := hd t1
      have HZ := hd hst0
      clear hR hnx hfd hon hqm hcj hkn t1 hqn htj hpr hst0 hnj HSL
      go_upto_region 8 with (go_at_call 109; refine hnext.mono ?_; rintro e w2 ⟨rfl, ho⟩; clear hnext)
      obtain ⟨U2, t2, k2⟩ := ho.get
      have x3 := (k2.prC HQN.out).c3
      rw [HPR.out, HZ.out] at x3
      have hstp := step_m k2 hS2.out HC.out HQN.out (by rw [HTJ.out]; exact ht)
      replace HT1 := hd (HT1.out.trans t2)
      clear ho k2 t2
      go_wp2_with (go_at_call 110; refine hstp.mono ?_; rintro e w3 ⟨rfl, ho⟩; clear hstp)
      go_roundg K
      case rel =>
       obtain ⟨U3, t3, k3⟩ := ho.get
       exact ⟨f + 1, by go_num, by omega, hd ⟨stepM l.c mj q, U3, HT1.out.trans t3, k3, HST.out.1, HST.out.2, HSL2.out⟩⟩
      case measure => omega
     ·have hnx2 : Hid (nextR mc (ofL l.c i) cu (j + 1) (n - (j + 1)) = R) := hd (by rw [← hon hst0]; exact hnx)
      have e0 : ((prOf mc q).st == 0) = false := by simpa using hst0
      have HQN := hd hqn
      have HPR := hd hpr
      have HT1 := hd t1
      clear hnx hfd hon hqm hcj hkn t1 hqn htj hpr hst0 hnj
      go_upto_region 8 with (go_at_call 109; refine hnext.mono ?_; rintro e w2 ⟨rfl, ho⟩; clear hnext)
      obtain ⟨U2, t2, k2⟩ := ho.get
      have x3 := (k2.prC HQN.out).c3
      rw [HPR.out] at x3
      have HN : Hid (∃ U1, To w U w2 U1 ∧ Mk w2 l U1 (mc.modT i fun t => { t with cur := (cu + (j + 1)) % n }) ∧ nextR mc (ofL l.c i) cu (j + 1) (n - (j + 1)) = R) := hd ⟨U2, HT1.out.trans t2, by rw [hmj.out]; exact k2, hnx2.out⟩
      clear ho k2 t2
      go_wp2_with fail
      go_roundg (gk - 1)
      case rel => exact ⟨j + 1, by go_num, by omega, HN⟩
      case measure => omega
    ·obtain rfl : j = n := by omega
     have hR : R = none := by rw [← hnx, Nat.sub_self]; rfl
     have hmS : mc = S := by
      have h2 := HSL.out
      rw [hR] at h2
      exact h2
     have hid : mc.modT i (fun t => { t with cur := (cu + j) % j }) = mc := modT_id HCP.out (by rw [Nat.add_mod_right, HCU.out, ← hcu.out])
     rw [hid] at k1
     obtain rfl : mc = S := hmS
     obtain ⟨U2, a1, a2, a3, a4, -⟩ := hst.out HTC.out wr U1 t1 k1
     replace a4 := hd a4
     clear k1 hR hid hnx hst t1 HSL
     go_wp2_with fail
     rw [Exit.noGoto_ret]
     go_ret
     exact ⟨rfl, a4.out⟩
  ·obtain rfl : gk = 0 := by omega
   obtain rfl : mc = S := hsl
   obtain ⟨U2, a1, a2, a3, a4, -⟩ := hst.out htc wr U1 t1 k1
   replace a4 := hd a4
   clear k1 hsc hst t1
   go_wp2_with fail
   rw [Exit.noGoto_ret]
   go_ret
   exact ⟨rfl, a4.out⟩
end
end Go.Proofs.YthhcecllejddeaaGreatDoor

namespace Go.Proofs.YthhcecllejddeaaGreatDoor
open Go.RowKit
theorem nextR_lt {m : MS} {l : List Nat} {cur : Nat} (hl : 0 < l.length) : ∀ (f k : Nat) {i : Nat}, nextR m l cur k f = some i → i < l.length
 | 0, _, _, h => by cases h
 | f + 1, k, i, h => by
  rw [nextR] at h
  split at h
  ·cases h
   exact Nat.mod_lt _ hl
  ·exact nextR_lt hl f (k + 1) h
theorem Shp.slots {c : Cfg} {i : Nat} (hc : CfgOk c) (hi : i < c.labels.length) : ∀ (f : Nat) {m : MS}, Shp c m → Shp c (slotM c i f m)
 | 0, _, h => h
 | f + 1, m, h => by
  rw [slot_succ]
  cases hn : nextR m (ofL c i) (ptOf m i).cur 0 (ofL c i).length with
  | none => exact h
  | some k =>
   have hl : 0 < (ofL c i).length := by
    rcases Nat.eq_zero_or_pos (ofL c i).length with e | e
    ·rw [e] at hn
     cases hn
    ·exact e
   have hk := nextR_lt hl _ _ hn
   have h1 : Shp c (m.modT i fun t => { t with cur := (k + 1) % (ofL c i).length }) := h.modO hi (fun _ => rfl) (fun _ => rfl) (.inr (Nat.mod_lt _ hl)) (h.log i hi) (h.cnt i hi)
   exact Shp.slots hc hi f (h1.stepS hc (mem_ofL.1 (ofL_at hk)).1)
theorem Shp.next {c : Cfg} {m : MS} (h1 : Shp c m) : Shp c { m with tick := m.tick + 1 } := by
 have h0 := h1.t0
 refine ⟨h1.np, h1.nq, by simp only; omega, h1.lk, h1.own, h1.que, h1.cur, h1.log, h1.cnt, h1.ln, h1.room, h1.wai, fun p hp => ?_⟩
 obtain ⟨⟨a1, a2⟩, a3, a4⟩ := h1.tim p hp
 exact ⟨⟨a1, Int.le_trans a2 (by simp only; omega)⟩, a3, Int.le_trans a4 (by simp only; omega)⟩
theorem Shp.ticks {c : Cfg} {m : MS} (h : Shp c m) (hc : CfgOk c) : Shp c (tickM c m) :=
 (Shp.slots hc (ownerC_lt hc m).1 c.fuel.toNat (h.wakes (ofL c (ownerM c m)) (fun _ hq => (mem_ofL.1 hq).1))).next
end Go.Proofs.YthhcecllejddeaaGreatDoor
