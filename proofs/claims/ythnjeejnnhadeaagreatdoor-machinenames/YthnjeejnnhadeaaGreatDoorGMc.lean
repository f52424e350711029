/- Sends. -/
import Derived.Test.YthnjeejnnhadeaaGreatDoorGMb
import Derived.Test.YthnjeejnnhadeaaGreatDoorGPc
import Derived.LaidEqlPtr
namespace Go.Proofs.YthnjeejnnhadeaaGreatDoor
open Go.RowKit
theorem to_drew {w w1 : World} {U U1 : Nat → Prop} (h : To w U w1 U1) : To w U w1.drew U1 := h.bel (bel_drew w1)
theorem Mk.drew {w : World} {l : Lay} {U : Nat → Prop} {m : MS} (h : Mk w l U m) : Mk w.drew l U m := h.below (bel_drew w)
section
variable {w w' : World} {l : Lay} {m : MS} {U : Nat → Prop} {p q i : Nat}
theorem Mk.setSt (h : Mk w l U m) (hs : Shp l.c m) (hp : p < l.c.procs.length) (s : Int) : MkOut w l U (m.modP p fun x => { x with st := s }) (w.setCell ⟨l.bq p, 3, none⟩ (.int .i64 s)) :=
 h.putProc hs hp (fun _ => rfl) (fun _ => rfl) (fun _ => rfl) (fun _ => rfl) (mod_set _ _ _ _) (putS_at (h.procAt hp) s)
theorem Mk.setFired (h : Mk w l U m) (hs : Shp l.c m) (hp : p < l.c.procs.length) (s : Bool) : MkOut w l U (m.modP p fun x => { x with fired := s }) (w.setCell ⟨l.bq p, 13, none⟩ (.bool s)) :=
 h.putProc hs hp (fun _ => rfl) (fun _ => rfl) (fun _ => rfl) (fun _ => rfl) (mod_set _ _ _ _) (putF_at (h.procAt hp) s)
set_option maxRecDepth 100000 in
set_option maxHeartbeats 2000000 in
theorem within_m (h : Mk w l U m) (hs : Shp l.c m) (hc : CfgOk l.c) (hp : p < l.c.procs.length) (hq : q < l.c.procs.length) (v : Int) : Calls Tryz.prog 169 #[.pointer (some ⟨l.bq p, 0, none⟩), .pointer (some ⟨l.bq q, 0, none⟩), .int .i64 v] w fun e w' => e = .returned (.tuple #[]) ∧ MkOut w l U (withinM l.c m p q v) w' := by
 have hpa := hc.pa_lt hp
 have c3 := (h.prC hq).c3
 have p1 := (h.prC hp).c1
 have n0 := (h.paC hpa).1
 have hen := ended_any (prOf m q).st w
 by_cases e1 : ended (prOf m q).st = true
 ·have em : withinM l.c m p q v = toldM l.c m p 2 := by unfold withinM; rw [if_pos e1]
  rw [em]
  rw [e1] at hen
  have ht := told_m h hs hp 2
  clear h hs em e1 hpa hp hq
  go_enter Tryz.func169, Tryz.ntmps169
  go_wp2_with (first
   | (go_at_call 112; refine hen.mono ?_; rintro e w1 ⟨rfl, rfl⟩; clear hen)
   | (go_at_call 121; refine ht.mono ?_; rintro e w1 ⟨rfl, ho⟩; clear ht))
  refine bodyPost_ret (results_none rfl _ _ _) rfl ?_
  exact ⟨rfl, ho⟩
 ·have e1 : ended (prOf m q).st = false := by simpa using e1
  rw [e1] at hen
  have hput := mput_any h hs hq (pa l.c p) v
  by_cases e2 : putE m q (pa l.c p) v = 19
  ·have em : withinM l.c m p q v = ((putM m q (pa l.c p) v).modP p fun x => { x with st := 2 }).modP q fun x => { x with ss := (Lane.waitP x.ss (pa l.c p) p v).2 } := by unfold withinM; rw [e1, if_neg (by simp), if_pos e2]
   rw [em]
   rw [e2] at hput
   have HC := hd hc
   have HS := hd (hs.put hq (pa l.c p) v)
   have HP := hd hp
   have HQ := hd hq
   have HA := hd hpa
   generalize putM m q (pa l.c p) v = m1 at *
   generalize pa l.c p = lane at *
   obtain ⟨m2, hm2⟩ : ∃ M, Hid ((m1.modP p fun x => { x with st := 2 }) = M) := ⟨_, rfl⟩
   rw [hm2.out]
   clear h hs em e1 e2 hpa hp hq hc
   go_enter Tryz.func169, Tryz.ntmps169
   go_upto_region 4 with (first
    | (go_at_call 112; refine hen.mono ?_; rintro e w1 ⟨rfl, rfl⟩; clear hen)
    | (go_at_call 53; refine hput.mono ?_; rintro e w1 ⟨rfl, ho⟩; clear hput))
   obtain ⟨U1, t1, k1⟩ := ho.get
   clear ho c3 p1 n0
   obtain ⟨U2, t2, k2⟩ := (k1.setSt HS.out HP.out 2).get
   have x3 := (k1.prC HP.out).c3
   have xf := (k1.prC HP.out).fr
   replace HS := hd (HS.out.modS (f := fun x => { x with st := 2 }) HP.out (fun _ => rfl) (fun _ => rfl) (fun _ => rfl) (fun _ => rfl))
   replace t1 := hd (t1.trans t2)
   replace k2 := hd k2
   clear k1 t2
   go_upto_region 5 with fail
   obtain ⟨w2, hw2⟩ : ∃ W, Hid (w1.setCell ⟨l.bq p, 3, none⟩ (.int .i64 2) = W) := ⟨_, rfl⟩
   rw [hw2.out] at k2 t1 ⊢
   clear hw2 x3 xf
   rw [hm2.out] at k2 HS
   have y0 := (k2.out.prC HP.out).c0
   have y14 := (k2.out.prC HQ.out).c14
   obtain ⟨F, hF, hgo⟩ := k2.out.drew.lanes HS.out HQ.out
   have hwt := Lane.pwait_any hF (HS.out.ls HQ.out).good (fun s hs => Nat.le_trans ((HS.out.ls HQ.out).few HC.out s hs) (by decide)) lane p v
   have HE : Hid (∀ w3, Lane.PsOut w2.drew 188 249 185 (l.bo q) F (Lane.waitP (prOf m2 q).ss lane p v).2 (prOf m2 q).lc w3 → MkOut w l U (m2.modP q fun x => { x with ss := (Lane.waitP x.ss lane p v).2 }) w3) := hd (fun w3 ho => (to_drew t1.out).out (hgo w3 (fun x => { x with ss := (Lane.waitP x.ss lane p v).2 }) (fun _ => rfl) (fun _ => rfl) (fun _ => rfl) (fun _ => rfl) (fun _ => rfl) ho))
   clear hgo hF k2 t1
   go_region_law (first | (go_simp; with_reducible refine hwt.mono ?_; rintro e w3 ⟨rfl, ho⟩))
   all_goals go_wp2_with fail
   all_goals (refine bodyPost_ret (results_none rfl _ _ _) rfl ?_)
   all_goals exact ⟨rfl, HE.out w3 ho⟩
  ·have em : withinM l.c m p q v = toldM l.c (putM m q (pa l.c p) v) p 0 := by unfold withinM; rw [e1, if_neg (by simp), if_neg e2]
   rw [em]
   have e2' : (putE m q (pa l.c p) v == 19) = false := by simpa using e2
   have HS := hd (hs.put hq (pa l.c p) v)
   have HP := hd hp
   generalize putM m q (pa l.c p) v = m1 at *
   generalize putE m q (pa l.c p) v = E at *
   generalize pa l.c p = lane at *
   clear h hs em e1 e2 hpa hp hq hc
   go_enter Tryz.func169, Tryz.ntmps169
   go_wp2_with (first
    | (go_at_call 112; refine hen.mono ?_; rintro e w1 ⟨rfl, rfl⟩; clear hen)
    | (go_at_call 53; refine hput.mono ?_; rintro e w1 ⟨rfl, ho⟩; clear hput; obtain ⟨U1, t1, k1⟩ := ho.get; have ht := told_m k1 HS.out HP.out 0; replace t1 := hd t1; clear ho k1)
    | (go_at_call 121; refine ht.mono ?_; rintro e w2 ⟨rfl, ho⟩; clear ht))
   go_end0
   exact ⟨rfl, t1.out.out ho⟩
set_option maxRecDepth 100000 in
set_option maxHeartbeats 2000000 in
theorem up_m (h : Mk w l U m) (hs : Shp l.c m) (hc : CfgOk l.c) (hp : p < l.c.procs.length) (hq : q < l.c.procs.length) (v : Int) : Calls Tryz.prog 170 #[.pointer (some ⟨l.bq p, 0, none⟩), .pointer (some ⟨l.bq q, 0, none⟩), .int .i64 v] w fun e w' => e = .returned (.tuple #[]) ∧ MkOut w l U (upM l.c m p q v) w' := by
 have hpa := hc.pa_lt hp
 have c3 := (h.prC hq).c3
 have p1 := (h.prC hp).c1
 have n0 := (h.paC hpa).1
 have hen := ended_any (prOf m q).st w
 have HDr : Hid (∀ (W : World) (V : Nat → Prop) (mm : MS), Mk W l V mm → Shp l.c mm → Calls Tryz.prog 54 #[.pointer (some ⟨l.bo q, 0, none⟩), .int .i64 (pa l.c p : Int)] W fun e w' => e = .returned (.tuple #[]) ∧ MkOut W l V (dropM mm q (pa l.c p)) w') := hd (fun W V mm hk hsk => by
  obtain ⟨F, hF, hgo⟩ := hk.lanes hsk hq
  refine (Lane.pdrop_any hF (hsk.ls hq).good (pa l.c p)).mono ?_
  rintro e w1 ⟨rfl, ho⟩
  exact ⟨rfl, hgo w1 (fun x => { x with ss := Lane.dropP x.ss (pa l.c p) }) (fun _ => rfl) (fun _ => rfl) (fun _ => rfl) (fun _ => rfl) (fun _ => rfl) ho⟩)
 by_cases e1 : ended (prOf m q).st = true
 ·have em : upM l.c m p q v = toldM l.c (dropM m q (pa l.c p)) p 0 := by unfold upM; rw [if_pos e1]
  rw [em]
  rw [e1] at hen
  have c14 := (h.prC hq).c14
  have hdr := HDr.out w U m h hs
  have HS := hd (hs.drop hq (pa l.c p))
  have HP := hd hp
  clear HDr h hs em e1 hpa hp hq
  generalize pa l.c p = lane at *
  go_enter Tryz.func170, Tryz.ntmps170
  go_wp2_with (first
   | (go_at_call 112; refine hen.mono ?_; rintro e w1 ⟨rfl, rfl⟩; clear hen)
   | (go_at_call 54; refine hdr.mono ?_; rintro e w1 ⟨rfl, ho⟩; clear hdr; obtain ⟨U1, t1, k1⟩ := ho.get; have ht := told_m k1 HS.out HP.out 0; replace t1 := hd t1; clear ho k1)
   | (go_at_call 121; refine ht.mono ?_; rintro e w1 ⟨rfl, ho⟩; clear ht))
  go_end0
  exact ⟨rfl, t1.out.out ho⟩
 ·have e1 : ended (prOf m q).st = false := by simpa using e1
  rw [e1] at hen
  have hput := mput_any h hs hq (pa l.c p) v
  have HP := hd hp
  have HQ := hd hq
  have HS := hd (hs.put hq (pa l.c p) v)
  by_cases e2 : putE m q (pa l.c p) v = 19
  ·have em : upM l.c m p q v = toldM l.c (dropM (putM m q (pa l.c p) v) q (pa l.c p)) p 0 := by unfold upM; rw [e1, if_neg (by simp), if_pos e2]
   rw [em]
   rw [e2] at hput
   generalize putM m q (pa l.c p) v = m1 at *
   generalize pa l.c p = lane at *
   clear h hs em e1 e2 hpa hp hq hc
   go_enter Tryz.func170, Tryz.ntmps170
   go_wp2_with (first
    | (go_at_call 112; refine hen.mono ?_; rintro e w1 ⟨rfl, rfl⟩; clear hen)
    | (go_at_call 53; refine hput.mono ?_; rintro e w1 ⟨rfl, ho⟩; clear hput; obtain ⟨U1, t1, k1⟩ := ho.get; have hdr := HDr.out w1 U1 m1 k1 HS.out; have c14 := (k1.prC HQ.out).c14; replace t1 := hd t1; clear ho k1)
    | (go_at_call 54; refine hdr.mono ?_; rintro e w2 ⟨rfl, ho⟩; clear hdr; obtain ⟨U2, t2, k2⟩ := ho.get; have ht := told_m k2 (HS.out.drop HQ.out lane) HP.out 0; replace t1 := hd (t1.out.trans t2); clear ho k2 t2)
    | (go_at_call 121; refine ht.mono ?_; rintro e w3 ⟨rfl, ho⟩; clear ht))
   go_end0
   exact ⟨rfl, t1.out.out ho⟩
  ·have em : upM l.c m p q v = toldM l.c (putM m q (pa l.c p) v) p 0 := by unfold upM; rw [e1, if_neg (by simp), if_neg e2]
   rw [em]
   have e2' : (putE m q (pa l.c p) v == 19) = false := by simpa using e2
   generalize putM m q (pa l.c p) v = m1 at *
   generalize putE m q (pa l.c p) v = E at *
   generalize pa l.c p = lane at *
   clear HDr h hs em e1 e2 hpa hp hq hc
   go_enter Tryz.func170, Tryz.ntmps170
   go_wp2_with (first
    | (go_at_call 112; refine hen.mono ?_; rintro e w1 ⟨rfl, rfl⟩; clear hen)
    | (go_at_call 53; refine hput.mono ?_; rintro e w1 ⟨rfl, ho⟩; clear hput; obtain ⟨U1, t1, k1⟩ := ho.get; have ht := told_m k1 HS.out HP.out 0; replace t1 := hd t1; clear ho k1)
    | (go_at_call 121; refine ht.mono ?_; rintro e w2 ⟨rfl, ho⟩; clear ht))
   go_end0
   exact ⟨rfl, t1.out.out ho⟩
end
end Go.Proofs.YthnjeejnnhadeaaGreatDoor

namespace Go.Proofs.YthnjeejnnhadeaaGreatDoor
open Go.RowKit
section
variable {w w' : World} {l : Lay} {m : MS} {U : Nat → Prop} {p q i j : Nat}
theorem Mk.bp_inj (h : Mk w l U m) (hi : i < l.c.labels.length) (hj : j < l.c.labels.length) (hij : i ≠ j) : l.bp i ≠ l.bp j := fun e => by
 obtain ⟨Fs, h1, _⟩ := h
 obtain ⟨_, _, _, _, _, _, _, _, a, _⟩ := h1.cmp (.part i) hi
 obtain ⟨_, _, _, _, _, _, _, _, b, _⟩ := h1.cmp (.part j) hj
 exact h1.ap (.part i) (.part j) hi hj (fun e => hij (by cases e; rfl)) _ a (by rw [e]; exact b)
theorem Mk.putPart (h : Mk w l U m) (hs : Shp l.c m) (hi : i < l.c.labels.length) {f : PtS → PtS} (h1 : ∀ x, (f x).os = x.os) (h2 : ∀ x, (f x).qs = x.qs) (h3 : (f (ptOf m i)).log = (ptOf m i).log)
  (hm : Mod (fun k => k = l.bp i) w w') (hh : ∀ la lc, w.heap[l.bp i]? = some (.cells (paA l i (ptOf m i) la lc) 109 (0, 0)) → w'.heap[l.bp i]? = some (.cells (paA l i (f (ptOf m i)) la lc) 109 (0, 0))) : MkOut w l U (m.modT i f) w' := by
 have hi' : i < m.pt.length := by rw [hs.np]; exact hi
 obtain ⟨F, ⟨la, lc, k1, k2, k3, k4, k5, k6, k7, k8, k9⟩, _, hgo⟩ := h.open_ (.part i) hi
 have hx := hh la lc k1
 refine hgo w' _ (fun k => k = l.bp i ∨ blk (l.ar i) = some k ∨ blk la = some k) (hm.mono (fun k _ e => by rw [e]; exact k7)) ⟨la, lc, by rw [ptOf_same hi']; exact hx, k2.mod hm (fun k hk e => k4 (by rw [← e]; exact hk)), by rw [ptOf_same hi', h3]; exact k3.mod hm (fun k hk e => k5 (by rw [← e]; exact hk)), k4, k5, k6, .inl rfl, fun k hk => .inr (.inl hk), fun k hk => .inr (.inr hk)⟩ ?_ ?_ (fun y hy => agr_part h1 h2 hi' hy)
 ·rintro k (rfl | hk | hk)
  ·exact .inl k7
  ·exact .inl (k8 k hk)
  ·exact .inl (k9 k hk)
 ·rintro k (rfl | hk | hk)
  ·exact (Array.getElem?_eq_some_iff.1 hx).1
  ·exact Nat.lt_of_lt_of_le (k2.lt k hk) hm.size
  ·exact Nat.lt_of_lt_of_le (k3.lt k hk) hm.size
theorem Mk.setForb (h : Mk w l U m) (hs : Shp l.c m) (hi : i < l.c.labels.length) (v : Int) : MkOut w l U (m.modT i fun x => { x with forb := v }) (w.setCell ⟨l.bp i, 5, none⟩ (.int .i64 v)) :=
 h.putPart hs hi (fun _ => rfl) (fun _ => rfl) rfl (mod_set _ _ _ _) (fun la lc e => by rw [heap_setCell_self e]; rfl)
theorem Mk.setLost (h : Mk w l U m) (hs : Shp l.c m) (hi : i < l.c.labels.length) (v : Int) : MkOut w l U (m.modT i fun x => { x with lost := v }) (w.setCell ⟨l.bp i, 4, none⟩ (.int .i64 v)) :=
 h.putPart hs hi (fun _ => rfl) (fun _ => rfl) rfl (mod_set _ _ _ _) (fun la lc e => by rw [heap_setCell_self e]; rfl)
theorem Mk.setCur (h : Mk w l U m) (hs : Shp l.c m) (hi : i < l.c.labels.length) (v : Nat) : MkOut w l U (m.modT i fun x => { x with cur := v }) (w.setCell ⟨l.bp i, 2, none⟩ (.int .i64 (v : Int))) :=
 h.putPart hs hi (fun _ => rfl) (fun _ => rfl) rfl (mod_set _ _ _ _) (fun la lc e => by rw [heap_setCell_self e]; rfl)
theorem more_le {n : Int} (h : 0 ≤ n ∧ n ≤ 65535) : 0 ≤ more n ∧ more n ≤ 65535 := Lane.moreL_le h
theorem infoPart : (Tryz.prog.info? 109).map (·.size) = some 8 := by kernel_rfl
theorem eqP_same (w : World) (a : Addr) : (binOp .eql 100 (.pointer (some a)) (.pointer (some a))).run Tryz.prog w = .ok (.bool true) w := by
 obtain ⟨j, hj, _⟩ := Option.map_eq_some_iff.1 infoPart
 exact run_eql_ptr_same w a Tryz.underlying100 hj
theorem Mk.eqP (h : Mk w l U m) (hi : i < l.c.labels.length) (hj : j < l.c.labels.length) (hij : i ≠ j) : (binOp .eql 100 (.pointer (some ⟨l.bp i, 0, none⟩)) (.pointer (some ⟨l.bp j, 0, none⟩))).run Tryz.prog w = .ok (.bool false) w := by
 obtain ⟨k, hk, hz⟩ := Option.map_eq_some_iff.1 infoPart
 obtain ⟨_, _, h1, _, _⟩ := h.partAt hi
 obtain ⟨_, _, h2, _, _⟩ := h.partAt hj
 exact run_eql_ptr_other w Tryz.underlying100 hk (by rw [hz]; decide) (fun e => h.bp_inj hi hj hij (congrArg Addr.block e)) h1 h2
set_option maxRecDepth 100000 in
set_option maxHeartbeats 4000000 in
theorem send_m (h : Mk w l U m) (hs : Shp l.c m) (hc : CfgOk l.c) (hp : p < l.c.procs.length) (t v : Int) : Calls Tryz.prog 105 #[.pointer (some ⟨l.bm, 0, none⟩), .pointer (some ⟨l.bq p, 0, none⟩), .int .i64 t, .int .i64 v] w fun e w' => e = .returned (.tuple #[]) ∧ MkOut w l U (sendM l.c m p t v) w' := by
 obtain ⟨m2, m5, m7, m8, m9, m10, m11, mf⟩ := h.maC
 have hpa := hc.pa_lt hp
 by_cases e1 : t < 0 ∨ (l.c.procs.length : Int) ≤ t
 ·have em : sendM l.c m p t v = toldM l.c m p 1 := by unfold sendM; rw [if_pos e1]
  rw [em]
  have ht := told_m h hs hp 1
  by_cases e2 : t < 0
  ·clear h hs hp em e1 hpa
   go_enter Tryz.func105, Tryz.ntmps105
   go_wp2_with (first | (go_at_call 121; refine ht.mono ?_; rintro e w1 ⟨rfl, ho⟩; clear ht))
   refine bodyPost_ret (results_none rfl _ _ _) rfl ?_
   exact ⟨rfl, ho⟩
  ·have e2' : decide (t < 0) = false := by simpa using e2
   have e3 : (l.c.procs.length : Int) ≤ t := by omega
   clear h hs hp em e1 hpa e2
   go_enter Tryz.func105, Tryz.ntmps105
   go_wp2_with (first | (go_at_call 121; refine ht.mono ?_; rintro e w1 ⟨rfl, ho⟩; clear ht))
   refine bodyPost_ret (results_none rfl _ _ _) rfl ?_
   exact ⟨rfl, ho⟩
 ·obtain ⟨q, rfl⟩ : ∃ q : Nat, t = (q : Int) := ⟨t.toNat, by omega⟩
  have hq : q < l.c.procs.length := by omega
  have hq' : (q : Int) < (l.c.procs.length : Int) := by omega
  have hqa := hc.pa_lt hq
  obtain ⟨g, ag, cg⟩ := h.procPtr hq
  rw [ag] at m11
  have x1 := (h.prC hp).c1
  have y1 := (h.prC hq).c1
  obtain ⟨n0, -, -, -, n5, -, -, nf⟩ := h.paC hpa
  have n0' := (h.paC hqa).1
  have hfl := mflows_any h hc hpa hqa
  have es : sendM l.c m p q v = if flowsC l.c (pa l.c p) (pa l.c q) = false then toldM l.c (m.modT (pa l.c p) fun x => { x with forb := more x.forb }) p 0 else if pa l.c p = pa l.c q then withinM l.c m p q v else upM l.c m p q v := by
   unfold sendM
   rw [if_neg e1, Int.toNat_natCast]
  clear e1
  cases ef : flowsC l.c (pa l.c p) (pa l.c q) with
  | false =>
   rw [ef, if_pos rfl] at es
   rw [es]
   rw [ef] at hfl
   have hcn := (hs.cnt _ hpa).2
   have hmo := more_any (ptOf m (pa l.c p)).forb hcn
   have HK := hd h
   have HS := hd hs
   have HP := hd hp
   have HA := hd hpa
   have HS1 : Hid (Shp l.c (m.modT (pa l.c p) fun x => { x with forb := more x.forb })) := hd (hs.modO hpa (fun _ => rfl) (fun _ => rfl) (hs.cur _ hpa) (hs.log _ hpa) ⟨(hs.cnt _ hpa).1, more_le hcn⟩)
   obtain ⟨m1, hm1⟩ : ∃ M, Hid ((m.modT (pa l.c p) fun x => { x with forb := more x.forb }) = M) := ⟨_, rfl⟩
   have HE : Hid (∀ n w1, w1 = ((w.drewN n).setCell ⟨l.bp (pa l.c p), 5, none⟩ (.int .i64 (more (ptOf m (pa l.c p)).forb))) → MkOut w l U m1 w1) := hd (fun n w1 e => by
    subst e
    have hb := below_draw w n
    have := MkOut.ahead hb ((h.below hb).setForb hs hpa (more (ptOf m (pa l.c p)).forb))
    rw [← hm1.out]
    exact this)
   rw [hm1.out] at HS1 ⊢
   generalize more (ptOf m (pa l.c p)).forb = V at *
   clear h hs hp hc es ef hq hpa hqa hcn
   go_enter Tryz.func105, Tryz.ntmps105
   go_upto_region 4 with fail
   go_quiet (first | (go_at_call 167; exact Calls.quiet_of (hfl _)))
   go_upto_region 5 with fail
   go_region_law (first | (go_simp; with_reducible refine (hmo _).mono ?_; rintro e w1 ⟨rfl, rfl⟩))
   all_goals (
    obtain ⟨W, hW⟩ : ∃ W, Hid (((w.drewN (nq + 1)).setCell ⟨l.bp (pa l.c p), 5, none⟩ (.int .i64 V)) = W) := ⟨_, rfl⟩
    rw [hW.out]
    obtain ⟨U1, t1, k1⟩ := (HE.out (nq + 1) W hW.out.symm).get
    have ht := told_m k1 HS1.out HP.out 0
    replace t1 := hd t1
    clear k1 hW m2 m5 m7 m8 m9 m10 m11 mf x1 y1 n0 n5 nf n0' cg
    go_wp2_with (go_at_call 121; refine ht.mono ?_; rintro e w1 ⟨rfl, ho⟩; clear ht)
    go_end0
    exact ⟨rfl, t1.out.out ho⟩)
  | true =>
   rw [ef, if_neg (by simp)] at es
   rw [ef] at hfl
   by_cases eh : pa l.c p = pa l.c q
   ·rw [if_pos eh] at es
    rw [es]
    have HE : Hid (∀ n, Calls Tryz.prog 169 #[.pointer (some ⟨l.bq p, 0, none⟩), .pointer (some ⟨l.bq q, 0, none⟩), .int .i64 v] (w.drewN n) fun e w' => e = .returned (.tuple #[]) ∧ MkOut w l U (withinM l.c m p q v) w') := hd (fun n => (within_m (h.below (below_draw w n)) hs hc hp hq v).mono (fun e w1 ho => ⟨ho.1, MkOut.ahead (below_draw w n) ho.2⟩))
    rw [← eh] at y1 hfl n0'
    have hpe := fun n => eqP_same (w.drewN n) ⟨l.bp (pa l.c p), 0, none⟩
    generalize withinM l.c m p q v = M at *
    clear h hs hp hc es ef hq hpa hqa n5 nf n0' eh
    go_enter Tryz.func105, Tryz.ntmps105
    go_upto_region 4 with fail
    go_quiet (first | (go_at_call 167; exact Calls.quiet_of (hfl _)))
    go_upto_region 7 with fail
    go_quiet (fail)
    go_wp2_with (go_at_call 169; refine (HE.out _).mono ?_; rintro e w1 ⟨rfl, ho⟩)
    go_end0
    exact ⟨rfl, ho⟩
   ·rw [if_neg eh] at es
    rw [es]
    have hpe := fun n => (h.below (below_draw w n)).eqP hpa hqa eh
    have HE : Hid (∀ n, Calls Tryz.prog 170 #[.pointer (some ⟨l.bq p, 0, none⟩), .pointer (some ⟨l.bq q, 0, none⟩), .int .i64 v] (w.drewN n) fun e w' => e = .returned (.tuple #[]) ∧ MkOut w l U (upM l.c m p q v) w') := hd (fun n => (up_m (h.below (below_draw w n)) hs hc hp hq v).mono (fun e w1 ho => ⟨ho.1, MkOut.ahead (below_draw w n) ho.2⟩))
    generalize upM l.c m p q v = M at *
    clear h hs hp hc es ef hq hpa hqa n5 nf eh
    generalize l.bp (pa l.c p) = b1 at *
    generalize l.bp (pa l.c q) = b2 at *
    go_enter Tryz.func105, Tryz.ntmps105
    go_upto_region 4 with fail
    go_quiet (first | (go_at_call 167; exact Calls.quiet_of (hfl _)))
    go_upto_region 7 with fail
    go_quiet (fail)
    go_wp2_with (go_at_call 170; refine (HE.out _).mono ?_; rintro e w1 ⟨rfl, ho⟩)
    go_end0
    exact ⟨rfl, ho⟩
end
end Go.Proofs.YthnjeejnnhadeaaGreatDoor

namespace Go.Proofs.YthnjeejnnhadeaaGreatDoor
open Go.RowKit
section
variable {w w' : World} {l : Lay} {m : MS} {U : Nat → Prop} {p q i j : Nat}
theorem To.cell {w W : World} {V V' : Nat → Prop} (t : To w V W V') {a : Addr} (hl : a.block < w.heap.size) (hn : ¬ V a.block) : W.cell? a = w.cell? a := t.1.cell hl hn
set_option maxRecDepth 100000 in
set_option maxHeartbeats 4000000 in
theorem take_m (h : Mk w l U m) (hs : Shp l.c m) (hc : CfgOk l.c) (hp : p < l.c.procs.length) (wt : Bool) : Calls Tryz.prog 106 #[.pointer (some ⟨l.bm, 0, none⟩), .pointer (some ⟨l.bq p, 0, none⟩), .bool wt] w fun e w' => e = .returned (.tuple #[]) ∧ MkOut w l U (takeM l.c m p wt) w' := by
 have hp' : p < m.pr.length := by rw [hs.nq]; exact hp
 have c14 := (h.prC hp).c14
 obtain ⟨F, hF, hgo⟩ := h.lanes hs hp
 have htk := Lane.ptake_any hF (hs.ls hp).good (fun s hs' => Nat.le_trans ((hs.ls hp).few hc s hs') (by decide))
 have HE : Hid (∀ w1, Lane.PsOut w 188 249 185 (l.bo p) F (Lane.takeP (prOf m p).ss (prOf m p).lc).2.1 (Lane.takeP (prOf m p).ss (prOf m p).lc).2.2 w1 → MkOut w l U (m.modP p fun x => { x with ss := (Lane.takeP x.ss x.lc).2.1, lc := (Lane.takeP x.ss x.lc).2.2 }) w1) := hd (fun w1 ho => hgo w1 (fun x => { x with ss := (Lane.takeP x.ss x.lc).2.1, lc := (Lane.takeP x.ss x.lc).2.2 }) (fun _ => rfl) (fun _ => rfl) (fun _ => rfl) (fun _ => rfl) (fun _ => rfl) ho)
 have HS : Hid (Shp l.c (m.modP p fun x => { x with ss := (Lane.takeP x.ss x.lc).2.1, lc := (Lane.takeP x.ss x.lc).2.2 })) := hd (hs.lanes hp (hs.ls hp).take.1 (fun _ => rfl) (fun _ => rfl))
 have hno := (hs.ls hp).take.2
 have hfi : (prOf (m.modP p fun x => { x with ss := (Lane.takeP x.ss x.lc).2.1, lc := (Lane.takeP x.ss x.lc).2.2 }) p).fired = (prOf m p).fired := by rw [prOf_same hp']
 have em : takeM l.c m p wt = (let r := Lane.takeP (prOf m p).ss (prOf m p).lc
  let m1 := m.modP p fun x => { x with ss := (Lane.takeP x.ss x.lc).2.1, lc := (Lane.takeP x.ss x.lc).2.2 }
  if r.1.2.2.2.2 = 0 then if r.1.2.2.2.1 then toldM l.c (tookM l.c m1 p r.1.1 r.1.2.1) r.1.2.2.1.1.toNat 0 else tookM l.c m1 p r.1.1 r.1.2.1
  else if (prOf m p).fired then tookM l.c (m1.modP p fun x => { x with fired := false }) p 0 (-2)
  else if wt then m1.modP p fun x => { x with st := 1 } else tookM l.c m1 p 0 (-1)) := rfl
 have HP := hd hp
 rw [em]
 clear em
 generalize (prOf m p).fired = fi at *
 simp only []
 generalize (m.modP p fun x => { x with ss := (Lane.takeP x.ss x.lc).2.1, lc := (Lane.takeP x.ss x.lc).2.2 }) = m1 at *
 unfold Lane.ptkV at htk
 generalize hR : (Lane.takeP (prOf m p).ss (prOf m p).lc).1 = R at *
 clear hR
 obtain ⟨rv, rl, ⟨ra, rb⟩, rt, re⟩ := R
 dsimp only at htk hno ⊢
 generalize (Lane.takeP (prOf m p).ss (prOf m p).lc).2.1 = ss' at *
 generalize (Lane.takeP (prOf m p).ss (prOf m p).lc).2.2 = lc' at *
 clear h hs hc hp hgo hF hp'
 by_cases e0 : re = 0
 ·subst e0
  rw [if_pos rfl]
  cases rt with
  | true =>
   rw [if_pos rfl]
   have HN := hd (hno rfl)
   clear hno hfi
   obtain ⟨M, hM⟩ : ∃ M, Hid (toldM l.c (tookM l.c m1 p rv rl) ra.toNat 0 = M) := ⟨_, rfl⟩
   rw [hM.out]
   go_enter Tryz.func106, Tryz.ntmps106
   go_upto_region 2 with (go_at_call 171; refine htk.mono ?_; rintro e w1 ⟨rfl, ho⟩; clear htk)
   obtain ⟨U1, t1, k1⟩ := (HE.out w1 ho).get
   have hlt := k1.lt
   have hb0 := below_al w1 (.cells #[.int .i64 ra, .int .i64 rb] 155)
   have hh0 := heap_alloc_new w1 (.cells #[.int .i64 ra, .int .i64 rb] 155)
   obtain ⟨W1, hW1⟩ : ∃ W, Hid (w1.alloc (.cells #[.int .i64 ra, .int .i64 rb] 155) = W) := ⟨_, rfl⟩
   obtain ⟨g, hg⟩ : ∃ g, Hid (w1.heap.size = g) := ⟨_, rfl⟩
   rw [hW1.out] at hb0 hh0 ⊢
   rw [hg.out] at hh0 ⊢
   have HG : Hid (g < W1.heap.size ∧ ¬ U1 g) := hd ⟨(Array.getElem?_eq_some_iff.1 hh0).1, fun e => by have := hlt g e; have := hg.out; omega⟩
   replace t1 := hd (t1.bel hb0)
   replace k1 := k1.below hb0
   clear hb0 hlt hW1 ho HE hg
   have htk := took_m k1 HS.out HP.out rv rl
   have g0 : W1.cell? ⟨g, 0, none⟩ = some (.int .i64 ra) := by rw [cell_of_row _ _ _ _ _ _ hh0]; rfl
   have HS2 := hd (HS.out.took HP.out rv rl)
   clear k1 hh0
   go_upto_region 5 with (go_at_call 172; refine htk.mono ?_; rintro e w2 ⟨rfl, ho⟩; clear htk)
   obtain ⟨U2, t2, k2⟩ := ho.get
   have g1 : w2.cell? ⟨g, 0, none⟩ = some (.int .i64 ra) := (t2.cell HG.out.1 HG.out.2).trans g0
   obtain ⟨rn, hrn⟩ : ∃ n : Nat, ra = (n : Int) := ⟨ra.toNat, by have := HN.out.1; omega⟩
   subst hrn
   have hno : rn < l.c.procs.length := by have := HN.out.2; omega
   have hno' : (rn : Int) < (l.c.procs.length : Int) := by omega
   obtain ⟨m2, m5, m7, m8, m9, m10, m11, mf⟩ := k2.maC
   obtain ⟨gp, ag, cg⟩ := k2.procPtr hno
   rw [ag] at m11
   have htl := told_m k2.drew HS2.out hno 0
   replace t1 := hd (to_drew (t1.out.trans t2))
   rw [Int.toNat_natCast] at hM
   clear k2 t2 ho g0 HG m2 m5 m7 m8 m9 m10 mf HS HS2 HN hno
   go_region_law (first | (go_simp; with_reducible refine htl.mono ?_; rintro e w3 ⟨rfl, ho⟩))
   all_goals (
    go_wp2_with fail
    go_end0
    exact ⟨rfl, by rw [← hM.out]; exact t1.out.out ho⟩)
  | false =>
   rw [if_neg (by simp)]
   clear hno hfi
   obtain ⟨M, hM⟩ : ∃ M, Hid (tookM l.c m1 p rv rl = M) := ⟨_, rfl⟩
   rw [hM.out]
   go_enter Tryz.func106, Tryz.ntmps106
   go_upto_region 2 with (go_at_call 171; refine htk.mono ?_; rintro e w1 ⟨rfl, ho⟩; clear htk)
   obtain ⟨U1, t1, k1⟩ := (HE.out w1 ho).get
   have hlt := k1.lt
   have hb0 := below_al w1 (.cells #[.int .i64 ra, .int .i64 rb] 155)
   have hh0 := heap_alloc_new w1 (.cells #[.int .i64 ra, .int .i64 rb] 155)
   obtain ⟨W1, hW1⟩ : ∃ W, Hid (w1.alloc (.cells #[.int .i64 ra, .int .i64 rb] 155) = W) := ⟨_, rfl⟩
   obtain ⟨g, hg⟩ : ∃ g, Hid (w1.heap.size = g) := ⟨_, rfl⟩
   rw [hW1.out] at hb0 hh0 ⊢
   rw [hg.out] at hh0 ⊢
   have HG : Hid (g < W1.heap.size ∧ ¬ U1 g) := hd ⟨(Array.getElem?_eq_some_iff.1 hh0).1, fun e => by have := hlt g e; have := hg.out; omega⟩
   replace t1 := hd (t1.bel hb0)
   replace k1 := k1.below hb0
   clear hb0 hlt hW1 ho HE hg
   have htk := took_m k1 HS.out HP.out rv rl
   clear k1 hh0 HG
   go_wp2_with (go_at_call 172; refine htk.mono ?_; rintro e w2 ⟨rfl, ho⟩; clear htk)
   go_end0
   exact ⟨rfl, by rw [← hM.out]; exact t1.out.out ho⟩
 ·rw [if_neg e0]
  have e0' : (re == 0) = false := by simpa using e0
  clear hno e0
  cases fi with
  | true =>
   rw [if_pos rfl]
   obtain ⟨M, hM⟩ : ∃ M, Hid (tookM l.c (m1.modP p fun x => { x with fired := false }) p 0 (-2) = M) := ⟨_, rfl⟩
   rw [hM.out]
   go_enter Tryz.func106, Tryz.ntmps106
   go_upto_region 2 with (go_at_call 171; refine htk.mono ?_; rintro e w1 ⟨rfl, ho⟩; clear htk)
   obtain ⟨U1, t1, k1⟩ := (HE.out w1 ho).get
   have hlt := k1.lt
   have hb0 := below_al w1 (.cells #[.int .i64 ra, .int .i64 rb] 155)
   have hh0 := heap_alloc_new w1 (.cells #[.int .i64 ra, .int .i64 rb] 155)
   obtain ⟨W1, hW1⟩ : ∃ W, Hid (w1.alloc (.cells #[.int .i64 ra, .int .i64 rb] 155) = W) := ⟨_, rfl⟩
   obtain ⟨g, hg⟩ : ∃ g, Hid (w1.heap.size = g) := ⟨_, rfl⟩
   rw [hW1.out] at hb0 hh0 ⊢
   rw [hg.out] at hh0 ⊢
   have HG : Hid (g < W1.heap.size ∧ ¬ U1 g) := hd ⟨(Array.getElem?_eq_some_iff.1 hh0).1, fun e => by have := hlt g e; have := hg.out; omega⟩
   replace t1 := hd (t1.bel hb0)
   replace k1 := k1.below hb0
   clear hb0 hlt hW1 ho HE hg
   have x13 := (k1.prC HP.out).c13
   have xf := (k1.prC HP.out).fr
   rw [hfi] at x13
   obtain ⟨U2, t2, k2⟩ := (k1.setFired HS.out HP.out false).get
   have htk := took_m k2 (HS.out.modS (f := fun x => { x with fired := false }) HP.out (fun _ => rfl) (fun _ => rfl) (fun _ => rfl) (fun _ => rfl)) HP.out 0 (-2)
   replace t1 := hd (t1.out.trans t2)
   clear k1 k2 t2 hh0 HG HS
   go_wp2_with (go_at_call 172; refine htk.mono ?_; rintro e w2 ⟨rfl, ho⟩; clear htk)
   go_end0
   exact ⟨rfl, by rw [← hM.out]; exact t1.out.out ho⟩
  | false =>
   rw [if_neg (by simp)]
   cases wt with
   | true =>
    rw [if_pos rfl]
    obtain ⟨M, hM⟩ : ∃ M, Hid ((m1.modP p fun x => { x with st := 1 }) = M) := ⟨_, rfl⟩
    rw [hM.out]
    go_enter Tryz.func106, Tryz.ntmps106
    go_upto_region 2 with (go_at_call 171; refine htk.mono ?_; rintro e w1 ⟨rfl, ho⟩; clear htk)
    obtain ⟨U1, t1, k1⟩ := (HE.out w1 ho).get
    have hlt := k1.lt
    have hb0 := below_al w1 (.cells #[.int .i64 ra, .int .i64 rb] 155)
    have hh0 := heap_alloc_new w1 (.cells #[.int .i64 ra, .int .i64 rb] 155)
    obtain ⟨W1, hW1⟩ : ∃ W, Hid (w1.alloc (.cells #[.int .i64 ra, .int .i64 rb] 155) = W) := ⟨_, rfl⟩
    obtain ⟨g, hg⟩ : ∃ g, Hid (w1.heap.size = g) := ⟨_, rfl⟩
    rw [hW1.out] at hb0 hh0 ⊢
    rw [hg.out] at hh0 ⊢
    have HG : Hid (g < W1.heap.size ∧ ¬ U1 g) := hd ⟨(Array.getElem?_eq_some_iff.1 hh0).1, fun e => by have := hlt g e; have := hg.out; omega⟩
    replace t1 := hd (t1.bel hb0)
    replace k1 := k1.below hb0
    clear hb0 hlt hW1 ho HE hg
    have x13 := (k1.prC HP.out).c13
    have x3 := (k1.prC HP.out).c3
    have xf := (k1.prC HP.out).fr
    rw [hfi] at x13
    have HO := hd (t1.out.out (k1.setSt HS.out HP.out 1))
    clear k1 t1 hh0 HG HS
    go_wp2_with fail
    go_end0
    exact ⟨rfl, by rw [← hM.out]; exact HO.out⟩
   | false =>
    rw [if_neg (by simp)]
    obtain ⟨M, hM⟩ : ∃ M, Hid (tookM l.c m1 p 0 (-1) = M) := ⟨_, rfl⟩
    rw [hM.out]
    go_enter Tryz.func106, Tryz.ntmps106
    go_upto_region 2 with (go_at_call 171; refine htk.mono ?_; rintro e w1 ⟨rfl, ho⟩; clear htk)
    obtain ⟨U1, t1, k1⟩ := (HE.out w1 ho).get
    have hlt := k1.lt
    have hb0 := below_al w1 (.cells #[.int .i64 ra, .int .i64 rb] 155)
    have hh0 := heap_alloc_new w1 (.cells #[.int .i64 ra, .int .i64 rb] 155)
    obtain ⟨W1, hW1⟩ : ∃ W, Hid (w1.alloc (.cells #[.int .i64 ra, .int .i64 rb] 155) = W) := ⟨_, rfl⟩
    obtain ⟨g, hg⟩ : ∃ g, Hid (w1.heap.size = g) := ⟨_, rfl⟩
    rw [hW1.out] at hb0 hh0 ⊢
    rw [hg.out] at hh0 ⊢
    have HG : Hid (g < W1.heap.size ∧ ¬ U1 g) := hd ⟨(Array.getElem?_eq_some_iff.1 hh0).1, fun e => by have := hlt g e; have := hg.out; omega⟩
    replace t1 := hd (t1.bel hb0)
    replace k1 := k1.below hb0
    clear hb0 hlt hW1 ho HE hg
    have x13 := (k1.prC HP.out).c13
    rw [hfi] at x13
    have htk := took_m k1 HS.out HP.out 0 (-1)
    clear k1 hh0 HG HS
    go_wp2_with (go_at_call 172; refine htk.mono ?_; rintro e w2 ⟨rfl, ho⟩; clear htk)
    go_end0
    exact ⟨rfl, by rw [← hM.out]; exact t1.out.out ho⟩
end
end Go.Proofs.YthnjeejnnhadeaaGreatDoor

namespace Go.Proofs.YthnjeejnnhadeaaGreatDoor
open Go.RowKit
theorem fitL {c : Cfg} (hc : CfgOk c) {p : Nat} (hp : p < c.procs.length) : Locks.Fit64 (p : Int) := by
 have := hc.p32
 constructor <;> omega
theorem idxF_none {p : Int} : ∀ (q : List Int) (k : Nat), p ∉ q → Locks.idxF p q k = -1
 | [], _, _ => rfl
 | x :: r, k, h => by
  unfold Locks.idxF
  rw [if_neg (fun e => h (by rw [e]; exact List.mem_cons_self))]
  exact idxF_none r (k + 1) (fun e => h (List.mem_cons_of_mem _ e))
section
variable {w w' : World} {l : Lay} {m : MS} {U : Nat → Prop} {p q i j : Nat}
theorem contains_any {a : Option Addr} {c n : Nat} {q : List Int} (hR : Rd w a (Locks.iC q)) (hN : Hid (q.length = n)) (hn : n ≤ 8796093022208) (p : Int) :
  Calls Tryz.prog 158 #[.slice a n c, .int .i64 p] w fun e w' => e = .returned (.bool (decide (p ∈ q))) ∧ w = w' := by
 have hi := Locks.index_any hR hN hn p (c := c)
 by_cases h : p ∈ q
 ·obtain ⟨j, h1, h2, h3⟩ := Locks.idxF_mem (k := 0) h
  rw [h3, Nat.zero_add] at hi
  rw [decide_eq_true h]
  clear h h1 h2 h3 hR hN hn
  go_enter Tryz.func158, Tryz.ntmps158
  go_wp2_with (go_at_call 207; refine hi.mono ?_; rintro e w1 ⟨rfl, rfl⟩)
  go_ret
  exact ⟨rfl, rfl⟩
 ·rw [idxF_none q 0 h] at hi
  rw [decide_eq_false h]
  clear h hR hN hn
  go_enter Tryz.func158, Tryz.ntmps158
  go_wp2_with (go_at_call 207; refine hi.mono ?_; rintro e w1 ⟨rfl, rfl⟩)
  go_ret
  exact ⟨rfl, rfl⟩
theorem Shp.given {c : Cfg} {m : MS} (h : Shp c m) {x : Int} (hx : x = -1 ∨ isNo c x) : Shp c (givenM m x) := by
 unfold givenM
 split
 ·exact h
 ·next hn =>
  rcases hx with hx | hx
  ·exact absurd hx hn
  ·exact h.goOn (no_to hx)
set_option maxRecDepth 100000 in
theorem given_m (h : Mk w l U m) (hs : Shp l.c m) {x : Int} (hx : x = -1 ∨ isNo l.c x) : Calls Tryz.prog 118 #[.pointer (some ⟨l.bm, 0, none⟩), .int .i64 x] w fun e w' => e = .returned (.tuple #[]) ∧ MkOut w l U (givenM m x) w' := by
 by_cases e : x = -1
 ·subst e
  have em : givenM m (-1) = m := by unfold givenM; rw [if_pos rfl]
  rw [em]
  have HO := hd (h.out (Below.refl _ _))
  clear h hs hx em
  go_enter Tryz.func118, Tryz.ntmps118
  go_wp2
  go_end0
  exact ⟨rfl, HO.out⟩
 ·have hx' : isNo l.c x := by rcases hx with h | h; exact absurd h e; exact h
  have em : givenM m x = goOnM m x.toNat := by unfold givenM; rw [if_neg e]
  rw [em]
  have hlt := no_to hx'
  obtain ⟨n, hn⟩ : ∃ n : Nat, x = (n : Int) := ⟨x.toNat, by have := hx'.1; omega⟩
  subst hn
  rw [Int.toNat_natCast] at hlt ⊢
  have hno' : (n : Int) < (l.c.procs.length : Int) := by omega
  obtain ⟨m2, m5, m7, m8, m9, m10, m11, mf⟩ := h.maC
  obtain ⟨gp, ag, cg⟩ := h.procPtr hlt
  rw [ag] at m11
  have hgo := goOn_any h hs hlt
  clear h hs hx em hx' hlt m2 m5 m7 m8 m9 m10 mf
  go_enter Tryz.func118, Tryz.ntmps118
  go_wp2_with (go_at_call 102; refine hgo.mono ?_; rintro e w1 ⟨rfl, ho⟩; clear hgo)
  go_end0
  exact ⟨rfl, ho⟩
set_option maxRecDepth 100000 in
set_option maxHeartbeats 2000000 in
theorem lock_m (h : Mk w l U m) (hs : Shp l.c m) (hc : CfgOk l.c) (hp : p < l.c.procs.length) (k : Int) : Calls Tryz.prog 109 #[.pointer (some ⟨l.bq p, 0, none⟩), .int .i64 k] w fun e w' => e = .returned (.tuple #[]) ∧ MkOut w l U (lockM l.c m p k) w' := by
 have hpa := hc.pa_lt hp
 have c0 := (h.prC hp).c0
 have c1 := (h.prC hp).c1
 have n6 := (h.paC hpa).2.2.2.2.2.1
 obtain ⟨F, hF, hgo⟩ := h.drew.locks hs hpa
 have htk := Locks.take_any hF (Nat.lt_of_le_of_lt ((hs.lks hpa).total hc) (by decide)) k (fitL hc hp)
 have HE : Hid (∀ w1, Locks.LkOut w.drew (l.bl (pa l.c p)) F (Locks.takeO (ptOf m (pa l.c p)).os (ptOf m (pa l.c p)).qs k p) (Locks.takeQ (ptOf m (pa l.c p)).os (ptOf m (pa l.c p)).qs k p) w1 → MkOut w l U (m.modT (pa l.c p) fun t => { t with os := Locks.takeO t.os t.qs k p, qs := Locks.takeQ t.os t.qs k p }) w1) := hd (fun w1 ho => MkOut.ahead (bel_drew w) (hgo w1 (fun t => { t with os := Locks.takeO t.os t.qs k p, qs := Locks.takeQ t.os t.qs k p }) (fun _ => rfl) (fun _ => rfl) (fun _ => rfl) (fun _ => rfl) ho))
 have HS : Hid (Shp l.c (m.modT (pa l.c p) fun t => { t with os := Locks.takeO t.os t.qs k p, qs := Locks.takeQ t.os t.qs k p })) := hd (hs.modL hpa ((hs.lks hpa).take hc k (no_of hp)) (fun _ => rfl) (fun _ => rfl) (fun _ => rfl) (fun _ => rfl))
 have em : lockM l.c m p k = if (Locks.takeR (ptOf m (pa l.c p)).os (ptOf m (pa l.c p)).qs k p).1 then goOnM (m.modT (pa l.c p) fun t => { t with os := Locks.takeO t.os t.qs k p, qs := Locks.takeQ t.os t.qs k p }) p else (m.modT (pa l.c p) fun t => { t with os := Locks.takeO t.os t.qs k p, qs := Locks.takeQ t.os t.qs k p }).modP p fun x => { x with st := 3 } := rfl
 rw [em]
 clear em
 have HP := hd hp
 generalize (m.modT (pa l.c p) fun t => { t with os := Locks.takeO t.os t.qs k p, qs := Locks.takeQ t.os t.qs k p }) = m1 at *
 generalize (Locks.takeR (ptOf m (pa l.c p)).os (ptOf m (pa l.c p)).qs k p).1 = had at *
 generalize (Locks.takeR (ptOf m (pa l.c p)).os (ptOf m (pa l.c p)).qs k p).2 = er at *
 obtain ⟨M, hM⟩ : ∃ M, Hid ((if had = true then goOnM m1 p else m1.modP p fun x => { x with st := 3 }) = M) := ⟨_, rfl⟩
 rw [hM.out]
 clear h hs hc hpa hF hgo
 go_enter Tryz.func109, Tryz.ntmps109
 go_upto_region 0 with fail
 go_region_law (first | (go_simp; with_reducible refine htk.mono ?_; rintro e w1 ⟨rfl, ho⟩))
 all_goals (
  obtain ⟨U1, t1, k1⟩ := (HE.out w1 ho).get
  have x3 := (k1.prC HP.out).c3
  have xf := (k1.prC HP.out).fr
  replace t1 := hd t1
  cases had with
  | true =>
   rw [if_pos rfl] at hM
   have hg := goOn_any k1 HS.out HP.out
   clear k1 htk HE ho c0 c1 n6 x3 xf
   go_wp2_with (go_at_call 102; refine hg.mono ?_; rintro e w2 ⟨rfl, ho⟩; clear hg)
   go_end0
   exact ⟨rfl, by rw [← hM.out]; exact t1.out.out ho⟩
  | false =>
   rw [if_neg (by simp)] at hM
   have HO := hd (t1.out.out (k1.setSt HS.out HP.out 3))
   clear k1 htk HE ho c0 c1 n6
   go_wp2_with fail
   refine bodyPost_ret (results_none rfl _ _ _) rfl ?_
   exact ⟨rfl, by rw [← hM.out]; exact HO.out⟩)
theorem Shp.unlock {c : Cfg} {m : MS} (h : Shp c m) (hc : CfgOk c) {p : Nat} (hp : p < c.procs.length) (k : Int) : Shp c (m.modT (pa c p) fun t => { t with os := Locks.giveO t.os t.qs k p, qs := Locks.giveQ t.os t.qs k p }) :=
 h.modL (hc.pa_lt hp) ((h.lks (hc.pa_lt hp)).give hc k p) (fun _ => rfl) (fun _ => rfl) (fun _ => rfl) (fun _ => rfl)
theorem give_no {c : Cfg} {os : List Int} {qs : List (List Int)} (h : LkOk c os qs) (hc : CfgOk c) {k : Int} {p : Nat} (hk : k ∈ Locks.hold os p) : (Locks.giveR os qs k p).1 = -1 ∨ isNo c (Locks.giveR os qs k p).1 := by
 obtain ⟨i, rfl, hi, h0, e⟩ := Locks.mem_holdTo.1 hk
 have hm : Locks.mayE os.length (i : Int) (p : Int) = 0 := by
  unfold Locks.mayE
  rw [if_neg (by omega), if_neg (by omega)]
 obtain ⟨e1, _, _⟩ := Locks.give_yes (qs := qs) hm e
 rw [e1]
 exact (h.hand hc i).own _ (Locks.oAt_mem (by rw [Locks.handO_len]; exact hi))
theorem Locks.Lk.holds {w : World} {b : Nat} {F : Nat → Prop} {os : List Int} {qs : List (List Int)} (h : Locks.Lk w b F os qs) (p : Int) : Calls Tryz.prog 174 #[.pointer (some ⟨b, 0, none⟩), .int .i64 p] w fun e w' => ∃ a n c, e = .returned (.slice a n c) ∧ Locks.OwnI w (Locks.hold os p) w' a n c := by
 obtain ⟨hG, m, ao, co, aq, cq, es, h1, _⟩ := h
 exact Locks.holds_any h1.lb hG.le (fun i => (hG.oFit i).1) p
set_option maxRecDepth 100000 in
set_option maxHeartbeats 4000000 in
theorem unlock_m (h : Mk w l U m) (hs : Shp l.c m) (hc : CfgOk l.c) (hp : p < l.c.procs.length) (k : Int) : Calls Tryz.prog 110 #[.pointer (some ⟨l.bm, 0, none⟩), .pointer (some ⟨l.bq p, 0, none⟩), .int .i64 k] w fun e w' => e = .returned (.tuple #[]) ∧ MkOut w l U (unlockM l.c m p k) w' := by
 have hpa := hc.pa_lt hp
 have c0 := (h.prC hp).c0
 have c1 := (h.prC hp).c1
 have n6 := (h.paC hpa).2.2.2.2.2.1
 obtain ⟨F0, hF0, -⟩ := h.drew.lck hpa
 have hho := Locks.Lk.holds hF0 p
 have HK := hd h
 have HS := hd hs
 have HP := hd hp
 have HA := hd hpa
 have HC := hd hc
 have em : unlockM l.c m p k = if k ∈ Locks.hold (ptOf m (pa l.c p)).os p then givenM (m.modT (pa l.c p) fun t => { t with os := Locks.giveO t.os t.qs k p, qs := Locks.giveQ t.os t.qs k p }) (Locks.giveR (ptOf m (pa l.c p)).os (ptOf m (pa l.c p)).qs k p).1 else m := rfl
 obtain ⟨M, hM⟩ : ∃ M, Hid (unlockM l.c m p k = M) := ⟨_, rfl⟩
 rw [hM.out] at em ⊢
 replace em := hd em
 have hl8 : (Locks.hold (ptOf m (pa l.c p)).os p).length ≤ 8 := Nat.le_trans (Locks.holdTo_len _ _ _) (hs.lk _ hpa).1.le
 clear h hs hc hpa hp hF0
 go_enter Tryz.func110, Tryz.ntmps110
 go_upto_region 0 with fail
 go_region_law (first
  | (go_simp; (with_reducible refine hho.mono ?_); rintro e w1 ⟨a, n, cc, rfl, hn, hrow, hb, hnew⟩; have hcn := contains_any hrow.rd (hd hn) (by omega) k (c := cc); replace hb := hd (bel_dr hb); replace hn := hd hn; clear hrow hnew)
  | (go_simp; with_reducible refine hcn.mono ?_; rintro e w2 ⟨rfl, rfl⟩))
 all_goals (
  have HK1 := hd (HK.out.below hb.out)
  by_cases hmem : k ∈ Locks.hold (ptOf m (pa l.c p)).os p
  ·have em2 := em.out
   rw [if_pos hmem] at em2
   rw [decide_eq_true hmem]
   have x0 := (HK1.out.prC HP.out).c0
   have x1 := (HK1.out.prC HP.out).c1
   have y6 := (HK1.out.paC HA.out).2.2.2.2.2.1
   obtain ⟨F, hF, hgo⟩ := HK1.out.drew.locks HS.out HA.out
   have hgv := Locks.give_any hF (Nat.le_trans ((HS.out.lks HA.out).total HC.out) (by decide)) k p
   have HGN := hd (give_no (HS.out.lks HA.out) HC.out hmem)
   have HE : Hid (∀ w3, Locks.LkOut w1.drew (l.bl (pa l.c p)) F (Locks.giveO (ptOf m (pa l.c p)).os (ptOf m (pa l.c p)).qs k p) (Locks.giveQ (ptOf m (pa l.c p)).os (ptOf m (pa l.c p)).qs k p) w3 → MkOut w l U (m.modT (pa l.c p) fun t => { t with os := Locks.giveO t.os t.qs k p, qs := Locks.giveQ t.os t.qs k p }) w3) := hd (fun w3 ho => MkOut.ahead hb.out (MkOut.ahead (bel_drew w1) (hgo w3 (fun t => { t with os := Locks.giveO t.os t.qs k p, qs := Locks.giveQ t.os t.qs k p }) (fun _ => rfl) (fun _ => rfl) (fun _ => rfl) (fun _ => rfl) ho)))
   have HS1 := hd (HS.out.unlock HC.out HP.out k)
   replace em2 := hd em2
   generalize (m.modT (pa l.c p) fun t => { t with os := Locks.giveO t.os t.qs k p, qs := Locks.giveQ t.os t.qs k p }) = m1 at *
   generalize (Locks.giveR (ptOf m (pa l.c p)).os (ptOf m (pa l.c p)).qs k p).1 = r1 at *
   generalize (Locks.giveR (ptOf m (pa l.c p)).os (ptOf m (pa l.c p)).qs k p).2 = r2 at *
   clear hgo hF hho hcn HK1 hmem em c0 c1 n6
   go_upto_region 1 with fail
   go_region_law (first | (go_simp; (with_reducible refine hgv.mono ?_); rintro e w3 ⟨rfl, ho⟩))
   all_goals (
    obtain ⟨U1, t1, k1⟩ := (HE.out w3 ho).get
    have hgn := given_m k1 HS1.out HGN.out
    replace t1 := hd t1
    clear k1 ho HE hgv x0 x1 y6
    go_wp2_with (go_at_call 118; refine hgn.mono ?_; rintro e w4 ⟨rfl, ho⟩; clear hgn)
    go_end0
    exact ⟨rfl, by rw [← hM.out, hM.out, em2.out]; exact t1.out.out ho⟩)
  ·have em2 := em.out
   rw [if_neg hmem] at em2
   rw [decide_eq_false hmem]
   have HO := hd (HK.out.out hb.out)
   clear hho hcn HK1 hmem em c0 c1 n6
   go_wp2_with fail
   refine bodyPost_ret (results_none rfl _ _ _) rfl ?_
   exact ⟨rfl, by rw [em2]; exact HO.out⟩)
end
end Go.Proofs.YthnjeejnnhadeaaGreatDoor
