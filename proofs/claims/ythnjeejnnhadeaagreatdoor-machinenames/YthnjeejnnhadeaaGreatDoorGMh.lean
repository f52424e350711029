/- Who is next; who lives; Inject. -/
import Derived.Test.YthnjeejnnhadeaaGreatDoorGMd
namespace Go.Proofs.YthnjeejnnhadeaaGreatDoor
open Go.RowKit
section
variable {w w' : World} {l : Lay} {m : MS} {U : Nat → Prop} {p q i j : Nat}
theorem Mk.rowAt (h : Mk w l U m) (hi : i < l.c.labels.length) {k : Nat} (hk : k < (ofL l.c i).length) : ∃ g, l.ar i = some ⟨g, 0, none⟩ ∧ w.cell? ⟨g, k, none⟩ = some (.pointer (some ⟨l.bq ((ofL l.c i).getD k 0), 0, none⟩)) := by
 obtain ⟨la, lc, _, k2, _⟩ := h.partAt hi
 obtain ⟨g, e, hcell⟩ := k2.cell k (by omega)
 refine ⟨g, e, ?_⟩
 rw [hcell, ptC_at _ k (by simpa using hk), List.getD_eq_getElem?_getD, List.getElem?_map, List.getElem?_eq_getElem hk, List.getD_eq_getElem?_getD, List.getElem?_eq_getElem hk]
 rfl
set_option maxRecDepth 100000 in
set_option maxHeartbeats 4000000 in
theorem next_m (h : Mk w l U m) (hs : Shp l.c m) (hc : CfgOk l.c) (hi : i < l.c.labels.length) {k n : Nat} (hn : Hid ((ofL l.c i).length = n)) (hcur : Hid ((ptOf m i).cur = k)) (hk : k < n) : Calls Tryz.prog 50 #[.pointer (some ⟨l.bp i, 0, none⟩)] w fun e w' => e = .returned (.pointer (some ⟨l.bq ((ofL l.c i).getD k 0), 0, none⟩)) ∧ MkOut w l U (m.modT i fun t => { t with cur := (k + 1) % n }) w' := by
 have hl := ofL_len l.c i
 have h32 := hc.p32
 rw [hn.out] at hl
 obtain ⟨-, n1, n2, -, -, -, -, nf⟩ := h.paC hi
 rw [hcur.out] at n2
 rw [hn.out] at n1
 obtain ⟨g, ag, cg⟩ := h.rowAt hi (k := k) (by rw [hn.out]; exact hk)
 rw [ag] at n1
 have hk' : (k : Int) < (n : Int) := by omega
 have hne : (n : Int) ≠ 0 := by omega
 have hne2 : n ≠ 0 := by omega
 obtain ⟨R, hR⟩ : ∃ R : Nat, (k + 1) % n = R := ⟨_, rfl⟩
 have hRn : R < n := by rw [← hR]; exact Nat.mod_lt _ (by omega)
 have hmod : ((k : Int) + 1).tmod (n : Int) = (R : Int) := by rw [← hR, show (k : Int) + 1 = ((k + 1 : Nat) : Int) by omega]; exact (Int.ofNat_tmod _ _).symm
 have HE : Hid (∀ d, MkOut w l U (m.modT i fun t => { t with cur := R }) ((w.drewN d).setCell ⟨l.bp i, 2, none⟩ (.int .i64 (R : Int)))) := hd (fun d => MkOut.ahead (below_draw w d) ((h.below (below_draw w d)).setCur hs hi R))
 rw [hR]
 generalize (m.modT i fun t => { t with cur := R }) = M at *
 generalize l.bq ((ofL l.c i).getD k 0) = bq at *
 have w1 : IntKind.i64.wrap ((k : Int) + 1) = (k : Int) + 1 := by rw [IntKind.wrap_i64]; omega
 clear h hs hc hi hn hcur hR ag
 go_enter Tryz.func50, Tryz.ntmps50
 go_upto_region 1 with fail
 go_quiet (fail)
 go_upto_region 2 with fail
 go_region_law (fail)
 all_goals (
  go_wp2_with fail
  go_ret
  exact ⟨rfl, HE.out _⟩)
def liveV (l : Lay) (m : MS) (p : Int) : Value := if liveE l.c m p = 0 then .pointer (some ⟨l.bq p.toNat, 0, none⟩) else .pointer none
set_option maxRecDepth 100000 in
theorem living_m (h : Mk w l U m) (p : Int) : Calls Tryz.prog 52 #[.pointer (some ⟨l.bm, 0, none⟩), .int .i64 p] w fun e w' => e = .returned (.tuple #[liveV l m p, .int .i64 (liveE l.c m p)]) ∧ w = w' := by
 have m11 := h.maC.2.2.2.2.2.2.1
 by_cases e1 : p < 0 ∨ (l.c.procs.length : Int) ≤ p
 ·have ee : liveE l.c m p = 17 := by unfold liveE; rw [if_pos e1]
  have ev : liveV l m p = .pointer none := by unfold liveV; rw [ee]; rfl
  rw [ee, ev]
  clear h ee ev
  by_cases e2 : p < 0
  ·go_enter Tryz.func52, Tryz.ntmps52
   go_wp2
   go_ret2
   exact ⟨rfl, rfl⟩
  ·have e2' : decide (p < 0) = false := by simpa using e2
   have e3 : (l.c.procs.length : Int) ≤ p := by omega
   clear e1 e2
   go_enter Tryz.func52, Tryz.ntmps52
   go_wp2
   go_ret2
   exact ⟨rfl, rfl⟩
 ·obtain ⟨q, rfl⟩ : ∃ q : Nat, p = (q : Int) := ⟨p.toNat, by omega⟩
  have hq : q < l.c.procs.length := by omega
  have hq' : (q : Int) < (l.c.procs.length : Int) := by omega
  obtain ⟨g, ag, cg⟩ := h.procPtr hq
  rw [ag] at m11
  have c3 := (h.prC hq).c3
  have hen := ended_any (prOf m q).st w
  by_cases e2 : ended (prOf m q).st = true
  ·have ee : liveE l.c m q = 18 := by unfold liveE; rw [if_neg e1, Int.toNat_natCast, if_pos e2]
   have ev : liveV l m q = .pointer none := by unfold liveV; rw [ee]; rfl
   rw [ee, ev]
   rw [e2] at hen
   clear h ee ev e1 e2
   go_enter Tryz.func52, Tryz.ntmps52
   go_wp2_with (go_at_call 112; refine hen.mono ?_; rintro e w1 ⟨rfl, rfl⟩)
   go_ret2
   exact ⟨rfl, rfl⟩
  ·have ee : liveE l.c m q = 0 := by unfold liveE; rw [if_neg e1, Int.toNat_natCast, if_neg e2]
   have ev : liveV l m q = .pointer (some ⟨l.bq q, 0, none⟩) := by unfold liveV; rw [ee, if_pos rfl, Int.toNat_natCast]
   rw [ee, ev]
   rw [show ended (prOf m q).st = false by simpa using e2] at hen
   clear h ee ev e1 e2
   go_enter Tryz.func52, Tryz.ntmps52
   go_wp2_with (go_at_call 112; refine hen.mono ?_; rintro e w1 ⟨rfl, rfl⟩)
   go_ret2
   exact ⟨rfl, rfl⟩
theorem live_zero {c : Cfg} {m : MS} {p : Int} (h : liveE c m p = 0) : ∃ q : Nat, p = (q : Int) ∧ q < c.procs.length ∧ ended (prOf m q).st = false := by
 unfold liveE at h
 split at h
 ·simp at h
 ·next h1 =>
  split at h
  ·simp at h
  ·next h2 =>
   obtain ⟨q, rfl⟩ : ∃ q : Nat, p = (q : Int) := ⟨p.toNat, by omega⟩
   exact ⟨q, rfl, by omega, by simpa using h2⟩
set_option maxRecDepth 100000 in
set_option maxHeartbeats 2000000 in
theorem inject_m (h : Mk w l U m) (hs : Shp l.c m) (p v : Int) : Calls Tryz.prog 25 #[.pointer (some ⟨l.bm, 0, none⟩), .int .i64 p, .int .i64 v] w fun e w' => e = .returned (.int .i64 (injectE l.c m p v)) ∧ MkOut w l U (injectM l.c m p v) w' := by
 have hlv := living_m h p
 have m10 := h.maC.2.2.2.2.2.1
 by_cases e1 : liveE l.c m p = 0
 ·have ev : liveV l m p = .pointer (some ⟨l.bq p.toNat, 0, none⟩) := by unfold liveV; rw [if_pos e1]
  rw [ev, e1] at hlv
  obtain ⟨q, rfl, hq, -⟩ := live_zero e1
  have ee : injectE l.c m q v = putE m q l.c.labels.length v := by unfold injectE; rw [if_neg (by simp [e1]), Int.toNat_natCast]
  rw [ee]
  rw [Int.toNat_natCast] at hlv
  have hput := mput_any h hs hq l.c.labels.length v
  have HS := hd (hs.put hq l.c.labels.length v)
  have HQ := hd hq
  by_cases e2 : putE m q l.c.labels.length v = 19
  ·have em : injectM l.c m q v = dropM (putM m q l.c.labels.length v) q l.c.labels.length := by unfold injectM; rw [if_neg (by simp [e1]), Int.toNat_natCast, if_pos e2]
   rw [em]
   rw [e2] at hput ⊢
   generalize putM m q l.c.labels.length v = m1 at *
   clear h hs em e1 e2 ev ee hq
   go_enter Tryz.func25, Tryz.ntmps25
   go_wp2_with (first
    | (go_at_call 52; refine hlv.mono ?_; rintro e w1 ⟨rfl, rfl⟩; clear hlv)
    | (go_at_call 53; refine hput.mono ?_; rintro e w1 ⟨rfl, ho⟩; clear hput; obtain ⟨U1, t1, k1⟩ := ho.get; have c14 := (k1.prC HQ.out).c14; obtain ⟨F, hF, hgo⟩ := k1.lanes HS.out HQ.out; have hdr := Lane.pdrop_any hF (HS.out.ls HQ.out).good (l.c.labels.length : Int); replace hgo := hd hgo; replace t1 := hd t1; clear ho k1 hF m10)
    | (go_at_call 54; refine hdr.mono ?_; rintro e w2 ⟨rfl, ho⟩; clear hdr))
   go_ret
   exact ⟨rfl, t1.out.out (hgo.out w2 (fun x => { x with ss := Lane.dropP x.ss (l.c.labels.length : Int) }) (fun _ => rfl) (fun _ => rfl) (fun _ => rfl) (fun _ => rfl) (fun _ => rfl) ho)⟩
  ·have em : injectM l.c m q v = putM m q l.c.labels.length v := by unfold injectM; rw [if_neg (by simp [e1]), Int.toNat_natCast, if_neg e2]
   rw [em]
   have e2' : (putE m q l.c.labels.length v == 19) = false := by simpa using e2
   generalize putM m q l.c.labels.length v = m1 at *
   generalize putE m q l.c.labels.length v = E at *
   clear h hs em e1 e2 ev ee hq
   go_enter Tryz.func25, Tryz.ntmps25
   go_wp2_with (first
    | (go_at_call 52; refine hlv.mono ?_; rintro e w1 ⟨rfl, rfl⟩; clear hlv)
    | (go_at_call 53; refine hput.mono ?_; rintro e w1 ⟨rfl, ho⟩; clear hput))
   go_ret
   exact ⟨rfl, ho⟩
 ·have ee : injectE l.c m p v = liveE l.c m p := by unfold injectE; rw [if_pos e1]
  have em : injectM l.c m p v = m := by unfold injectM; rw [if_pos e1]
  rw [ee, em]
  have e1' : (liveE l.c m p != 0) = true := by simpa using e1
  have HO := hd (h.out (Below.refl _ _))
  generalize liveV l m p = LV at *
  generalize liveE l.c m p = E at *
  clear h hs em ee e1
  go_enter Tryz.func25, Tryz.ntmps25
  go_wp2_with (go_at_call 52; refine hlv.mono ?_; rintro e w1 ⟨rfl, rfl⟩; clear hlv)
  go_ret
  exact ⟨rfl, HO.out⟩
end
end Go.Proofs.YthnjeejnnhadeaaGreatDoor

namespace Go.Proofs.YthnjeejnnhadeaaGreatDoor
open Go.RowKit
theorem take_snoc {α : Type} (L : List α) (i : Nat) (d : α) (h : i < L.length) : L.take (i + 1) = L.take i ++ [L.getD i d] := by
 rw [List.take_succ_eq_append_getElem h, List.getD_eq_getElem?_getD, List.getElem?_eq_getElem h]
 rfl
theorem getD_mem {α : Type} {L : List α} {i : Nat} {d : α} (h : i < L.length) : L.getD i d ∈ L := by
 rw [List.getD_eq_getElem?_getD, List.getElem?_eq_getElem h]
 exact List.getElem_mem h
theorem leave_snoc (m : MS) (p : Nat) (L : List Nat) (q : Nat) : leaveM m p (L ++ [q]) = (leaveM m p L).modP q fun x => { x with ss := (Lane.leaveP x.ss p).2 } := by
 unfold leaveM
 rw [List.foldl_append]
 rfl
theorem Shp.leaves {c : Cfg} (p : Nat) : ∀ (L : List Nat) {m : MS}, Shp c m → (∀ q ∈ L, q < c.procs.length) → Shp c (leaveM m p L)
 | [], _, h, _ => h
 | q :: r, m, h, hq => by
  have h1 : Shp c (m.modP q fun x => { x with ss := (Lane.leaveP x.ss p).2 }) := h.lanes (hq q List.mem_cons_self) ((h.ls (hq q List.mem_cons_self)).leave p) (fun _ => rfl) (fun _ => rfl)
  exact Shp.leaves p r h1 (fun x hx => hq x (List.mem_cons_of_mem _ hx))
def givesM (m : MS) (out : List (Int × Int)) : MS := out.foldl (fun m g => givenM m g.2) m
def tellsM (c : Cfg) (m : MS) (ws : List (Int × Int)) : MS := ws.foldl (fun m x => toldM c m x.1.toNat 2) m
theorem gives_snoc (m : MS) (L : List (Int × Int)) (g : Int × Int) : givesM m (L ++ [g]) = givenM (givesM m L) g.2 := by
 unfold givesM
 rw [List.foldl_append]
 rfl
theorem tells_snoc (c : Cfg) (m : MS) (L : List (Int × Int)) (g : Int × Int) : tellsM c m (L ++ [g]) = toldM c (tellsM c m L) g.1.toNat 2 := by
 unfold tellsM
 rw [List.foldl_append]
 rfl
theorem Shp.gives {c : Cfg} : ∀ (L : List (Int × Int)) {m : MS}, Shp c m → (∀ g ∈ L, g.2 = -1 ∨ isNo c g.2) → Shp c (givesM m L)
 | [], _, h, _ => h
 | g :: r, _, h, hg => Shp.gives r (h.given (hg g List.mem_cons_self)) (fun x hx => hg x (List.mem_cons_of_mem _ hx))
theorem Shp.tells {c : Cfg} : ∀ (L : List (Int × Int)) {m : MS}, Shp c m → (∀ g ∈ L, isNo c g.1) → Shp c (tellsM c m L)
 | [], _, h, _ => h
 | g :: r, _, h, hg => Shp.tells r (h.told (no_to (hg g List.mem_cons_self)) 2) (fun x hx => hg x (List.mem_cons_of_mem _ hx))
def end0 (m : MS) (p : Nat) (st : Int) : MS := m.modP p fun x => { x with st := st, fired := false }
def end1 (c : Cfg) (m : MS) (p : Nat) (st : Int) : MS := leaveM (end0 m p st) p (ofL c (pa c p))
def endR (c : Cfg) (m1 : MS) (p : Nat) : List Int × List (List Int) × List (Int × Int) := Locks.endA (ptOf m1 (pa c p)).os (ptOf m1 (pa c p)).qs p
def end2 (c : Cfg) (m1 : MS) (p : Nat) : MS := m1.modT (pa c p) fun t => { t with os := (endR c m1 p).1, qs := (endR c m1 p).2.1 }
def end4 (m3 : MS) (p : Nat) : MS := m3.modP p fun x => { x with ss := (Lane.endP (prOf m3 p).ss).2 }
theorem endM_eq (c : Cfg) (m : MS) (p : Nat) (st : Int) : endM c m p st =
    (let m1 := end1 c m p st
     let m3 := (givesM (end2 c m1 p) (endR c m1 p).2.2).modP p fun x => { x with timer := 0, wake := 0 }
     tellsM c (end4 m3 p) (Lane.endP (prOf m3 p).ss).1) := rfl
theorem Shp.end2 {c : Cfg} {m : MS} (h : Shp c m) (hc : CfgOk c) {p : Nat} (hp : p < c.procs.length) : Shp c (end2 c m p) ∧ ∀ g ∈ (endR c m p).2.2, g.2 = -1 ∨ isNo c g.2 := by
 have ho := (h.lks (hc.pa_lt hp)).over hc p
 exact ⟨h.modL (hc.pa_lt hp) ho.1 (fun _ => rfl) (fun _ => rfl) (fun _ => rfl) (fun _ => rfl), ho.2⟩
theorem Shp.end3 {c : Cfg} {m : MS} (h : Shp c m) {p : Nat} (hp : p < c.procs.length) : Shp c (m.modP p fun x => { x with timer := 0, wake := 0 }) :=
 h.modP hp (h.ls hp) ⟨⟨Int.le_refl 0, by have := h.t0; simp only; omega⟩, Int.le_refl 0, by have := h.t0; simp only; omega⟩
theorem Shp.end4 {c : Cfg} {m : MS} (h : Shp c m) {p : Nat} (hp : p < c.procs.length) : Shp c (end4 m p) ∧ ∀ g ∈ (Lane.endP (prOf m p).ss).1, isNo c g.1 := by
 refine ⟨h.lanes hp (h.ls hp).over (fun _ => rfl) (fun _ => rfl), fun g hg => ?_⟩
 obtain ⟨s, hs, hx⟩ := List.mem_flatMap.1 hg
 exact h.wai p hp s hs g hx
theorem endF_len : ∀ (l os : List Int) (qs : List (List Int)) (out : List (Int × Int)), (Locks.endF l os qs out).2.2.length = out.length + l.length
 | [], _, _, _ => rfl
 | i :: r, os, qs, out => by
  unfold Locks.endF
  rw [endF_len r]
  simp
  omega
theorem endA_len (os : List Int) (qs : List (List Int)) (p : Int) : (Locks.endA os qs p).2.2.length ≤ os.length := by
 unfold Locks.endA
 rw [endF_len]
 have := Locks.holdTo_len os p os.length
 show [].length + (Locks.holdTo os p os.length).length ≤ os.length
 simpa using this
theorem wC_cell {w : World} {a : Option Addr} {out : List (Int × Int)} {e : TypeId} {n c : Nat} (hR : Row w e 2 a n c (Locks.wC out)) {i : Nat} (hi : i < out.length) : ∃ g, a = some ⟨g, 0, none⟩ ∧ w.cell? ⟨g, i * 2, none⟩ = some (.int .i64 (out.getD i (0, 0)).1) ∧ w.cell? ⟨g, i * 2 + 1, none⟩ = some (.int .i64 (out.getD i (0, 0)).2) := by
 have hl := hR.len
 have hl2 : (Locks.wC out).length = out.length * 2 := Locks.wC_len out
 have e1 := Locks.wC_at out i hi
 obtain ⟨g, rfl, h1⟩ := hR.cell (i * 2) (by omega)
 obtain ⟨g', e2, h2⟩ := hR.cell (i * 2 + 1) (by omega)
 cases e2
 exact ⟨g, rfl, by rw [h1, e1.1], by rw [h2, e1.2]⟩
structure Beside (w : World) (l : Lay) (U : Nat → Prop) (m : MS) (a : Option Addr) (n c : Nat) (out : List (Int × Int)) (e : TypeId) : Prop where
 ma : Mk w l U m
 row : Row w e 2 a n c (Locks.wC out)
 ap : ∀ k, blk a = some k → ¬ U k
theorem Beside.step {w w' : World} {l : Lay} {U U' : Nat → Prop} {m m' : MS} {a : Option Addr} {n c : Nat} {out : List (Int × Int)} {e : TypeId} (h : Beside w l U m a n c out e) (t : To w U w' U') (hk : Mk w' l U' m') : Beside w' l U' m' a n c out e :=
 ⟨hk, h.row.mod t.1 h.ap, fun k hk hu => by
  rcases t.2 k hu with h1 | h1
  ·exact h.ap k hk h1
  ·have := h.row.lt k hk
   omega⟩
theorem Beside.below {w w' : World} {l : Lay} {U : Nat → Prop} {m : MS} {a : Option Addr} {n c : Nat} {out : List (Int × Int)} {e : TypeId} (h : Beside w l U m a n c out e) (hb : Below w.heap.size w w') : Beside w' l U m a n c out e := ⟨h.ma.below hb, h.row.below hb, h.ap⟩
end Go.Proofs.YthnjeejnnhadeaaGreatDoor
