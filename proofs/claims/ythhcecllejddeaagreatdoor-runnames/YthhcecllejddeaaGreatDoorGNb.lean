/- A region that draws its order: loads are taken first though its last operation writes one of their cells. -/
import Derived.Test.YthhcecllejddeaaGreatDoorGNa
import Derived.Test.YthhcecllejddeaaGreatDoorGXLW1
import Derived.Deep.RegionHeld
import Derived.StillTail
namespace Go.Proofs.YthhcecllejddeaaGreatDoor
open Go.RowKit
section
variable {P : Program} {ops : Array Oper} {Q : Exit → Act → World → Prop} {md : Region.Mode} {S : World → Prop} {z : Nat}
def wpAnyZ (P : Program) (md : Region.Mode) (ops : Array Oper) (Q : Exit → Act → World → Prop) (S : World → Prop) (z : Nat) : Nat → Array Bool → Act → World → Prop
 | 0, listed, a, w => Region.ready md ops listed = [] ∧ Q .normal a w
 | fuel + 1, listed, a, w => (Region.ready md ops listed = [] → Q .normal a w) ∧
   ∀ i ∈ Region.ready md ops listed, wpOp P ops Q i (fun a' w' => (i ≠ z → S w') ∧ wpAnyZ P md ops Q S z fuel (listed.setIfInBounds i true) a' w') a w
theorem wpAnyZ.any : ∀ (fuel : Nat) (listed : Array Bool) (a : Act) (w : World), wpAnyZ P md ops Q S z fuel listed a w → wpAny P md ops Q fuel listed a w
 | 0, _, _, _, h => h
 | fuel + 1, _, _, _, h => ⟨h.1, fun i hi => wpOp_mono (fun a' w' h' => wpAnyZ.any fuel _ a' w' h'.2) (h.2 i hi)⟩
theorem z_waits {i j : Nat} {listed : Array Bool} (hw : Region.waitsFor md ops z i = true) (hi : i ∈ Region.ready md ops listed) (hj : j ∈ Region.ready md ops listed) : j ≠ z := by
 intro e
 subst e
 obtain ⟨oz, hz, e, he, hb, hon⟩ := Region.waitsFor_spec hw
 obtain ⟨_, oj, hoj, hall⟩ := mem_ready.1 hj
 rw [hz] at hoj
 cases hoj
 have h1 := hall e he hb
 have h0 := (mem_ready.1 hi).1
 rw [hon] at h1
 rcases Nat.lt_or_ge i listed.size with h' | h'
 ·simp [h'] at h0 h1
  rw [h0] at h1
  cases h1
 ·simp [Array.getElem?_eq_none h'] at h1
theorem wpAnyZ_first {i : Nat} {oi : Oper} {v : Value} (hi : ops[i]? = some oi) (hw : Region.waitsFor md ops z i = true) (hsel : ∀ (j : Nat) (o : Oper) cs b, ops[j]? = some o → o.op ≠ .select cs b)
  (hQ : ∀ c a w, Q (.panic c) (a.put oi.dst v) w → Q (.panic c) a w) :
  ∀ (fuel : Nat) (listed : Array Bool) (a : Act) (w : World),
   (∀ j oj, ops[j]? = some oj → j ≠ i → listed.getD j true = false → (∀ e ∈ oj.after, Region.binds md e = true → e.on ≠ i) → oi.apart ops oj = true) →
   i ∈ Region.ready md ops listed → YieldsIf P ops S oi v a → S w →
   wpAnyZ P md ops Q S z fuel (listed.setIfInBounds i true) (a.put oi.dst v) w → wpAnyZ P md ops Q S z (fuel + 1) listed a w := by
 intro fuel
 induction fuel with
 | zero =>
  intro listed a w _ hr hy hS H
  refine ⟨fun h => (by rw [h] at hr; cases hr), fun j hj => ?_⟩
  by_cases hji : j = i
  ·subst hji
   exact hy.wpOp hi hS ⟨fun _ => hS, H⟩
  ·have := ready_mono hj hji
   rw [H.1] at this
   cases this
 | succ fuel ih =>
  intro listed a w hfree hr hy hS H
  refine ⟨fun h => (by rw [h] at hr; cases hr), fun j hj => ?_⟩
  by_cases hji : j = i
  ·subst hji
   exact hy.wpOp hi hS ⟨fun _ => hS, H⟩
  ·have hjz := z_waits hw hr hj
   have h1 := H.2 j (ready_mono hj hji)
   obtain ⟨hjun, oj, hoj, hall⟩ := mem_ready.1 hj
   have hnot : ∀ e ∈ oj.after, Region.binds md e = true → e.on ≠ i := fun e he hb heq => by
    have h1 := hall e he hb
    have h0 := (mem_ready.1 hr).1
    rw [heq] at h1
    rcases Nat.lt_or_ge i listed.size with h' | h'
    ·simp [h'] at h0 h1
     rw [h0] at h1
     cases h1
    ·simp [Array.getElem?_eq_none h'] at h1
   have h2 := wpOp_putIf hoj (hfree j oj hoj hji hjun hnot) (fun cs b => hsel i oi cs b hi) (fun cs b => hsel j oj cs b hoj) hQ hy h1
   have hfree' : ∀ k ok, ops[k]? = some ok → k ≠ i → (listed.setIfInBounds j true).getD k true = false →
     (∀ e ∈ ok.after, Region.binds md e = true → e.on ≠ i) → oi.apart ops ok = true := fun k ok hk hki hun hno => by
    refine hfree k ok hk hki ?_ hno
    by_cases hjk : j = k
    ·subst hjk
     exact hjun
    ·rw [getD_set_ne true hjk] at hun
     exact hun
   refine wpOp_mono (fun a' w' h3 => ⟨h3.2.1, ih (listed.setIfInBounds j true) a' w' hfree' (ready_mono hr (Ne.symm hji)) h3.1 (h3.2.1 hjz) ?_⟩) h2
   rw [Array.setIfInBounds_comm _ _ hji]
   exact h3.2.2
theorem wpAnyZ_take {i : Nat} {oi : Oper} {v : Value} {fuel : Nat} {listed : Array Bool} {a : Act} {w : World} (hi : ops[i]? = some oi) (hw : Region.waitsFor md ops z i = true)
  (hs : Region.noSelect ops = true) (hf : Region.free md ops listed i = true) (hr : (Region.ready md ops listed).contains i = true)
  (hQ : ∀ c a w, Q (.panic c) (a.put oi.dst v) w → Q (.panic c) a w) (hy : YieldsIf P ops S oi v a) (hS : S w)
  (h : wpAnyZ P md ops Q S z fuel (listed.setIfInBounds i true) (a.put oi.dst v) w) : wpAnyZ P md ops Q S z (fuel + 1) listed a w :=
 wpAnyZ_first hi hw (Region.noSelect_spec hs) hQ fuel listed a w (Region.free_spec hi hf) (by simpa using hr) hy hS h
theorem wpAnyZ_one {i : Nat} {o : Oper} {fuel : Nat} {listed : Array Bool} {a : Act} {w : World} (hr : Region.ready md ops listed = [i]) (ho : ops[i]? = some o)
  (h : ∀ K' : Act → World → Prop, Shut (∀ a w, (i ≠ z → S w) → wpAnyZ P md ops Q S z fuel (listed.setIfInBounds i true) a w → K' a w) → if Region.wanted o (yielded ops a.tmps) = true then Oper.wp P o a w K' Q else K' (a.put o.dst undef) w) : wpAnyZ P md ops Q S z (fuel + 1) listed a w := by
 refine ⟨fun h0 => (by rw [hr] at h0; cases h0), fun j hj => ?_⟩
 rw [hr] at hj
 rcases List.mem_singleton.1 hj with rfl
 exact wpOp_step ho (fun K' hK => h K' (fun a w h1 h2 => hK a w ⟨h1, h2⟩))
theorem wpAnyZ_two {i i2 : Nat} {o o2 : Oper} {fuel : Nat} {listed : Array Bool} {a : Act} {w : World} (hr : Region.ready md ops listed = [i, i2]) (ho : ops[i]? = some o) (ho2 : ops[i2]? = some o2)
  (h : ∀ K' : Act → World → Prop, Shut (∀ a w, (i ≠ z → S w) → wpAnyZ P md ops Q S z fuel (listed.setIfInBounds i true) a w → K' a w) → if Region.wanted o (yielded ops a.tmps) = true then Oper.wp P o a w K' Q else K' (a.put o.dst undef) w)
  (h2 : ∀ K' : Act → World → Prop, Shut (∀ a w, (i2 ≠ z → S w) → wpAnyZ P md ops Q S z fuel (listed.setIfInBounds i2 true) a w → K' a w) → if Region.wanted o2 (yielded ops a.tmps) = true then Oper.wp P o2 a w K' Q else K' (a.put o2.dst undef) w) : wpAnyZ P md ops Q S z (fuel + 1) listed a w := by
 refine ⟨fun h0 => (by rw [hr] at h0; cases h0), fun j hj => ?_⟩
 rw [hr] at hj
 rcases List.mem_cons.1 hj with rfl | hj
 ·exact wpOp_step ho (fun K' hK => h K' (fun a w h1 h2 => hK a w ⟨h1, h2⟩))
 ·rcases List.mem_singleton.1 hj with rfl
  exact wpOp_step ho2 (fun K' hK => h2 K' (fun a w h1 h2 => hK a w ⟨h1, h2⟩))
theorem wpAnyZ_done {listed : Array Bool} {a : Act} {w : World} (hr : Region.ready md ops listed = []) (h : Q .normal a w) : ∀ fuel, wpAnyZ P md ops Q S z fuel listed a w
 | 0 => ⟨hr, h⟩
 | _ + 1 => ⟨fun _ => h, by rw [hr]; simp⟩
theorem wp_region_z {id : Nat} {a : Act} {w : World} (hm : P.follows .mixedOrders = true) (z : Nat) (S : World → Prop) (hS : S w.drew) (h : S w.drew → wpAnyZ P .any ops Q S z ops.size (Array.replicate ops.size false) a w.drew) : (Code.region id ops true).wp P Q a w :=
 wp_region_any hm (wpAnyZ.any _ _ _ _ (h hS))
end
end Go.Proofs.YthhcecllejddeaaGreatDoor

namespace Go.Proofs.YthhcecllejddeaaGreatDoor
open Go.RowKit
structure RdF (wr wn : World) (k : Nat) (oa : Option Addr) (oc : Nat) (qa : Option Addr) (qc : Nat) : Prop where
 h1 : Row wn 3 1 oa k oc (Locks.iC (List.replicate k (-1)))
 h2 : Row wn 24 1 qa k qc (Locks.sC (List.replicate k (none, 0, [])))
 n1 : ∀ j, blk oa = some j → wr.heap.size ≤ j
 n2 : ∀ j, blk qa = some j → wr.heap.size ≤ j
 ne : ∀ j, blk oa = some j → blk qa ≠ some j
 bel : Below wr.heap.size wr wn
theorem row_zq {w : World} {g k : Nat} (h : w.heap[g]? = some (.cells (zq k) 24 (0, 0))) (hk : k ≤ 8) : Row w 24 1 (some ⟨g, 0, none⟩) k k (Locks.sC (List.replicate k (none, 0, []))) := by
 rw [← zq_eq]
 exact row_new h (zq_size k) (by unfold maxLen; omega)
theorem rdF_a {wr w1 : World} {k : Nat} {oa : Option Addr} {oc : Nat} (hk : k ≤ 8) {ob : Obj} (h1 : Row w1 3 1 oa k oc (Locks.iC (List.replicate k (-1)))) (n1 : ∀ j, blk oa = some j → (wr.alloc ob).drew.heap.size ≤ j) (b1' : Below (wr.alloc ob).drew.heap.size (wr.alloc ob).drew w1) :
  RdF wr (w1.alloc (.cells (zq k) 24)) k oa oc (some ⟨w1.heap.size, 0, none⟩) k := by
 have b1 := bel_dr b1'
 have b0 : Below wr.heap.size wr (wr.alloc ob) := below_al wr _
 have hs : (wr.alloc ob).heap.size = wr.heap.size + 1 := by simp
 have hs1 := b1.size
 rw [hs] at hs1 b1
 have n1 : ∀ j, blk oa = some j → wr.heap.size + 1 ≤ j := fun j hj => by rw [← hs]; exact n1 j hj
 have b2 : Below wr.heap.size wr w1 := b0.trans (b1.mono (by omega))
 refine ⟨h1.below (below_al w1 _), row_zq (heap_alloc_new w1 _) hk, fun j hj => by have := n1 j hj; omega, fun j hj => by have e : w1.heap.size = j := Option.some.inj hj; omega, fun j hj e => ?_, b2.alloc (by omega) _⟩
 have := h1.lt j hj
 have e' : w1.heap.size = j := Option.some.inj e
 omega
theorem rdF_b {wr w1 : World} {k : Nat} {oa : Option Addr} {oc : Nat} (hk : k ≤ 8) {ob : Obj} (h1 : Row w1 3 1 oa k oc (Locks.iC (List.replicate k (-1)))) (n1 : ∀ j, blk oa = some j → ((wr.alloc ob).alloc (.cells (zq k) 24)).drew.heap.size ≤ j) (b1' : Below ((wr.alloc ob).alloc (.cells (zq k) 24)).drew.heap.size ((wr.alloc ob).alloc (.cells (zq k) 24)).drew w1) :
  RdF wr w1 k oa oc (some ⟨wr.heap.size + 1, 0, none⟩) k := by
 have b1 := bel_dr b1'
 have b0 : Below wr.heap.size wr (wr.alloc ob) := below_al wr _
 have hs : (wr.alloc ob).heap.size = wr.heap.size + 1 := by simp
 have b0' : Below wr.heap.size wr ((wr.alloc ob).alloc (.cells (zq k) 24)) := b0.alloc (by omega) _
 have hh := heap_alloc_new (wr.alloc ob) (.cells (zq k) 24)
 rw [hs] at hh
 have hs2 : ((wr.alloc ob).alloc (.cells (zq k) 24)).heap.size = wr.heap.size + 2 := by simp
 have hs1 := b1.size
 rw [hs2] at hs1 b1
 have n1 : ∀ j, blk oa = some j → wr.heap.size + 2 ≤ j := fun j hj => by rw [← hs2]; exact n1 j hj
 have hq : w1.heap[wr.heap.size + 1]? = _ := (b1.block _ (by omega)).trans hh
 exact ⟨h1, row_zq hq hk, fun j hj => by have := n1 j hj; omega, fun j hj => by have e : wr.heap.size + 1 = j := Option.some.inj hj; omega, fun j hj e => by have := n1 j hj; have e' : wr.heap.size + 1 = j := Option.some.inj e; omega, b0'.trans (b1.mono (by omega))⟩
theorem rdF_c {wr w1 : World} {k : Nat} {oa : Option Addr} {oc : Nat} (hk : k ≤ 8) {ob : Obj} (h1 : Row w1 3 1 oa k oc (Locks.iC (List.replicate k (-1)))) (n1 : ∀ j, blk oa = some j → ((wr.alloc (.cells (zq k) 24)).alloc ob).drew.heap.size ≤ j) (b1' : Below ((wr.alloc (.cells (zq k) 24)).alloc ob).drew.heap.size ((wr.alloc (.cells (zq k) 24)).alloc ob).drew w1) :
  RdF wr w1 k oa oc (some ⟨wr.heap.size, 0, none⟩) k := by
 have b1 := bel_dr b1'
 have b0 : Below wr.heap.size wr (wr.alloc (.cells (zq k) 24)) := below_al wr _
 have hs : (wr.alloc (.cells (zq k) 24)).heap.size = wr.heap.size + 1 := by simp
 have b0' : Below wr.heap.size wr ((wr.alloc (.cells (zq k) 24)).alloc ob) := b0.alloc (by omega) _
 have hh : (wr.alloc (.cells (zq k) 24)).heap[wr.heap.size]? = some (.cells (zq k) 24 (0, 0)) := heap_alloc_new wr (.cells (zq k) 24)
 have hs2 : ((wr.alloc (.cells (zq k) 24)).alloc ob).heap.size = wr.heap.size + 2 := by simp
 have hs1 := b1.size
 rw [hs2] at hs1 b1
 have n1 : ∀ j, blk oa = some j → wr.heap.size + 2 ≤ j := fun j hj => by rw [← hs2]; exact n1 j hj
 have hq : w1.heap[wr.heap.size]? = _ := (b1.block _ (by omega)).trans (((below_al (wr.alloc (.cells (zq k) 24)) ob).block _ (by omega)).trans hh)
 exact ⟨h1, row_zq hq hk, fun j hj => by have := n1 j hj; omega, fun j hj => by have e : wr.heap.size = j := Option.some.inj hj; omega, fun j hj e => by have := n1 j hj; have e' : wr.heap.size = j := Option.some.inj e; omega, b0'.trans (b1.mono (by omega))⟩
theorem new_cellA {w : World} {T : TypeId} {v : Value} : (w.alloc (.cells #[v] T)).drew.cell? ⟨w.heap.size, 0, none⟩ = some v := by
 rw [cell_of_row _ _ _ _ _ _ (heap_drew (heap_alloc_new w (.cells #[v] T)))]
 rfl
theorem new_cellB {w : World} {T : TypeId} {v : Value} {ob : Obj} : ((w.alloc (.cells #[v] T)).alloc ob).drew.cell? ⟨w.heap.size, 0, none⟩ = some v := by
 have h2 : ((w.alloc (.cells #[v] T)).alloc ob).heap[w.heap.size]? = _ := ((below_al (w.alloc (.cells #[v] T)) ob).block _ (by simp)).trans (heap_alloc_new w (.cells #[v] T))
 rw [cell_of_row _ _ _ _ _ _ (heap_drew h2)]
 rfl
theorem new_cellC {w : World} {T : TypeId} {v : Value} {ob : Obj} : ((w.alloc ob).alloc (.cells #[v] T)).drew.cell? ⟨w.heap.size + 1, 0, none⟩ = some v := by
 have h3 := heap_alloc_new (w.alloc ob) (.cells #[v] T)
 have e : (w.alloc ob).heap.size = w.heap.size + 1 := by simp
 rw [e] at h3
 rw [cell_of_row _ _ _ _ _ _ (heap_drew h3)]
 rfl
theorem bel_c1 {w w1 : World} {ob : Obj} (b : Below (w.alloc ob).drew.heap.size (w.alloc ob).drew w1) : Below w.heap.size w w1 := (below_al w ob).trans ((bel_dr b).mono (by simp))
theorem bel_c2 {w w1 : World} {ob ob2 : Obj} (b : Below ((w.alloc ob).alloc ob2).drew.heap.size ((w.alloc ob).alloc ob2).drew w1) : Below w.heap.size w w1 := ((below_al w ob).alloc (by simp) ob2).trans ((bel_dr b).mono (by simp; omega))
theorem zq_lit (k : Nat) : madeCells #[Value.slice none 0 0] k = zq k := by
 unfold zq
 rw [Nat.mul_one]
 rfl
set_option maxRecDepth 100000 in
set_option maxHeartbeats 8000000 in
theorem first_any (c : Cfg) (g : Loc) (w : World) (hc : CfgOk c) : Calls Tryz.prog 36 #[cfV c g] w (StOut w (firstM c)) := by
 have HC := hd hc
 obtain ⟨Q, hQ⟩ : ∃ Q, Hid (StOut w (firstM c) = Q) := ⟨_, rfl⟩
 rw [hQ.out]
 have hbW := below_al w (.cells (cfA c g) 27)
 have hbx := heap_alloc_new w (.cells (cfA c g) 27)
 obtain ⟨W, hW⟩ : ∃ W, Hid (w.alloc (.cells (cfA c g) 27) = W) := ⟨_, rfl⟩
 rw [hW.out] at hbW hbx
 have hWs : W.heap.size = w.heap.size + 1 := by rw [← hW.out]; simp
 have hb0 := below_al W (.cells z51 47)
 have HI0 : Hid (SI W ((W.alloc (.cells z51 47)).alloc (.cells z51 47)) (W.heap.size + 1) 0 [] none 0 0 [] none 0 0 (fun _ _ => False)) := hd (by
  have e : (W.alloc (.cells z51 47)).heap.size = W.heap.size + 1 := by simp
  refine ⟨rfl, rfl, ?_, ?_, Row.nil, Row.nil, Bag.nil _ _ _, fun k hk => (by cases hk), fun k hk => (by cases hk), rfl, hb0.alloc hb0.size _⟩
  ·have := heap_alloc_new (W.alloc (.cells z51 47)) (.cells z51 47)
   rw [e] at this
   exact this
  ·rw [(below_al (W.alloc (.cells z51 47)) _).block _ (by omega)]
   exact heap_alloc_new W _)
 obtain ⟨np, hnp⟩ : ∃ n, Hid (c.labels.length = n) := ⟨_, rfl⟩
 obtain ⟨nq, hnq⟩ : ∃ n, Hid (c.procs.length = n) := ⟨_, rfl⟩
 obtain ⟨nk, hnk⟩ : ∃ n : Nat, Hid (c.locks = (n : Int)) := ⟨c.locks.toNat, hd (by have := hc.k0; omega)⟩
 have hnp8 : np ≤ 8 := by rw [← hnp.out]; exact hc.n8
 have hnq32 : nq ≤ 32 := by rw [← hnq.out]; exact hc.p32
 have hnk8 : nk ≤ 8 := by have := hc.k8; have := hnk.out; omega
 obtain ⟨B, hB⟩ : ∃ B, Hid (w.heap.size = B) := ⟨_, rfl⟩
 have HD : Hid (∀ V, Below W.heap.size W V → V.cell? ⟨B, 0, none⟩ = some (.slice g.la np g.lc) ∧ V.cell? ⟨B, 4, none⟩ = some (.int .i64 (nk : Int)) ∧ V.cell? ⟨B, 6, none⟩ = some (.slice g.pa nq g.pc)) := hd (fun V hb => by
  have hk : V.heap[B]? = some (.cells (cfA c g) 27 (0, 0)) := by rw [← hB.out, hb.block _ (by omega)]; exact hbx
  refine ⟨?_, ?_, ?_⟩
  ·rw [cell_of_row _ _ _ _ _ _ hk, ← hnp.out]; rfl
  ·rw [cell_of_row _ _ _ _ _ _ hk, ← hnk.out]; rfl
  ·rw [cell_of_row _ _ _ _ _ _ hk, ← hnq.out]; rfl)
 have HBG : Hid (B < W.heap.size) := hd (by rw [← hB.out]; omega)
 have HPT : Hid ((firstM c).pt = List.replicate np (pt0 nk)) := hd (by rw [firstM_eq, hnp.out, hnk.out]; rfl)
 have HPR : Hid ((firstM c).pr = List.replicate nq (pr0 np c.lane.toNat)) := hd (by rw [firstM_eq, hnp.out, hnq.out])
 have HBW := hd hbW
 have HWS := hd hWs
 have HRC := hd (fun (w' : World) (gx : Nat) (h : w'.cell? ⟨gx, 0, none⟩ = some (.int .i64 (-1))) => Locks.repeat_row h hnk8)
 have hmk := Locks.make_eq 102 24 _ 1 24 Tryz.underlying102 info_lint nk (by omega) (by unfold maxLen; omega)
 clear hbW hbx hWs hb0 hc
 unfold z51 at HI0
 unfold cfA at hW
 unfold cfV cfA
 go_enter Tryz.func36, Tryz.ntmps36
 go_upto_region 2 with fail
 rw [hW.out, hB.out]
 obtain ⟨W0, hW0⟩ : ∃ V, Hid ((W.alloc (.cells #[.int .i64 0, .slice none 0 0, .slice none 0 0] 47)).alloc (.cells #[.int .i64 0, .slice none 0 0, .slice none 0 0] 47) = V) := ⟨_, rfl⟩
 obtain ⟨R, hR⟩ : ∃ R, Hid (B + 1 = R) := ⟨_, rfl⟩
 obtain ⟨G, hG⟩ : ∃ G, Hid (R + 1 = G) := ⟨_, rfl⟩
 have HWR : Hid (W.heap.size = R) := hd (by rw [HWS.out, hB.out, hR.out])
 rw [hR.out, hG.out]
 rw [hW0.out] at HI0 ⊢
 rw [HWR.out, hG.out] at HI0
 clear hW hW0
 obtain ⟨v0, -, v6⟩ := HD.out W0 HI0.out.bel
 have HR0 : Hid (∃ ps Fs, SI W W0 G 0 ps none 0 0 [] none 0 0 Fs ∧ ps.map (·.x) = (firstM c).pt.take 0) := hd ⟨[], _, HI0.out, by simp⟩
 clear HI0
 go_wp2_with fail
 go_loopg [7] np (fun k v7 wr => ∃ (j : Nat), v7 = .int .i64 (j : Int) ∧ j + k = np ∧ Hid (∃ ps a c' Fs, SI W wr G 0 ps a j c' [] none 0 0 Fs ∧ ps.map (·.x) = (firstM c).pt.take j))
 case atStart => exact ⟨0, rfl, by omega, hd (by obtain ⟨ps, Fs, h1, h2⟩ := HR0.out; exact ⟨ps, none, 0, Fs, h1, h2⟩)⟩
 case round =>
  obtain ⟨j, rfl, hjk, HH⟩ := hrel
  clear HR0 v0 v6
  obtain ⟨ps, a, ca, Fs, hI, hps⟩ := HH.out
  clear HH
  by_cases hlt : j < np
  ·have hlt' : (j : Int) < (np : Int) := by omega
   have HS : Hid (∀ V, Below wr.heap.size wr V → V.cell? ⟨B, 4, none⟩ = some (.int .i64 (nk : Int)) ∧ V.cell? ⟨G, 1, none⟩ = some (.slice a j ca)) := hd (fun V hb => ⟨(HD.out V (hI.bel.trans (hb.mono hI.bel.size))).2.1, cell_of_row V G 1 _ _ _ (hI.below hb).box⟩)
   have HN : Hid (∀ (wn : World) (gz : Nat) (oa : Option Addr) (oc : Nat) (qa : Option Addr) (qc : Nat), wn.heap.size = gz → RdF wr wn nk oa oc qa qc → ∃ (a' : Option Addr) (c' : Nat) (w2 : World),
     (∀ ty, (Builtin.append_ #[44, 44] ty #[.slice a j ca, .slice (some ⟨gz, 0, none⟩) 1 1]).run Tryz.prog (wn.alloc (.cells #[.int .i64 0, .slice none 0 0, .int .i64 0, .int .i64 0, .slice oa nk oc, .slice qa nk qc] 104)) = .ok (.slice a' (j + 1) c') w2) ∧
     (w2.cell? ⟨B, 4, none⟩ = some (.int .i64 (nk : Int)) ∧ w2.cell? ⟨G, 1, none⟩ = some (.slice a j ca)) ∧ w2.frozen? ⟨G, 1, none⟩ = false ∧
     Hid (∃ ps Fs, SI W (w2.setCell ⟨G, 1, none⟩ (.slice a' (j + 1) c')) G 0 ps a' (j + 1) c' [] none 0 0 Fs ∧ ps.map (·.x) = (firstM c).pt.take (j + 1))) := hd (fun wn gz oa oc qa qc hgz hr => by
    subst hgz
    have h1 := hI.below hr.bel
    have hat := ptT0_at hr.h1 hr.h2 hr.n1 hr.n2 hr.ne
    obtain ⟨a', c', w2, q1, q2, q3, q4⟩ := push_big (T := 44) Tryz.underlying44 info_part rfl (by omega) h1.rp (by omega) (ptL (ptT0 nk oa oc qa qc)) rfl (ptL_one _)
    have hGl := (Array.getElem?_eq_some_iff.1 h1.box).1
    have hga : blk a ≠ some G := fun e => by have := (hI.ag G e).1; have := hI.gg; omega
    have hbB : blk a ≠ some B := fun e => by have := (hI.ag B e).1; have := HBG.out; omega
    have hbG : w2.heap[G]? = wn.heap[G]? := q3.block _ hGl hga
    have hBl : B < wn.heap.size := by have := HBG.out; have := h1.bel.size; omega
    have hlen : (ptT0 nk oa oc qa qc).x.os.length = nk := by simp [ptT0, pt0]
    have hlog : (ptT0 nk oa oc qa qc).x.log.length = 0 := rfl
    refine ⟨a', c', w2, fun ty => ?_, ⟨?_, (World.cell?_of_block (w := wn) hbG).trans (cell_of_row wn G 1 _ _ _ h1.box)⟩, (World.frozen?_of_block (w := wn) hbG).trans (by simp [World.frozen?, h1.box]), hd ?_⟩
    ·have := q1 ty
     unfold ptL at this
     rw [hlen, hlog] at this
     exact this
    ·rw [q3.cell (p := ⟨B, 4, none⟩) hBl hbB]
     exact (HS.out wn hr.bel).1
    ·obtain ⟨Fs', h2⟩ := hI.pushP hr.bel hat q2 q3 q4
     refine ⟨_, Fs', h2, ?_⟩
     rw [List.map_append, hps, HPT.out, List.take_replicate, List.take_replicate, Nat.min_eq_left (by omega), Nat.min_eq_left (by omega), List.replicate_succ']
     rfl)
   clear hI
   go_upto_region 4 with fail
   obtain ⟨gw, hgw⟩ : ∃ n, Hid (wr.heap.size = n) := ⟨_, rfl⟩
   refine wp_region_z (by kernel_rfl) 13 (fun w' => w'.cell? ⟨B, 4, none⟩ = some (.int .i64 (nk : Int)) ∧ w'.cell? ⟨G, 1, none⟩ = some (.slice a j ca)) (HS.out _ (bel_drew wr)) (fun hHeld => ?_)
   refine wpAnyZ_take (i := 0) (oi := { dst := some 9, op := Op.fieldAddr 47 (Operand.tmp 3) 1, type := 0, pos := _, after := #[], guard := none }) (v := ?v1) rfl (by kernel_rfl) (by kernel_rfl) (by kernel_rfl) (by kernel_rfl) (fun _ _ _ h => h) (Or.inl ⟨by rfl, ?hy1⟩) (by assumption) ?rest1
   case hy1 => (intro w5 hSw; (try dsimp only at hSw); first | (go_simp; done) | (go_simp; with_reducible rfl))
   simp only [Act.put, List.setIfInBounds_toArray, List.set_cons_zero, List.set_cons_succ]
   refine wpAnyZ_take (i := 1) (oi := { dst := some 10, op := Op.load 44 (Operand.tmp 9), type := 44, pos := _, after := #[{ on := 0, ground := Ground.data }], guard := none }) (v := ?v2) rfl (by kernel_rfl) (by kernel_rfl) (by kernel_rfl) (by kernel_rfl) (fun _ _ _ h => h) (Or.inl ⟨by rfl, ?hy2⟩) (by assumption) ?rest2
   case hy2 => (intro w5 hSw; (try dsimp only at hSw); first | (go_simp; done) | (go_simp; with_reducible rfl))
   simp only [Act.put, List.setIfInBounds_toArray, List.set_cons_zero, List.set_cons_succ]
   refine wpAnyZ_take (i := 3) (oi := { dst := some 12, op := Op.fieldAddr 27 (Operand.tmp 1) 4, type := 0, pos := _, after := #[], guard := none }) (v := ?v3) rfl (by kernel_rfl) (by kernel_rfl) (by kernel_rfl) (by kernel_rfl) (fun _ _ _ h => h) (Or.inl ⟨by rfl, ?hy3⟩) (by assumption) ?rest3
   case hy3 => (intro w5 hSw; (try dsimp only at hSw); first | (go_simp; done) | (go_simp; with_reducible rfl))
   simp only [Act.put, List.setIfInBounds_toArray, List.set_cons_zero, List.set_cons_succ]
   refine wpAnyZ_take (i := 4) (oi := { dst := some 13, op := Op.load 3 (Operand.tmp 12), type := 3, pos := _, after := #[{ on := 3, ground := Ground.data }], guard := none }) (v := ?v4) rfl (by kernel_rfl) (by kernel_rfl) (by kernel_rfl) (by kernel_rfl) (fun _ _ _ h => h) (Or.inl ⟨by rfl, ?hy4⟩) (by assumption) ?rest4
   case hy4 => (intro w5 hSw; (try dsimp only at hSw); first | (go_simp; done) | (go_simp; with_reducible rfl))
   simp only [Act.put, List.setIfInBounds_toArray, List.set_cons_zero, List.set_cons_succ]
   refine wpAnyZ_take (i := 6) (oi := { dst := some 15, op := Op.fieldAddr 27 (Operand.tmp 1) 4, type := 0, pos := _, after := #[], guard := none }) (v := ?v5) rfl (by kernel_rfl) (by kernel_rfl) (by kernel_rfl) (by kernel_rfl) (fun _ _ _ h => h) (Or.inl ⟨by rfl, ?hy5⟩) (by assumption) ?rest5
   case hy5 => (intro w5 hSw; (try dsimp only at hSw); first | (go_simp; done) | (go_simp; with_reducible rfl))
   simp only [Act.put, List.setIfInBounds_toArray, List.set_cons_zero, List.set_cons_succ]
   refine wpAnyZ_take (i := 7) (oi := { dst := some 16, op := Op.load 3 (Operand.tmp 15), type := 3, pos := _, after := #[{ on := 6, ground := Ground.data }], guard := none }) (v := ?v6) rfl (by kernel_rfl) (by kernel_rfl) (by kernel_rfl) (by kernel_rfl) (fun _ _ _ h => h) (Or.inl ⟨by rfl, ?hy6⟩) (by assumption) ?rest6
   case hy6 => (intro w5 hSw; (try dsimp only at hSw); first | (go_simp; done) | (go_simp; with_reducible rfl))
   simp only [Act.put, List.setIfInBounds_toArray, List.set_cons_zero, List.set_cons_succ]
   refine wpAnyZ_two (i := 2) (i2 := 8) (o := { dst := some 11, op := Op.buildSlice 24 1 #[(0, Operand.const (Value.int IntKind.i64 (-1)))], type := 24, pos := _, after := #[], guard := none }) (o2 := { dst := some 17, op := Op.makeSlice 102 (Operand.tmp 16) (Operand.tmp 16), type := 102, pos := _, after := #[{ on := 7, ground := Ground.data }, { on := 7, ground := Ground.data }], guard := none }) (by kernel_rfl) rfl rfl (fun K hK => ?_) (fun K hK => ?_)
   ·go_simp
    refine hK.out _ _ (fun _ => HS.out _ (below_al wr _).drew) ?_
    clear hK K
    try simp only [Act.put, List.setIfInBounds_toArray, List.set_cons_zero, List.set_cons_succ]
    refine wpAnyZ_two (i := 5) (i2 := 8) (o := { dst := some 14, op := Op.call { callee := Callee.value (Operand.func 80), args := #[Operand.tmp 11, Operand.tmp 13], argTypes := #[24, 3] }, type := 24, pos := _, after := #[{ on := 2, ground := Ground.data }, { on := 4, ground := Ground.data }], guard := none }) (o2 := { dst := some 17, op := Op.makeSlice 102 (Operand.tmp 16) (Operand.tmp 16), type := 102, pos := _, after := #[{ on := 7, ground := Ground.data }, { on := 7, ground := Ground.data }], guard := none }) (by kernel_rfl) rfl rfl (fun K hK => ?_) (fun K hK => ?_)
    ·go_simp
     (with_reducible refine (HRC.out _ _ new_cellA).mono ?_)
     rintro e w1 ⟨oa, oc, rfl, r1, r2, r3⟩
     go_simp
     have hb1 := bel_c1 r3
     refine hK.out _ _ (fun _ => HS.out _ hb1) ?_
     clear hK K
     try simp only [Act.put, List.setIfInBounds_toArray, List.set_cons_zero, List.set_cons_succ]
     refine wpAnyZ_one (i := 8) (o := { dst := some 17, op := Op.makeSlice 102 (Operand.tmp 16) (Operand.tmp 16), type := 102, pos := _, after := #[{ on := 7, ground := Ground.data }, { on := 7, ground := Ground.data }], guard := none }) (by kernel_rfl) rfl (fun K hK => ?_)
     go_simp
     refine hK.out _ _ (fun _ => HS.out _ (hb1.alloc hb1.size _)) ?_
     clear hK K
     try simp only [Act.put, List.setIfInBounds_toArray, List.set_cons_zero, List.set_cons_succ]
     have hb2 := hb1.alloc hb1.size (Obj.cells (madeCells #[Value.slice none 0 0] nk) 24)
     refine wpAnyZ_take (i := 9) (oi := { dst := some 18, op := Op.build 104 #[(4, Operand.tmp 14), (5, Operand.tmp 17)], type := 104, pos := _, after := #[{ on := 5, ground := Ground.data }, { on := 8, ground := Ground.data }], guard := none }) (v := ?v7) rfl (by kernel_rfl) (by kernel_rfl) (by kernel_rfl) (by kernel_rfl) (fun _ _ _ h => h) (Or.inl ⟨by rfl, ?hy7⟩) (HS.out _ hb2) ?rest7
     case hy7 => (intro w5 hSw; (try dsimp only at hSw); first | (go_simp; done) | (go_simp; with_reducible rfl))
     simp only [Act.put, List.setIfInBounds_toArray, List.set_cons_zero, List.set_cons_succ]
     refine wpAnyZ_one (i := 10) (o := { dst := some 19, op := Op.buildSlice 44 1 #[(0, Operand.tmp 18)], type := 44, pos := _, after := #[{ on := 9, ground := Ground.data }], guard := none }) (by kernel_rfl) rfl (fun K hK => ?_)
     go_simp
     refine hK.out _ _ (fun _ => HS.out _ (hb2.alloc (Below.size hb2) _)) ?_
     clear hK K
     try simp only [Act.put, List.setIfInBounds_toArray, List.set_cons_zero, List.set_cons_succ]
     obtain ⟨a', c', w2, y1, ⟨y2, y3⟩, y4, HY⟩ := HN.out (w1.alloc (Obj.cells (madeCells #[Value.slice none 0 0] nk) 24)) (w1.heap.size + 1) oa oc _ _ (by simp) (by rw [zq_lit] at *; exact rdF_a hnk8 r1 r2 r3)
     refine wpAnyZ_one (i := 11) (o := { dst := some 20, op := Op.call { callee := Callee.builtin Builtin.append, args := #[Operand.tmp 10, Operand.tmp 19], argTypes := #[44, 44] }, type := 44, pos := _, after := #[{ on := 1, ground := Ground.data }, { on := 10, ground := Ground.data }, { on := 5, ground := Ground.chain }], guard := none }) (by kernel_rfl) rfl (fun K hK => ?_)
     refine Lane.step_append_run (by rfl) _ _ _ (by rfl) _ _ _ _ (by rfl) (by rfl) y1 ?_
     refine hK.out _ _ (fun _ => ⟨y2, y3⟩) ?_
     clear hK K y1
     try simp only [Act.put, List.setIfInBounds_toArray, List.set_cons_zero, List.set_cons_succ]
     refine wpAnyZ_take (i := 12) (oi := { dst := some 21, op := Op.fieldAddr 47 (Operand.tmp 3) 1, type := 0, pos := _, after := #[{ on := 0, ground := Ground.phase }, { on := 1, ground := Ground.phase }, { on := 2, ground := Ground.phase }, { on := 3, ground := Ground.phase }, { on := 4, ground := Ground.phase }, { on := 5, ground := Ground.phase }, { on := 6, ground := Ground.phase }, { on := 7, ground := Ground.phase }, { on := 8, ground := Ground.phase }, { on := 9, ground := Ground.phase }, { on := 10, ground := Ground.phase }, { on := 11, ground := Ground.phase }], guard := none }) (v := ?v8) rfl (by kernel_rfl) (by kernel_rfl) (by kernel_rfl) (by kernel_rfl) (fun _ _ _ h => h) (Or.inl ⟨by rfl, ?hy8⟩) ⟨y2, y3⟩ ?rest8
     case hy8 => (intro w5 hSw; (try dsimp only at hSw); first | (go_simp; done) | (go_simp; with_reducible rfl))
     simp only [Act.put, List.setIfInBounds_toArray, List.set_cons_zero, List.set_cons_succ]
     refine wpAnyZ_one (i := 13) (o := { dst := none, op := Op.store 44 (Operand.tmp 21) (Operand.tmp 20), type := 0, pos := _, after := #[{ on := 12, ground := Ground.data }, { on := 11, ground := Ground.data }, { on := 11, ground := Ground.chain }, { on := 0, ground := Ground.phase }, { on := 1, ground := Ground.phase }, { on := 2, ground := Ground.phase }, { on := 3, ground := Ground.phase }, { on := 4, ground := Ground.phase }, { on := 5, ground := Ground.phase }, { on := 6, ground := Ground.phase }, { on := 7, ground := Ground.phase }, { on := 8, ground := Ground.phase }, { on := 9, ground := Ground.phase }, { on := 10, ground := Ground.phase }, { on := 11, ground := Ground.phase }], guard := none }) (by kernel_rfl) rfl (fun K hK => ?_)
     go_simp
     refine hK.out _ _ (fun h => absurd rfl h) ?_
     clear hK K
     try simp only [Act.put, List.setIfInBounds_toArray, List.set_cons_zero, List.set_cons_succ]
     refine wpAnyZ_done (by kernel_rfl) ?_ _
     go_wp2_with fail
     go_roundg (gk - 1)
     case rel => exact ⟨j + 1, by go_num, by omega, hd (by obtain ⟨ps, Fs, g1, g2⟩ := HY.out; exact ⟨ps, a', c', Fs, g1, g2⟩)⟩
     case measure => omega
    ·go_simp
     refine hK.out _ _ (fun _ => HS.out _ ((below_al wr _).alloc (by simp) _).drew) ?_
     clear hK K
     try simp only [Act.put, List.setIfInBounds_toArray, List.set_cons_zero, List.set_cons_succ]
     refine wpAnyZ_one (i := 5) (o := { dst := some 14, op := Op.call { callee := Callee.value (Operand.func 80), args := #[Operand.tmp 11, Operand.tmp 13], argTypes := #[24, 3] }, type := 24, pos := _, after := #[{ on := 2, ground := Ground.data }, { on := 4, ground := Ground.data }], guard := none }) (by kernel_rfl) rfl (fun K hK => ?_)
     go_simp
     (with_reducible refine (HRC.out _ _ new_cellB).mono ?_)
     rintro e w1 ⟨oa, oc, rfl, r1, r2, r3⟩
     go_simp
     have hb1 := bel_c2 r3
     refine hK.out _ _ (fun _ => HS.out _ hb1) ?_
     clear hK K
     try simp only [Act.put, List.setIfInBounds_toArray, List.set_cons_zero, List.set_cons_succ]
     refine wpAnyZ_take (i := 9) (oi := { dst := some 18, op := Op.build 104 #[(4, Operand.tmp 14), (5, Operand.tmp 17)], type := 104, pos := _, after := #[{ on := 5, ground := Ground.data }, { on := 8, ground := Ground.data }], guard := none }) (v := ?v9) rfl (by kernel_rfl) (by kernel_rfl) (by kernel_rfl) (by kernel_rfl) (fun _ _ _ h => h) (Or.inl ⟨by rfl, ?hy9⟩) (HS.out _ hb1) ?rest9
     case hy9 => (intro w5 hSw; (try dsimp only at hSw); first | (go_simp; done) | (go_simp; with_reducible rfl))
     simp only [Act.put, List.setIfInBounds_toArray, List.set_cons_zero, List.set_cons_succ]
     refine wpAnyZ_one (i := 10) (o := { dst := some 19, op := Op.buildSlice 44 1 #[(0, Operand.tmp 18)], type := 44, pos := _, after := #[{ on := 9, ground := Ground.data }], guard := none }) (by kernel_rfl) rfl (fun K hK => ?_)
     go_simp
     refine hK.out _ _ (fun _ => HS.out _ (hb1.alloc (Below.size hb1) _)) ?_
     clear hK K
     try simp only [Act.put, List.setIfInBounds_toArray, List.set_cons_zero, List.set_cons_succ]
     obtain ⟨a', c', w2, y1, ⟨y2, y3⟩, y4, HY⟩ := HN.out w1 w1.heap.size oa oc _ _ (by simp) (by rw [zq_lit] at *; exact rdF_b hnk8 r1 r2 r3)
     refine wpAnyZ_one (i := 11) (o := { dst := some 20, op := Op.call { callee := Callee.builtin Builtin.append, args := #[Operand.tmp 10, Operand.tmp 19], argTypes := #[44, 44] }, type := 44, pos := _, after := #[{ on := 1, ground := Ground.data }, { on := 10, ground := Ground.data }, { on := 5, ground := Ground.chain }], guard := none }) (by kernel_rfl) rfl (fun K hK => ?_)
     refine Lane.step_append_run (by rfl) _ _ _ (by rfl) _ _ _ _ (by rfl) (by rfl) y1 ?_
     refine hK.out _ _ (fun _ => ⟨y2, y3⟩) ?_
     clear hK K y1
     try simp only [Act.put, List.setIfInBounds_toArray, List.set_cons_zero, List.set_cons_succ]
     refine wpAnyZ_take (i := 12) (oi := { dst := some 21, op := Op.fieldAddr 47 (Operand.tmp 3) 1, type := 0, pos := _, after := #[{ on := 0, ground := Ground.phase }, { on := 1, ground := Ground.phase }, { on := 2, ground := Ground.phase }, { on := 3, ground := Ground.phase }, { on := 4, ground := Ground.phase }, { on := 5, ground := Ground.phase }, { on := 6, ground := Ground.phase }, { on := 7, ground := Ground.phase }, { on := 8, ground := Ground.phase }, { on := 9, ground := Ground.phase }, { on := 10, ground := Ground.phase }, { on := 11, ground := Ground.phase }], guard := none }) (v := ?v10) rfl (by kernel_rfl) (by kernel_rfl) (by kernel_rfl) (by kernel_rfl) (fun _ _ _ h => h) (Or.inl ⟨by rfl, ?hy10⟩) ⟨y2, y3⟩ ?rest10
     case hy10 => (intro w5 hSw; (try dsimp only at hSw); first | (go_simp; done) | (go_simp; with_reducible rfl))
     simp only [Act.put, List.setIfInBounds_toArray, List.set_cons_zero, List.set_cons_succ]
     refine wpAnyZ_one (i := 13) (o := { dst := none, op := Op.store 44 (Operand.tmp 21) (Operand.tmp 20), type := 0, pos := _, after := #[{ on := 12, ground := Ground.data }, { on := 11, ground := Ground.data }, { on := 11, ground := Ground.chain }, { on := 0, ground := Ground.phase }, { on := 1, ground := Ground.phase }, { on := 2, ground := Ground.phase }, { on := 3, ground := Ground.phase }, { on := 4, ground := Ground.phase }, { on := 5, ground := Ground.phase }, { on := 6, ground := Ground.phase }, { on := 7, ground := Ground.phase }, { on := 8, ground := Ground.phase }, { on := 9, ground := Ground.phase }, { on := 10, ground := Ground.phase }, { on := 11, ground := Ground.phase }], guard := none }) (by kernel_rfl) rfl (fun K hK => ?_)
     go_simp
     refine hK.out _ _ (fun h => absurd rfl h) ?_
     clear hK K
     try simp only [Act.put, List.setIfInBounds_toArray, List.set_cons_zero, List.set_cons_succ]
     refine wpAnyZ_done (by kernel_rfl) ?_ _
     go_wp2_with fail
     go_roundg (gk - 1)
     case rel => exact ⟨j + 1, by go_num, by omega, hd (by obtain ⟨ps, Fs, g1, g2⟩ := HY.out; exact ⟨ps, a', c', Fs, g1, g2⟩)⟩
     case measure => omega
   ·go_simp
    refine hK.out _ _ (fun _ => HS.out _ (below_al wr _).drew) ?_
    clear hK K
    try simp only [Act.put, List.setIfInBounds_toArray, List.set_cons_zero, List.set_cons_succ]
    refine wpAnyZ_one (i := 2) (o := { dst := some 11, op := Op.buildSlice 24 1 #[(0, Operand.const (Value.int IntKind.i64 (-1)))], type := 24, pos := _, after := #[], guard := none }) (by kernel_rfl) rfl (fun K hK => ?_)
    go_simp
    refine hK.out _ _ (fun _ => HS.out _ ((below_al wr _).alloc (by simp) _).drew) ?_
    clear hK K
    try simp only [Act.put, List.setIfInBounds_toArray, List.set_cons_zero, List.set_cons_succ]
    refine wpAnyZ_one (i := 5) (o := { dst := some 14, op := Op.call { callee := Callee.value (Operand.func 80), args := #[Operand.tmp 11, Operand.tmp 13], argTypes := #[24, 3] }, type := 24, pos := _, after := #[{ on := 2, ground := Ground.data }, { on := 4, ground := Ground.data }], guard := none }) (by kernel_rfl) rfl (fun K hK => ?_)
    go_simp
    (with_reducible refine (HRC.out _ _ new_cellC).mono ?_)
    rintro e w1 ⟨oa, oc, rfl, r1, r2, r3⟩
    go_simp
    have hb1 := bel_c2 r3
    refine hK.out _ _ (fun _ => HS.out _ hb1) ?_
    clear hK K
    try simp only [Act.put, List.setIfInBounds_toArray, List.set_cons_zero, List.set_cons_succ]
    refine wpAnyZ_take (i := 9) (oi := { dst := some 18, op := Op.build 104 #[(4, Operand.tmp 14), (5, Operand.tmp 17)], type := 104, pos := _, after := #[{ on := 5, ground := Ground.data }, { on := 8, ground := Ground.data }], guard := none }) (v := ?v11) rfl (by kernel_rfl) (by kernel_rfl) (by kernel_rfl) (by kernel_rfl) (fun _ _ _ h => h) (Or.inl ⟨by rfl, ?hy11⟩) (HS.out _ hb1) ?rest11
    case hy11 => (intro w5 hSw; (try dsimp only at hSw); first | (go_simp; done) | (go_simp; with_reducible rfl))
    simp only [Act.put, List.setIfInBounds_toArray, List.set_cons_zero, List.set_cons_succ]
    refine wpAnyZ_one (i := 10) (o := { dst := some 19, op := Op.buildSlice 44 1 #[(0, Operand.tmp 18)], type := 44, pos := _, after := #[{ on := 9, ground := Ground.data }], guard := none }) (by kernel_rfl) rfl (fun K hK => ?_)
    go_simp
    refine hK.out _ _ (fun _ => HS.out _ (hb1.alloc (Below.size hb1) _)) ?_
    clear hK K
    try simp only [Act.put, List.setIfInBounds_toArray, List.set_cons_zero, List.set_cons_succ]
    obtain ⟨a', c', w2, y1, ⟨y2, y3⟩, y4, HY⟩ := HN.out w1 w1.heap.size oa oc _ _ (by simp) (by rw [zq_lit] at *; exact rdF_c hnk8 r1 r2 r3)
    refine wpAnyZ_one (i := 11) (o := { dst := some 20, op := Op.call { callee := Callee.builtin Builtin.append, args := #[Operand.tmp 10, Operand.tmp 19], argTypes := #[44, 44] }, type := 44, pos := _, after := #[{ on := 1, ground := Ground.data }, { on := 10, ground := Ground.data }, { on := 5, ground := Ground.chain }], guard := none }) (by kernel_rfl) rfl (fun K hK => ?_)
    refine Lane.step_append_run (by rfl) _ _ _ (by rfl) _ _ _ _ (by rfl) (by rfl) y1 ?_
    refine hK.out _ _ (fun _ => ⟨y2, y3⟩) ?_
    clear hK K y1
    try simp only [Act.put, List.setIfInBounds_toArray, List.set_cons_zero, List.set_cons_succ]
    refine wpAnyZ_take (i := 12) (oi := { dst := some 21, op := Op.fieldAddr 47 (Operand.tmp 3) 1, type := 0, pos := _, after := #[{ on := 0, ground := Ground.phase }, { on := 1, ground := Ground.phase }, { on := 2, ground := Ground.phase }, { on := 3, ground := Ground.phase }, { on := 4, ground := Ground.phase }, { on := 5, ground := Ground.phase }, { on := 6, ground := Ground.phase }, { on := 7, ground := Ground.phase }, { on := 8, ground := Ground.phase }, { on := 9, ground := Ground.phase }, { on := 10, ground := Ground.phase }, { on := 11, ground := Ground.phase }], guard := none }) (v := ?v12) rfl (by kernel_rfl) (by kernel_rfl) (by kernel_rfl) (by kernel_rfl) (fun _ _ _ h => h) (Or.inl ⟨by rfl, ?hy12⟩) ⟨y2, y3⟩ ?rest12
    case hy12 => (intro w5 hSw; (try dsimp only at hSw); first | (go_simp; done) | (go_simp; with_reducible rfl))
    simp only [Act.put, List.setIfInBounds_toArray, List.set_cons_zero, List.set_cons_succ]
    refine wpAnyZ_one (i := 13) (o := { dst := none, op := Op.store 44 (Operand.tmp 21) (Operand.tmp 20), type := 0, pos := _, after := #[{ on := 12, ground := Ground.data }, { on := 11, ground := Ground.data }, { on := 11, ground := Ground.chain }, { on := 0, ground := Ground.phase }, { on := 1, ground := Ground.phase }, { on := 2, ground := Ground.phase }, { on := 3, ground := Ground.phase }, { on := 4, ground := Ground.phase }, { on := 5, ground := Ground.phase }, { on := 6, ground := Ground.phase }, { on := 7, ground := Ground.phase }, { on := 8, ground := Ground.phase }, { on := 9, ground := Ground.phase }, { on := 10, ground := Ground.phase }, { on := 11, ground := Ground.phase }], guard := none }) (by kernel_rfl) rfl (fun K hK => ?_)
    go_simp
    refine hK.out _ _ (fun h => absurd rfl h) ?_
    clear hK K
    try simp only [Act.put, List.setIfInBounds_toArray, List.set_cons_zero, List.set_cons_succ]
    refine wpAnyZ_done (by kernel_rfl) ?_ _
    go_wp2_with fail
    go_roundg (gk - 1)
    case rel => exact ⟨j + 1, by go_num, by omega, hd (by obtain ⟨ps, Fs, g1, g2⟩ := HY.out; exact ⟨ps, a', c', Fs, g1, g2⟩)⟩
    case measure => omega
  ·obtain rfl : j = np := by omega
   obtain ⟨-, -, v6⟩ := HD.out wr hI.bel
   have hpsl : ps.length = j := hI.np
   have hpsa : Hid (ps.map (·.x) = (firstM c).pt) := hd (by rw [hps, HPT.out, List.take_of_length_le (by rw [List.length_replicate]; exact Nat.le_refl _)])
   have HR1 : Hid (∃ qs Fs, SI W wr G 0 ps a j ca qs none 0 0 Fs ∧ qs.map (·.x) = (firstM c).pr.take 0) := hd ⟨[], Fs, hI, by simp⟩
   have hmk2 : ∀ V, (Instr.makeSlice 50 (.int .i64 ((j : Int) + 1)) (.int .i64 ((j : Int) + 1))).run Tryz.prog V = .ok (.slice (some ⟨V.heap.size, 0, none⟩) (j + 1) (j + 1)) (V.alloc (.cells (zl (j + 1)) 219)) := Locks.make_eq 50 219 _ 4 64 Tryz.underlying50 info_alane (j + 1) (by omega) (by unfold maxLen; omega)
   clear hI hps hjk hlt hmk HRC HPT
   go_wp2_with fail
   go_loopg [26] nq (fun k v26 wr => ∃ (i : Nat), v26 = .int .i64 (i : Int) ∧ i + k = nq ∧ Hid (∃ qs b d Fs, SI W wr G 0 ps a j ca qs b i d Fs ∧ qs.map (·.x) = (firstM c).pr.take i))
   case atStart => exact ⟨0, rfl, by omega, hd (by obtain ⟨qs, Fs, h1, h2⟩ := HR1.out; exact ⟨qs, none, 0, Fs, h1, h2⟩)⟩
   case round =>
    obtain ⟨i, rfl, hik, HH⟩ := hrel
    clear HR1 v6
    obtain ⟨qs, b, d, Fs, hI, hqs⟩ := HH.out
    clear HH
    by_cases hlt : i < nq
    ·have hlt' : (i : Int) < (nq : Int) := by omega
     obtain ⟨v0, -, -⟩ := HD.out wr hI.bel
     have HX : Hid (∀ V, Below wr.heap.size wr V → V.cell? ⟨G, 2, none⟩ = some (.slice b i d)) := hd (fun V hb => cell_of_row V G 2 _ _ _ (hI.below hb).box)
     have x1 := HX.out wr (Below.refl _ _)
     have xA : ∀ ob, (wr.alloc ob).cell? ⟨G, 2, none⟩ = some (.slice b i d) := fun ob => HX.out _ (below_al wr ob)
     have xB : ∀ ob ob2, ((wr.alloc ob).alloc ob2).cell? ⟨G, 2, none⟩ = some (.slice b i d) := fun ob ob2 => HX.out _ ((below_al wr ob).alloc (by simp) ob2)
     have HN : Hid (∃ (a' : Option Addr) (c' : Nat) (w2 : World),
       (∀ ty, (Builtin.append_ #[45, 45] ty #[.slice b i d, .slice (some ⟨wr.heap.size + 1, 0, none⟩) 1 1]).run Tryz.prog ((wr.alloc (.cells (zl (j + 1)) 219)).alloc (.cells #[.int .i64 0, .int .i64 0, .int .i64 0, .int .i64 0, .int .i64 0, .int .i64 0, .int .i64 0, .int .i64 0, .int .i64 0, .int .i64 0, .int .i64 0, .int .i64 0, .bool false, .int .i64 0, .slice (some ⟨wr.heap.size, 0, none⟩) (j + 1) (j + 1)] 52)).drew = .ok (.slice a' (i + 1) c') w2) ∧
       (∃ u, w2.cell? ⟨G, 2, none⟩ = some u) ∧ w2.frozen? ⟨G, 2, none⟩ = false ∧
       Hid (∃ qs Fs, SI W (w2.setCell ⟨G, 2, none⟩ (.slice a' (i + 1) c')) G 0 ps a j ca qs a' (i + 1) c' Fs ∧ qs.map (·.x) = (firstM c).pr.take (i + 1))) := hd (by
      have hb0 : Below wr.heap.size wr (wr.alloc (.cells (zl (j + 1)) 219)).drew := (below_al wr _).drew
      have hsz : (wr.alloc (.cells (zl (j + 1)) 219)).drew.heap.size = wr.heap.size + 1 := by simp
      have hnew : (wr.alloc (.cells (zl (j + 1)) 219)).drew.heap[wr.heap.size]? = _ := heap_drew (heap_alloc_new wr (.cells (zl (j + 1)) 219))
      have hrow : Row (wr.alloc (.cells (zl (j + 1)) 219)).drew 219 4 (some ⟨wr.heap.size, 0, none⟩) (j + 1) (j + 1) (Lane.tlC (List.replicate (j + 1) Lane.T0)) := by
       rw [← zl_eq]
       exact row_new hnew (zl_size (j + 1)) (by unfold maxLen; omega)
      have hat := prT0_at (B := wr.heap.size) (room := c.lane.toNat) hrow (fun k hk => by have e : wr.heap.size = k := Option.some.inj hk; omega)
      obtain ⟨wn, hwn⟩ : ∃ V, Hid ((wr.alloc (.cells (zl (j + 1)) 219)).drew = V) := ⟨_, rfl⟩
      rw [hwn.out] at hb0 hsz hat
      have h1 := hI.below hb0
      obtain ⟨a', c', w2, q1, q2, q3, q4⟩ := push_big (T := 45) Tryz.underlying45 info_process rfl (by omega) h1.rq (by omega) (prL (prT0 j c.lane.toNat (some ⟨wr.heap.size, 0, none⟩) (j + 1))) rfl (prL_one _)
      have hGl := (Array.getElem?_eq_some_iff.1 h1.box).1
      have hga : blk b ≠ some G := fun e => by have := (hI.bg G e).1; have := hI.gg; omega
      have hbG : w2.heap[G]? = wn.heap[G]? := q3.block _ hGl hga
      have hlen : (prT0 j c.lane.toNat (some ⟨wr.heap.size, 0, none⟩) (j + 1)).x.ss.length = j + 1 := by simp [prT0, pr0]
      refine ⟨a', c', w2, fun ty => ?_, ⟨_, (World.cell?_of_block (w := wn) hbG).trans (cell_of_row wn G 2 _ _ _ h1.box)⟩, (World.frozen?_of_block (w := wn) hbG).trans (by simp [World.frozen?, h1.box]), hd ?_⟩
      ·have := q1 ty
       unfold prL at this
       rw [hlen, hsz, ← hwn.out] at this
       exact this
      ·obtain ⟨Fs', h2⟩ := hI.pushQ hb0 hat q2 q3 q4
       refine ⟨_, Fs', h2, ?_⟩
       rw [List.map_append, hqs, HPR.out, List.take_replicate, List.take_replicate, Nat.min_eq_left (by omega), Nat.min_eq_left (by omega), List.replicate_succ']
       rfl)
     clear hI HX
     obtain ⟨a', c', w2, y2, ⟨yu, y3⟩, y4, HY⟩ := HN.out
     replace y2 := hd y2
     clear HN
     have w1 : IntKind.i64.wrap ((j : Int) + 1) = (j : Int) + 1 := by rw [IntKind.wrap_i64]; omega
     go_upto_region 8 with fail
     go_region_law (refine Lane.step_append_run (by rfl) _ _ _ (by rfl) _ _ _ _ (by rfl) (by rfl) y2.out ?_; clear y2)
     all_goals (
      go_wp2_with fail
      go_roundg (gk - 1)
      case rel => exact ⟨i + 1, by go_num, by omega, hd (by obtain ⟨qs, Fs, g1, g2⟩ := HY.out; exact ⟨qs, a', c', Fs, g1, g2⟩)⟩
      case measure => omega)
    ·obtain rfl : i = nq := by omega
     have hqsa : qs.map (·.x) = (firstM c).pr := by rw [hqs, HPR.out, List.take_of_length_le (by rw [List.length_replicate]; exact Nat.le_refl _)]
     have hGV := hI.box
     have hRV := hI.res
     have hgg := hI.gg
     have hl1 : (firstM c).pt.length = j := by rw [← hpsa.out, List.length_map]; exact hpsl
     have hl2 : (firstM c).pr.length = i := by rw [HPR.out, List.length_replicate]
     rw [HWR.out] at hRV
     have HO : Hid (Q (.returned (.agg #[.int .i64 0, .slice a j ca, .slice b i d])) (((wr.setCell ⟨R, 0, none⟩ (.int .i64 0)).setCell ⟨R, 1, none⟩ (.slice a j ca)).setCell ⟨R, 2, none⟩ (.slice b i d))) := hd (by
      rw [← hQ.out]
      have hm3 : Mod (fun k => k = R) wr (((wr.setCell ⟨R, 0, none⟩ (.int .i64 0)).setCell ⟨R, 1, none⟩ (.slice a j ca)).setCell ⟨R, 2, none⟩ (.slice b i d)) := mod_sets (mod_sets (mod_set _ _ _ _) _ _) _ _
      have hWR := HWR.out
      have hWS := HWS.out
      have hbw := HBW.out
      refine ⟨ps, a, ca, qs, b, d, Fs, by rw [stV, hl1, hl2]; rfl, ⟨hpsa.out, hqsa, ?_, ?_, ?_, fun k hk => ⟨by have := (hI.ag k hk).1; omega, (hI.ag k hk).2⟩, fun k hk => ⟨by have := (hI.bg k hk).1; omega, (hI.bg k hk).2⟩⟩, ?_⟩
      ·rw [hl1]; exact hI.rp.mod hm3 (fun k hk e => by have := (hI.ag k hk).1; omega)
      ·rw [hl2]; exact hI.rq.mod hm3 (fun k hk e => by have := (hI.bg k hk).1; omega)
      ·have hbg := hI.bag.mod hm3 (fun x hx k hk e => by have := (hI.bag.at' x hx).ge k hk; omega)
       exact ⟨fun x hx => (hbg.at' x hx).mono (by omega), hbg.ap⟩
      ·exact ((Mod.of_below (fun _ => False) (hbw.trans (hI.bel.mono hbw.size))).trans hm3 (fun k hk => .inr (by omega))).below (Nat.le_refl _) (fun k _ hk => hk.elim))
     have z0' := cell_of_row wr G 0 _ _ _ hGV
     have z1' := cell_of_row wr G 1 _ _ _ hGV
     have z2' := cell_of_row wr G 2 _ _ _ hGV
     unfold z51 at hRV
     have z0 := cell_of_row wr R 0 _ _ _ hRV
     have z1 := cell_of_row wr R 1 _ _ _ hRV
     have z2 := cell_of_row wr R 2 _ _ _ hRV
     have zf : ∀ j, wr.frozen? ⟨R, j, none⟩ = false := fun j => by simp [World.frozen?, hRV]
     have HZ3 : Hid ((((wr.setCell ⟨R, 0, none⟩ (.int .i64 0)).setCell ⟨R, 1, none⟩ (.slice a j ca)).setCell ⟨R, 2, none⟩ (.slice b i d)).heap[R]? = some (.cells #[.int .i64 0, .slice a j ca, .slice b i d] 47 (0, 0))) := hd (by
      rw [heap_setCell_self (heap_setCell_self (heap_setCell_self hRV _) _) _]
      rfl)
     clear hI hGV hRV hgg hqsa hqs hl1 hl2 hpsl hlt hik
     go_wp2_with fail
     refine bodyPost_ret (v := .agg #[.int .i64 0, .slice a j ca, .slice b i d]) ?_ rfl HO.out
     have y0 := cell_of_row _ R 0 _ _ _ HZ3.out
     have y1 := cell_of_row _ R 1 _ _ _ HZ3.out
     have y2 := cell_of_row _ R 2 _ _ _ HZ3.out
     clear HO HZ3 z0' z1' z2' z0 z1 z2 zf
     generalize World.setCell _ _ _ = Wf at *
     simp at y0 y1 y2
     simp [results, Tryz.results36, go_sem, y0, y1, y2]
end Go.Proofs.YthhcecllejddeaaGreatDoor
