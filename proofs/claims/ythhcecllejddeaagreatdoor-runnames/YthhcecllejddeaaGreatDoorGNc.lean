/- laid: the walk. -/
import Derived.Test.YthhcecllejddeaaGreatDoorGMg
import Derived.Test.YthhcecllejddeaaGreatDoorGNa
namespace Go.Proofs.YthhcecllejddeaaGreatDoor
open Go.RowKit
structure LdW (V : World) (c : Cfg) (g : Loc) (K : Nat → Prop) (m : MS) (np a b q : Nat) (wr : World) (l : Lay) (Fs : Ix → Nat → Prop) : Prop where
 i : LdI V l m np a b q wr Fs
 c : l.c = c
 g : l.g = g
 k : l.K = K
 b : l.bm = V.heap.size
def LdX (V : World) (c : Cfg) (g : Loc) (K : Nat → Prop) (m : MS) (np a b q : Nat) (wr : World) (ap : Option Addr) (cp : Nat) (aq : Option Addr) (cq : Nat) : Prop := ∃ l Fs, LdW V c g K m np a b q wr l Fs ∧ l.ap = ap ∧ l.cp = cp ∧ l.aq = aq ∧ l.cq = cq
def LdOut (w : World) (c : Cfg) (g : Loc) (K : Nat → Prop) (m : MS) (E : Ending) (w' : World) : Prop := ∃ l U, E = .returned (.pointer (some ⟨l.bm, 0, none⟩)) ∧ Mk w' l U m ∧ l.c = c ∧ l.g = g ∧ l.K = K ∧ (∀ k, U k → w.heap.size ≤ k) ∧ Below w.heap.size w w'
def kOf (g : Loc) (k : Nat) : Prop := cfB g k ∨ k = 1 ∨ k = 0
theorem ldX_start {V V1 w2 : World} {c : Cfg} {g : Loc} {m : MS} {K : Nat → Prop} {bt bs : Nat} {F1 F2 : Nat → Prop}
  (hb : V1.heap[V.heap.size]? = some (.cells #[.slice g.la c.labels.length g.lc, .slice g.ta c.table.length g.tc, .int .i64 c.fuel, .int .i64 c.lane, .int .i64 c.locks, .int .i64 c.log, .slice g.pa c.procs.length g.pc, .pointer (some ⟨bt, 0, none⟩), .pointer none, .int .i64 m.tick, .slice none 0 0, .slice none 0 0] 99 (0, 0)))
  (hbel : Below V.heap.size V V1) (ht : TbAt V1 bt F1 c.labels) (hf1 : ∀ k, F1 k → V.heap.size < k ∧ k < V1.heap.size) (hbel2 : Below V1.heap.size V1 w2) (hsl : SlAt w2 bs F2 c.table) (hf2 : ∀ k, F2 k → V1.heap.size ≤ k ∧ k < w2.heap.size) :
  LdX V c g K m 0 0 0 0 (w2.setCell ⟨V.heap.size, 8, none⟩ (.pointer (some ⟨bs, 0, none⟩))) none 0 none 0 := by
 have hm : Mod (fun k => k = V.heap.size) w2 (w2.setCell ⟨V.heap.size, 8, none⟩ (.pointer (some ⟨bs, 0, none⟩))) := mod_set _ _ _ _
 have hs := hm.size
 have hs2 := hbel2.size
 have hl := (Array.getElem?_eq_some_iff.1 hb).1
 refine ⟨⟨c, g, V.heap.size, bt, bs, none, 0, none, 0, fun _ => 0, fun _ => 0, fun _ => 0, fun _ => none, fun _ => 0, fun _ => 0, fun _ => 0, K⟩, fun x k => match x with
  | .head => k = V.heap.size
  | .tbl => F1 k
  | .slt => F2 k
  | _ => False, ⟨⟨⟨?_, Row.nil, Row.nil, fun k hk => (by cases hk), fun k hk => (by cases hk), rfl, fun k hk => (by cases hk), fun k hk => (by cases hk)⟩, ?_, ?_, ?_, ?_⟩, rfl, rfl, rfl, rfl⟩, rfl, rfl, rfl, rfl⟩
 ·have e1 : w2.heap[V.heap.size]? = _ := (hbel2.block _ hl).trans hb
  show (w2.setCell ⟨V.heap.size, 8, none⟩ (.pointer (some ⟨bs, 0, none⟩))).heap[V.heap.size]? = _
  rw [heap_setCell_self e1]
  rfl
 ·intro x hx h0
  cases x with
  | head => exact absurd rfl h0
  | tbl =>
   obtain ⟨a, cap, mb, k1, k2, k3, k4⟩ := ht
   have hne : ∀ k, F1 k → ¬ k = V.heap.size := fun k hk e => by have := (hf1 k hk).1; omega
   refine ⟨a, cap, mb, ?_, (k2.below hbel2).mod hm (fun k hk => hne k (k4 k hk)), k3, k4⟩
   have e1 : w2.heap[bt]? = _ := (hbel2.block _ (hf1 _ k3).2).trans k1
   show (w2.setCell ⟨V.heap.size, 8, none⟩ (.pointer (some ⟨bs, 0, none⟩))).heap[bt]? = _
   rw [hm.block _ (Array.getElem?_eq_some_iff.1 e1).1 (hne _ k3)]
   exact e1
  | slt =>
   obtain ⟨a, cap, k1, k2, k3, k4⟩ := hsl
   have hne : ∀ k, F2 k → ¬ k = V.heap.size := fun k hk e => by have := (hf2 k hk).1; omega
   refine ⟨a, cap, ?_, k2.mod hm (fun k hk => hne k (k4 k hk)), k3, k4⟩
   show (w2.setCell ⟨V.heap.size, 8, none⟩ (.pointer (some ⟨bs, 0, none⟩))).heap[bs]? = _
   rw [hm.block _ (Array.getElem?_eq_some_iff.1 k1).1 (hne _ k3)]
   exact k1
  | part i => exact absurd (show i < 0 from hx) (Nat.not_lt_zero i)
  | lck i => exact absurd (show i < 0 from hx) (Nat.not_lt_zero i)
  | whl i => exact absurd (show i < 0 from hx) (Nat.not_lt_zero i)
  | proc i => exact absurd (show i < 0 from hx) (Nat.not_lt_zero i)
  | pst i => exact absurd (show i < 0 from hx) (Nat.not_lt_zero i)
 ·intro x hx k hk
  cases x with
  | head =>
   have hk' : k = V.heap.size := hk
   subst hk'
   exact ⟨Nat.le_refl _, by omega⟩
  | tbl => have := hf1 k hk; exact ⟨by omega, by omega⟩
  | slt => have := hf2 k hk; have := hbel.size; exact ⟨by omega, by omega⟩
  | _ => exact absurd hk id
 ·intro x y hx hy hxy k h1 h2
  cases x with
  | head =>
   have h1' : k = V.heap.size := h1
   cases y with
   | head => exact absurd rfl hxy
   | tbl => have := hf1 k h2; omega
   | slt => have := hf2 k h2; omega
   | _ => exact h2
  | tbl =>
   have g1 := hf1 k h1
   cases y with
   | head => have h2' : k = V.heap.size := h2; omega
   | tbl => exact absurd rfl hxy
   | slt => have := hf2 k h2; omega
   | _ => exact h2
  | slt =>
   have g1 := hf2 k h1
   cases y with
   | head => have h2' : k = V.heap.size := h2; omega
   | tbl => have := hf1 k h2; omega
   | slt => exact absurd rfl hxy
   | _ => exact h2
  | _ => exact h1
 ·exact ((hbel.trans (hbel2.mono hbel.size))).setCell (Nat.le_refl _) _
theorem info_ppart : (Tryz.prog.info? 100).map (fun i => (i.zero, i.size, i.bytes)) = some (some (.pointer none), 1, 8) := by kernel_rfl
theorem info_pprocess : (Tryz.prog.info? 106).map (fun i => (i.zero, i.size, i.bytes)) = some (some (.pointer none), 1, 8) := by kernel_rfl
theorem ptr_one (G : Nat) : ∀ u ∈ [Value.pointer (some ⟨G, 0, none⟩)], u.oneCell' = true := by
 intro u hu
 rcases List.mem_singleton.1 hu with rfl
 rfl
theorem LdX.addP {V wr wc w1 : World} {c : Cfg} {g : Loc} {K : Nat → Prop} {m : MS} {j : Nat} {ap : Option Addr} {cp : Nat} (h : LdX V c g K m j 0 0 0 wr ap cp none 0) (hj : j ≤ 8) (hb : Below wr.heap.size wr wc) {G : Nat} {a : Option Addr} {cc bw : Nat} {FW : Nat → Prop} {bl : Nat} {FL : Nat → Prop} (hL : LpAt wc j (ptOf m j) w1 G a cc bw FW bl FL) :
  (∀ W, Below wr.heap.size wr W → W.cell? ⟨V.heap.size, 10, none⟩ = some (.slice ap j cp)) ∧ ∃ a' c' w2, (∀ ty, (Builtin.append_ #[96, 96] ty #[.slice ap j cp, .slice (some ⟨w1.heap.size, 0, none⟩) 1 1]).run Tryz.prog (w1.alloc (.cells #[.pointer (some ⟨G, 0, none⟩)] 100)) = .ok (.slice a' (j + 1) c') w2) ∧
   (∃ u, w2.cell? ⟨V.heap.size, 10, none⟩ = some u) ∧ w2.frozen? ⟨V.heap.size, 10, none⟩ = false ∧ LdX V c g K m (j + 1) 0 0 0 (w2.setCell ⟨V.heap.size, 10, none⟩ (.slice a' (j + 1) c')) a' c' none 0 := by
 obtain ⟨l, Fs, hW, rfl, rfl, hq1, hq2⟩ := h
 have hbm := hW.b
 have hI := hW.i.below hb
 have h1 := hI.below hL.bel
 refine ⟨fun W hBW => ?_, ?_⟩
 ·have hh := (hW.i.below hBW).hh.hd
  rw [hbm] at hh
  rw [cell_of_row _ _ _ _ _ _ hh]
  rfl
 ·obtain ⟨a', c', w2, q1, q2, q3, q4⟩ := push_big (T := 96) Tryz.underlying96 info_ppart rfl (by omega) h1.hh.rp (by omega) [.pointer (some ⟨G, 0, none⟩)] rfl (ptr_one G)
  have hbl := (Array.getElem?_eq_some_iff.1 h1.hh.hd).1
  have e2 : w2.heap[l.bm]? = _ := (q3.block _ hbl (fun e => (h1.hh.n1 _ e).1 rfl)).trans h1.hh.hd
  obtain ⟨Fs', h2⟩ := hI.addP hL q2 q3 (fun k hk => (q4 k hk).imp id (fun e => Nat.le_of_lt e))
  rw [hbm] at e2 h2
  exact ⟨a', c', w2, q1, ⟨_, by rw [cell_of_row _ _ _ _ _ _ e2]; rfl⟩, by simp [World.frozen?, e2], _, Fs', ⟨h2, hW.c, hW.g, hW.k, hbm⟩, rfl, rfl, hq1, hq2⟩
theorem LdI.pushR {V wr : World} {l : Lay} {m : MS} {np q : Nat} {Fs : Ix → Nat → Prop} (h : LdI V l m np (q + 1) q q wr Fs) (hq : q < l.c.procs.length) (h32 : l.c.procs.length ≤ 32) (hi : pa l.c q < np) (hpart : (l.c.procs.getD q default).part = (pa l.c q : Int)) {bp n : Nat} (hbp : l.bp (pa l.c q) = bp) (hn : (ofL (tru l.c q) (pa l.c q)).length = n) {bq : Nat} (hbq : l.bq q = bq) :
  wr.cell? ⟨bp, 1, none⟩ = some (.slice (l.ar (pa l.c q)) n (l.cr (pa l.c q))) ∧ ∃ a' c' w2, (∀ ty, (Builtin.append_ #[97, 97] ty #[.slice (l.ar (pa l.c q)) n (l.cr (pa l.c q)), .slice (some ⟨wr.heap.size, 0, none⟩) 1 1]).run Tryz.prog (wr.alloc (.cells #[.pointer (some ⟨bq, 0, none⟩)] 106)) = .ok (.slice a' (n + 1) c') w2) ∧
   (∃ u, w2.cell? ⟨bp, 1, none⟩ = some u) ∧ w2.frozen? ⟨bp, 1, none⟩ = false ∧ ∃ Fs', LdI V (l.addR (pa l.c q) a' c') m np (q + 1) (q + 1) q (w2.setCell ⟨bp, 1, none⟩ (.slice a' (n + 1) c')) Fs' := by
 obtain ⟨la, lc, c1, c2, c3, c4, c5, c6, c7, c8, c9⟩ := h.cmp (.part (pa l.c q)) hi (by simp)
 simp only [Lay.tr, selQ, paA] at c1 c2 c4
 have hlen : n ≤ 32 := by
  have := ofL_len (tru l.c q) (pa l.c q)
  simp only [tru, List.length_take] at this
  unfold tru at hn
  omega
 rw [hn] at c1 c2
 obtain ⟨a', c', w2, q1, q2, q3, q4⟩ := push_big (T := 97) Tryz.underlying97 info_pprocess rfl (by omega) c2 (by omega) [.pointer (some ⟨bq, 0, none⟩)] rfl (ptr_one bq)
 have hbl := (Array.getElem?_eq_some_iff.1 c1).1
 have e2 : w2.heap[l.bp (pa l.c q)]? = _ := (q3.block _ hbl (fun e => c4 e)).trans c1
 rw [← hbq] at q2
 obtain ⟨Fs', h2⟩ := h.addR hq hi hpart hn.symm q2 q3 (fun k hk => (q4 k hk).imp id (fun e => Nat.le_of_lt e))
 rw [hbp] at e2 h2 c1
 exact ⟨by rw [cell_of_row _ _ _ _ _ _ c1]; rfl, a', c', w2, q1, ⟨_, by rw [cell_of_row _ _ _ _ _ _ e2]; rfl⟩, by simp [World.frozen?, e2], Fs', h2⟩
theorem LdI.pushS {V wr : World} {l : Lay} {m : MS} {np q : Nat} {Fs : Ix → Nat → Prop} (h : LdI V l m np (q + 1) (q + 1) q wr Fs) (h32 : q ≤ 32) {bm : Nat} (hbm : l.bm = bm) {bq : Nat} (hbq : l.bq q = bq) :
  wr.cell? ⟨bm, 11, none⟩ = some (.slice l.aq q l.cq) ∧ ∃ a' c' w2, (∀ ty, (Builtin.append_ #[97, 97] ty #[.slice l.aq q l.cq, .slice (some ⟨wr.heap.size, 0, none⟩) 1 1]).run Tryz.prog (wr.alloc (.cells #[.pointer (some ⟨bq, 0, none⟩)] 106)) = .ok (.slice a' (q + 1) c') w2) ∧
   (∃ u, w2.cell? ⟨bm, 11, none⟩ = some u) ∧ w2.frozen? ⟨bm, 11, none⟩ = false ∧ ∃ Fs', LdI V (l.addS a' c') m np (q + 1) (q + 1) (q + 1) (w2.setCell ⟨bm, 11, none⟩ (.slice a' (q + 1) c')) Fs' := by
 obtain ⟨a', c', w2, q1, q2, q3, q4⟩ := push_big (T := 97) Tryz.underlying97 info_pprocess rfl (by omega) h.hh.rq (by omega) [.pointer (some ⟨bq, 0, none⟩)] rfl (ptr_one bq)
 have hbl := (Array.getElem?_eq_some_iff.1 h.hh.hd).1
 have e1 := h.hh.hd
 have e2 : w2.heap[l.bm]? = _ := (q3.block _ hbl (fun e => h.hh.n2 _ e rfl)).trans h.hh.hd
 rw [← hbq] at q2
 obtain ⟨Fs', h2⟩ := h.addS q2 q3 (fun k hk => (q4 k hk).imp id (fun e => Nat.le_of_lt e))
 rw [hbm] at e1 e2 h2
 exact ⟨by rw [cell_of_row _ _ _ _ _ _ e1]; rfl, a', c', w2, q1, ⟨_, by rw [cell_of_row _ _ _ _ _ _ e2]; rfl⟩, by simp [World.frozen?, e2], Fs', h2⟩
theorem LdW.lay {V wr wd w1 : World} {c : Cfg} {g : Loc} {K : Nat → Prop} {m : MS} {np i : Nat} {l : Lay} {Fs : Ix → Nat → Prop} (hW : LdW V c g K m np i i i wr l Fs) (hi : i < c.procs.length) (h32 : c.procs.length ≤ 32) {ip bp M bq : Nat} (hip : pa c i = ip) (hipn : ip < np) (hpart : (c.procs.getD i default).part = (ip : Int)) (hbp : l.bp ip = bp) (hM : V.heap.size = M)
  (hb : Below wr.heap.size wr wd) (hbq : wr.heap.size ≤ bq) (hbl : bq < wd.heap.size) {L : List Wheel.Th} (hL : WOk (tru c i) m ip L) {bo : Nat} {FP FW' : Nat → Prop} (hA : LqAt wd i bp (g.ms.getD i default).a (cd c i).length (g.ms.getD i default).c (prOf m i) bq (l.bw ip) (Fs (.whl ip)) (setK i (prOf m i).wake (setT i (prOf m i).timer L)) w1 bo FP FW') :
  ∃ ar n cr a' c' w2, w1.cell? ⟨bp, 1, none⟩ = some (.slice ar n cr) ∧ (∀ ty, (Builtin.append_ #[97, 97] ty #[.slice ar n cr, .slice (some ⟨w1.heap.size, 0, none⟩) 1 1]).run Tryz.prog (w1.alloc (.cells #[.pointer (some ⟨bq, 0, none⟩)] 106)) = .ok (.slice a' (n + 1) c') w2) ∧ (∃ u, w2.cell? ⟨bp, 1, none⟩ = some u) ∧ w2.frozen? ⟨bp, 1, none⟩ = false ∧
   ∀ w3, w2.setCell ⟨bp, 1, none⟩ (.slice a' (n + 1) c') = w3 → w3.cell? ⟨M, 11, none⟩ = some (.slice l.aq i l.cq) ∧ ∃ a2 c2 w4, (∀ ty, (Builtin.append_ #[97, 97] ty #[.slice l.aq i l.cq, .slice (some ⟨w3.heap.size, 0, none⟩) 1 1]).run Tryz.prog (w3.alloc (.cells #[.pointer (some ⟨bq, 0, none⟩)] 106)) = .ok (.slice a2 (i + 1) c2) w4) ∧ (∃ u, w4.cell? ⟨M, 11, none⟩ = some u) ∧ w4.frozen? ⟨M, 11, none⟩ = false ∧
    LdX V c g K m np (i + 1) (i + 1) (i + 1) (w4.setCell ⟨M, 11, none⟩ (.slice a2 (i + 1) c2)) l.ap l.cp a2 c2 := by
 obtain ⟨h, rfl, rfl, rfl, hbm⟩ := hW
 subst hip hbp hM
 obtain ⟨Fs1, h1⟩ := h.addQ hi hipn hpart hb hbq hbl hL hA
 have hq1 : (l.addQ i bq bo).bq i = bq := upd_same _ _ _
 obtain ⟨k1, a', c', w2, k2, k3, k4, Fs2, h2⟩ := h1.pushR (bp := l.bp (pa l.c i)) (bq := bq) hi h32 hipn hpart rfl rfl hq1
 refine ⟨_, _, _, a', c', w2, k1, k2, k3, k4, fun w3 e3 => ?_⟩
 have h3 : LdI V ((l.addQ i bq bo).addR (pa (l.addQ i bq bo).c i) a' c') m np (i + 1) (i + 1) i w3 Fs2 := by
  rw [← e3]
  exact h2
 obtain ⟨j1, a2, c2, w4, j2, j3, j4, Fs3, h4⟩ := h3.pushS (by omega) (bm := V.heap.size) hbm hq1
 exact ⟨j1, a2, c2, w4, j2, j3, j4, _, Fs3, ⟨h4, rfl, rfl, rfl, hbm⟩, rfl, rfl, rfl, rfl⟩
end Go.Proofs.YthhcecllejddeaaGreatDoor

namespace Go.Proofs.YthhcecllejddeaaGreatDoor
open Go.RowKit
def stA (m : MS) (a : Option Addr) (ca : Nat) (b : Option Addr) (cb : Nat) : Array Value := #[.int .i64 m.tick, .slice a m.pt.length ca, .slice b m.pr.length cb]
def maZ (c : Cfg) (g : Loc) (tick : Int) (t : Option Addr) : Array Value := #[.slice g.la c.labels.length g.lc, .slice g.ta c.table.length g.tc, .int .i64 c.fuel, .int .i64 c.lane, .int .i64 c.locks, .int .i64 c.log, .slice g.pa c.procs.length g.pc, .pointer t, .pointer none, .int .i64 tick, .slice none 0 0, .slice none 0 0]
structure LdS (w V : World) (c : Cfg) (g : Loc) (m : MS) (a : Option Addr) (ca : Nat) (b : Option Addr) (cb : Nat) (V1 : World) (t : Option Addr) : Prop where
 bel : Below w.heap.size w V
 size : V.heap.size = w.heap.size + 2
 cf : V.heap[w.heap.size]? = some (.cells (cfA c g) 27 (0, 0))
 st : V.heap[w.heap.size + 1]? = some (.cells (stA m a ca b cb) 47 (0, 0))
 m1 : V1.heap[V.heap.size]? = some (.cells (maZ c g m.tick t) 99 (0, 0))
 b1 : Below V.heap.size V V1
theorem ldS_start (w : World) (c : Cfg) (g : Loc) (m : MS) (a : Option Addr) (ca : Nat) (b : Option Addr) (cb : Nat) :
  LdS w ((w.alloc (.cells (cfA c g) 27)).alloc (.cells (stA m a ca b cb) 47)) c g m a ca b cb (((w.alloc (.cells (cfA c g) 27)).alloc (.cells (stA m a ca b cb) 47)).alloc (.cells (maZ c g m.tick none) 99)) none := by
 have e : (w.alloc (.cells (cfA c g) 27)).heap.size = w.heap.size + 1 := by simp
 have h1 := heap_alloc_new w (.cells (cfA c g) 27)
 have h2 := heap_alloc_new (w.alloc (.cells (cfA c g) 27)) (.cells (stA m a ca b cb) 47)
 rw [e] at h2
 exact ⟨(below_al w _).alloc (by omega) _, by simp, ((below_al (w.alloc (.cells (cfA c g) 27)) _).block _ (by omega)).trans h1, h2, heap_alloc_new _ _, below_al _ _⟩
theorem LdS.box {w V : World} {c : Cfg} {g : Loc} {m : MS} {a : Option Addr} {ca : Nat} {b : Option Addr} {cb : Nat} {V1 : World} {t : Option Addr} (h : LdS w V c g m a ca b cb V1 t) (W : World) (hb : Below V.heap.size V W) :
  (W.cell? ⟨w.heap.size, 0, none⟩ = some (.slice g.la c.labels.length g.lc) ∧ W.cell? ⟨w.heap.size, 1, none⟩ = some (.slice g.ta c.table.length g.tc) ∧ W.cell? ⟨w.heap.size, 3, none⟩ = some (.int .i64 c.lane) ∧ W.cell? ⟨w.heap.size, 6, none⟩ = some (.slice g.pa c.procs.length g.pc)) ∧
  W.cell? ⟨w.heap.size + 1, 1, none⟩ = some (.slice a m.pt.length ca) ∧ W.cell? ⟨w.heap.size + 1, 2, none⟩ = some (.slice b m.pr.length cb) := by
 have hs := h.size
 have e1 : W.heap[w.heap.size]? = _ := (hb.block _ (by omega)).trans h.cf
 have e2 : W.heap[w.heap.size + 1]? = _ := (hb.block _ (by omega)).trans h.st
 refine ⟨⟨?_, ?_, ?_, ?_⟩, ?_, ?_⟩
 ·rw [cell_of_row _ _ _ _ _ _ e1]; rfl
 ·rw [cell_of_row _ _ _ _ _ _ e1]; rfl
 ·rw [cell_of_row _ _ _ _ _ _ e1]; rfl
 ·rw [cell_of_row _ _ _ _ _ _ e1]; rfl
 ·rw [cell_of_row _ _ _ _ _ _ e2]; rfl
 ·rw [cell_of_row _ _ _ _ _ _ e2]; rfl
theorem LdS.tab {w V : World} {c : Cfg} {g : Loc} {m : MS} {a : Option Addr} {ca : Nat} {b : Option Addr} {cb : Nat} {V1 w1 : World} {bt : Nat} (h : LdS w V c g m a ca b cb V1 none) (hb : Below V1.heap.size V1 w1) : LdS w V c g m a ca b cb (w1.setCell ⟨V.heap.size, 7, none⟩ (.pointer (some ⟨bt, 0, none⟩))) (some ⟨bt, 0, none⟩) := by
 have e1 : w1.heap[V.heap.size]? = _ := (hb.block _ (Array.getElem?_eq_some_iff.1 h.m1).1).trans h.m1
 refine ⟨h.bel, h.size, h.cf, h.st, ?_, (h.b1.trans (hb.mono h.b1.size)).setCell (Nat.le_refl _) _⟩
 rw [heap_setCell_self e1]
 rfl
theorem wok_len32 {c : Cfg} {m : MS} {i : Nat} {L : List Wheel.Th} (h : WOk c m i L) (hg : Wheel.GoodW L) (h32 : c.procs.length ≤ 32) : L.length ≤ 64 := by
 have h1 := nodup_le (2 * c.procs.length) (L.map (·.2)) (ids_le L hg.nod) (fun x hx => by
  obtain ⟨t, ht, rfl⟩ := List.mem_map.1 hx
  obtain ⟨p, hp, ⟨rfl, _⟩ | ⟨rfl, _⟩⟩ := (h t).1 ht
  ·have := (mem_ofL.1 hp).1
   simp only
   omega
  ·have := (mem_ofL.1 hp).1
   simp only
   omega)
 simp at h1
 omega
theorem TbAt.mod {w w' : World} {b : Nat} {F S : Nat → Prop} {l : List Nat} (h : TbAt w b F l) (hm : Mod S w w') (hn : ∀ k, F k → ¬ S k) : TbAt w' b F l := by
 obtain ⟨a, cap, mb, h1, h2, h3, h4⟩ := h
 exact ⟨a, cap, mb, by rw [hm.block b (Array.getElem?_eq_some_iff.1 h1).1 (hn _ h3)]; exact h1, h2.mod hm (fun k hk => hn k (h4 k hk)), h3, h4⟩
theorem ptsC_at : ∀ (l : List PtT) (j i : Nat), j < l.length → i < 6 → (ptsC l)[j * 6 + i]? = (ptL (l.getD j default))[i]?
 | [], j, _, h, _ => absurd h (Nat.not_lt_zero j)
 | t :: ts, 0, i, _, hi => by
  simp only [ptsC, List.flatMap_cons, List.getD_cons_zero, Nat.zero_mul, Nat.zero_add]
  rw [List.getElem?_append_left (by rw [show (ptL t).length = 6 from rfl]; exact hi)]
 | t :: ts, j + 1, i, h, hi => by
  have ih := ptsC_at ts j i (by simpa using h) hi
  have hl : (ptL t).length = 6 := rfl
  simp only [ptsC, List.flatMap_cons, List.getD_cons_succ] at *
  rw [List.getElem?_append_right (by omega), hl, show (j + 1) * 6 + i - 6 = j * 6 + i by omega]
  exact ih
theorem prsC_at : ∀ (l : List PrT) (j i : Nat), j < l.length → i < 15 → (prsC l)[j * 15 + i]? = (prL (l.getD j default))[i]?
 | [], j, _, h, _ => absurd h (Nat.not_lt_zero j)
 | t :: ts, 0, i, _, hi => by
  simp only [prsC, List.flatMap_cons, List.getD_cons_zero, Nat.zero_mul, Nat.zero_add]
  rw [List.getElem?_append_left (by rw [show (prL t).length = 15 from rfl]; exact hi)]
 | t :: ts, j + 1, i, h, hi => by
  have ih := prsC_at ts j i (by simpa using h) hi
  have hl : (prL t).length = 15 := rfl
  simp only [prsC, List.flatMap_cons, List.getD_cons_succ] at *
  rw [List.getElem?_append_right (by omega), hl, show (j + 1) * 15 + i - 15 = j * 15 + i by omega]
  exact ih
theorem rd_part {w : World} {ps : List PtT} {a : Option Addr} (h : Rd w a (ptsC ps)) {j : Nat} (hj : j < ps.length) : ∃ ba oa, a = some ⟨ba, oa, none⟩ ∧ ∀ W, Below w.heap.size w W → ∀ i u, i < 6 → (ptL (ps.getD j default))[i]? = some u → W.cell? ⟨ba, oa + j * 6 + i, none⟩ = some u := by
 obtain ⟨ba, oa, e, _⟩ := h (j * 6 + 0) _ (ptsC_at ps j 0 hj (by omega))
 refine ⟨ba, oa, e, fun W hb i u hi hu => ?_⟩
 obtain ⟨b2, o2, e2, h2⟩ := h (j * 6 + i) u (by rw [ptsC_at ps j i hj hi]; exact hu)
 rw [e] at e2
 cases e2
 rw [Nat.add_assoc]
 exact (hb.cell (World.block_lt_of_cell? w _ h2)).trans h2
theorem rd_proc {w : World} {qs : List PrT} {a : Option Addr} (h : Rd w a (prsC qs)) {j : Nat} (hj : j < qs.length) : ∃ ba oa, a = some ⟨ba, oa, none⟩ ∧ ∀ W, Below w.heap.size w W → ∀ i u, i < 15 → (prL (qs.getD j default))[i]? = some u → W.cell? ⟨ba, oa + j * 15 + i, none⟩ = some u := by
 obtain ⟨ba, oa, e, _⟩ := h (j * 15 + 0) _ (prsC_at qs j 0 hj (by omega))
 refine ⟨ba, oa, e, fun W hb i u hi hu => ?_⟩
 obtain ⟨b2, o2, e2, h2⟩ := h (j * 15 + i) u (by rw [prsC_at qs j i hj hi]; exact hu)
 rw [e] at e2
 cases e2
 rw [Nat.add_assoc]
 exact (hb.cell (World.block_lt_of_cell? w _ h2)).trans h2
set_option maxRecDepth 100000 in
set_option maxHeartbeats 8000000 in
theorem laid_any (c : Cfg) (g : Loc) (m : MS) (ps : List PtT) (a : Option Addr) (ca : Nat) (qs : List PrT) (b : Option Addr) (cb : Nat) (w : World) (hR : CfR w c g) (hF : Fld w) (hLm : Lim w) (hK : ∀ k, kOf g k → k < w.heap.size) (hS : StR w c.lane.toNat m ps a qs b) (hO : LayOk c m) :
    Calls Tryz.prog 34 #[cfV c g, stV m a ca b cb] w (LdOut w c g (kOf g) m) := by
  have HO := hd hO
  have HR := hd hR
  have HST := hd hS
  have HKL := hd hK
  have HFL := hd hF
  have HLM := hd hLm
  obtain ⟨Q, hQ⟩ : ∃ Q, Hid (LdOut w c g (kOf g) m = Q) := ⟨_, rfl⟩
  rw [hQ.out]
  have h0 := ldS_start w c g m a ca b cb
  obtain ⟨V, hV⟩ : ∃ W, Hid ((w.alloc (.cells (cfA c g) 27)).alloc (.cells (stA m a ca b cb) 47) = W) := ⟨_, rfl⟩
  rw [hV.out] at h0
  have H0 := hd h0
  clear h0 hO hR hS hK hF hLm
  unfold cfV stV cfA
  unfold cfA stA at hV
  unfold maZ at H0
  go_enter Tryz.func34, Tryz.ntmps34
  go_upto_region 2 with fail
  rw [hV.out]
  obtain ⟨V1, hV1⟩ : ∃ W, Hid (V.alloc (.cells #[.slice g.la c.labels.length g.lc, .slice g.ta c.table.length g.tc, .int .i64 c.fuel, .int .i64 c.lane, .int .i64 c.locks, .int .i64 c.log, .slice g.pa c.procs.length g.pc, .pointer none, .pointer none, .int .i64 m.tick, .slice none 0 0, .slice none 0 0] 99) = W) := ⟨_, rfl⟩
  rw [hV1.out] at H0 ⊢
  clear hV hV1
  obtain ⟨B, hB⟩ : ∃ B, Hid (w.heap.size = B) := ⟨_, rfl⟩
  obtain ⟨B1, hB1⟩ : ∃ X, Hid (B + 1 = X) := ⟨_, rfl⟩
  obtain ⟨M, hM⟩ : ∃ X, Hid (B1 + 1 = X) := ⟨_, rfl⟩
  have HVM : Hid (V.heap.size = M) := hd (by have := H0.out.size; have := hB.out; have := hB1.out; have := hM.out; omega)
  obtain ⟨np, hnp⟩ : ∃ n, Hid (c.labels.length = n) := ⟨_, rfl⟩
  obtain ⟨nq, hnq⟩ : ∃ n, Hid (c.procs.length = n) := ⟨_, rfl⟩
  have HMP : Hid (m.pt.length = np) := hd (HO.out.shp.np.trans hnp.out)
  have HMQ : Hid (m.pr.length = nq) := hd (HO.out.shp.nq.trans hnq.out)
  have hnp8 : np ≤ 8 := by rw [← hnp.out]; exact HO.out.cfg.n8
  have hnp1 : 1 ≤ np := by rw [← hnp.out]; exact HO.out.cfg.n1
  have hnq32 : nq ≤ 32 := by rw [← hnq.out]; exact HO.out.cfg.p32
  have HD : Hid (∀ W, Below V.heap.size V W → (W.cell? ⟨B, 0, none⟩ = some (.slice g.la np g.lc) ∧ W.cell? ⟨B, 1, none⟩ = some (.slice g.ta c.table.length g.tc) ∧ W.cell? ⟨B, 3, none⟩ = some (.int .i64 c.lane) ∧ W.cell? ⟨B, 6, none⟩ = some (.slice g.pa nq g.pc)) ∧ W.cell? ⟨B1, 1, none⟩ = some (.slice a np ca) ∧ W.cell? ⟨B1, 2, none⟩ = some (.slice b nq cb)) := hd (fun W hb => by
    have h := H0.out.box W hb
    rw [hB.out, hB1.out, hnp.out, hnq.out, HMP.out, HMQ.out] at h
    exact h)
  rw [hB.out, hB1.out, hM.out, hnp.out, hnq.out, HMP.out, HMQ.out]
  have HBV : Hid (∀ W, Below V.heap.size V W → Below w.heap.size w W) := hd (fun W hb => H0.out.bel.trans (hb.mono (by have := H0.out.size; omega)))
  have hT := tnew_any g.la g.lc c.labels V1 (HR.out.lab.below (HBV.out V1 H0.out.b1)) HO.out.lab0 HO.out.cfg.lab
  rw [hnp.out] at hT
  have HT : Hid (∀ e w1, NewOut V1 (fun W b F => TbAt W b F c.labels) e w1 → ∃ bt, e = .returned (.tuple #[.pointer (some ⟨bt, 0, none⟩), .int .i64 0, .int .i64 0]) ∧ (w1.cell? ⟨M, 7, none⟩ = some (.pointer none) ∧ w1.frozen? ⟨M, 7, none⟩ = false) ∧
      Hid (∃ F1, LdS w V c g m a ca b cb (w1.setCell ⟨M, 7, none⟩ (.pointer (some ⟨bt, 0, none⟩))) (some ⟨bt, 0, none⟩) ∧ TbAt (w1.setCell ⟨M, 7, none⟩ (.pointer (some ⟨bt, 0, none⟩))) bt F1 c.labels ∧ ∀ k, F1 k → V.heap.size < k ∧ k < (w1.setCell ⟨M, 7, none⟩ (.pointer (some ⟨bt, 0, none⟩))).heap.size)) := hd (by
    rintro e w1 ⟨bt, F1, rfl, k1, k2, k3⟩
    have hVM := HVM.out
    have hl := (Array.getElem?_eq_some_iff.1 H0.out.m1).1
    have e1 : w1.heap[V.heap.size]? = _ := (k3.block _ hl).trans H0.out.m1
    have hm : Mod (fun k => k = M) w1 (w1.setCell ⟨M, 7, none⟩ (.pointer (some ⟨bt, 0, none⟩))) := mod_set _ _ _ _
    have ht := H0.out.tab (bt := bt) k3
    rw [hVM] at e1 ht
    refine ⟨bt, rfl, ⟨by rw [cell_of_row _ _ _ _ _ _ e1]; rfl, by simp [World.frozen?, e1]⟩, hd ⟨F1, ht, k1.mod hm (fun k hk e => by have := (k2 k hk).1; omega), fun k hk => ?_⟩⟩
    have := k2 k hk
    have := hm.size
    omega)
  obtain ⟨N1, hN1⟩ : ∃ N : Ending → World → Prop, Hid (NewOut V1 (fun W b F => TbAt W b F c.labels) = N) := ⟨_, rfl⟩
  rw [hN1.out] at hT HT
  obtain ⟨⟨d0, -, -, -⟩, -, -⟩ := HD.out V1 H0.out.b1
  clear hN1 H0
  go_upto_region 3 with (go_at_call 73; (with_reducible refine hT.mono ?_); rintro e w1 hO; obtain ⟨bt, rfl, ⟨y1, y2⟩, HY⟩ := HT.out e w1 hO; clear hO)
  obtain ⟨V2, hV2⟩ : ∃ W, Hid (w1.setCell ⟨M, 7, none⟩ (.pointer (some ⟨bt, 0, none⟩)) = W) := ⟨_, rfl⟩
  rw [hV2.out] at HY ⊢
  obtain ⟨F1, h1, h2, h3⟩ := HY.out
  have H1 := hd h1
  have H2 := hd h2
  have H3 := hd h3
  clear hV2 HY h1 h2 h3 hT HT y1 y2 d0
  have hT := slnew_any g.ta g.tc c.table (np : Int) V2 (HR.out.tab.below (HBV.out V2 H1.out.b1)) (by omega) (by omega) HO.out.cfg.t1 HO.out.cfg.t64 (by rw [← hnp.out]; exact HO.out.cfg.tab)
  have HT : Hid (∀ e w1, NewOut V2 (fun W b F => SlAt W b F c.table) e w1 → ∃ bs, e = .returned (.tuple #[.pointer (some ⟨bs, 0, none⟩), .int .i64 0, .int .i64 0]) ∧ (w1.cell? ⟨M, 8, none⟩ = some (.pointer none) ∧ w1.frozen? ⟨M, 8, none⟩ = false) ∧
      Hid (LdX V c g (kOf g) m 0 0 0 0 (w1.setCell ⟨M, 8, none⟩ (.pointer (some ⟨bs, 0, none⟩))) none 0 none 0)) := hd (by
    rintro e w1 ⟨bs, F2, rfl, k1, k2, k3⟩
    have hVM := HVM.out
    have hl := (Array.getElem?_eq_some_iff.1 H1.out.m1).1
    have e1 : w1.heap[V.heap.size]? = _ := (k3.block _ hl).trans H1.out.m1
    have hx := ldX_start (K := kOf g) H1.out.m1 H1.out.b1 H2.out H3.out k3 k1 k2
    rw [hVM] at e1 hx
    exact ⟨bs, rfl, ⟨by rw [cell_of_row _ _ _ _ _ _ e1]; rfl, by simp [World.frozen?, e1]⟩, hd hx⟩)
  obtain ⟨N1, hN1⟩ : ∃ N : Ending → World → Prop, Hid (NewOut V2 (fun W b F => SlAt W b F c.table) = N) := ⟨_, rfl⟩
  rw [hN1.out] at hT HT
  obtain ⟨⟨d0, d1, -, -⟩, -, -⟩ := HD.out V2 H1.out.b1
  clear hN1 H1 H2 H3
  go_upto_region 4 with (go_at_call 69; (with_reducible refine hT.mono ?_); rintro e w2 hO; obtain ⟨bs, rfl, ⟨y1, y2⟩, HY⟩ := HT.out e w2 hO; clear hO)
  obtain ⟨V3, hV3⟩ : ∃ W, Hid (w2.setCell ⟨M, 8, none⟩ (.pointer (some ⟨bs, 0, none⟩)) = W) := ⟨_, rfl⟩
  rw [hV3.out] at HY ⊢
  clear hV3 hT HT y1 y2 d0 d1
  have HBX : Hid (∀ j aa bb q wr ap cp aq cq, LdX V c g (kOf g) m j aa bb q wr ap cp aq cq → Below V.heap.size V wr) := hd (by
    rintro j aa bb q wr ap cp aq cq ⟨l, Fs, h, -⟩
    exact h.i.bel)
  obtain ⟨-, d1, -⟩ := HD.out V3 (HBX.out _ _ _ _ _ _ _ _ _ HY.out)
  go_wp2_with fail
  go_loopg [43] np (fun k v43 wr => ∃ (j : Nat), v43 = .int .i64 (j : Int) ∧ j + k = np ∧ Hid (∃ ap cp, LdX V c g (kOf g) m j 0 0 0 wr ap cp none 0))
  case atStart => exact ⟨0, rfl, by omega, hd ⟨none, 0, HY.out⟩⟩
  case round =>
    obtain ⟨j, rfl, hjk, HH⟩ := hrel
    clear HY d1
    obtain ⟨ap, cp, hX⟩ := HH.out
    clear HH
    by_cases hlt : j < np
    · have hlt' : (j : Int) < (np : Int) := by omega
      have hjp : j < ps.length := by have := HMP.out; rw [← HST.out.np, List.length_map] at this; omega
      obtain ⟨ba, oa, rfl, hcell⟩ := rd_part HST.out.rp hjp
      have hcw := hcell wr (HBV.out wr (HBX.out _ _ _ _ _ _ _ _ _ hX))
      obtain ⟨t, ht⟩ : ∃ t, Hid (ps.getD j default = t) := ⟨_, rfl⟩
      rw [ht.out] at hcw
      have p0 : wr.cell? ⟨ba, oa + j * 6, none⟩ = some (.int .i64 (t.x.cur : Int)) := hcw 0 _ (by omega) rfl
      have p1 := hcw 1 _ (by omega) rfl
      have p2 := hcw 2 _ (by omega) rfl
      have p3 := hcw 3 _ (by omega) rfl
      have p4 := hcw 4 _ (by omega) rfl
      have p5 := hcw 5 _ (by omega) rfl
      have HXX := hd hX
      clear hX hcell hcw
      go_upto_region 7 with fail
      obtain ⟨Wc, hWc⟩ : ∃ W, Hid (wr.alloc (.cells #[.int .i64 (t.x.cur : Int), .slice t.la t.x.log.length t.lc, .int .i64 t.x.lost, .int .i64 t.x.forb, .slice t.oa t.x.os.length t.oc, .slice t.qa t.x.os.length t.qc] 104) = W) := ⟨_, rfl⟩
      have hbc : Below wr.heap.size wr Wc := by rw [← hWc.out]; exact below_al wr _
      have hgc : Wc.heap[wr.heap.size]? = some (.cells #[.int .i64 (t.x.cur : Int), .slice t.la t.x.log.length t.lc, .int .i64 t.x.lost, .int .i64 t.x.forb, .slice t.oa t.x.os.length t.oc, .slice t.qa t.x.os.length t.qc] 104 (0, 0)) := by rw [← hWc.out]; exact heap_alloc_new wr _
      rw [hWc.out]
      obtain ⟨gp, hgp⟩ : ∃ n, Hid (wr.heap.size = n) := ⟨_, rfl⟩
      rw [hgp.out] at hgc ⊢
      have z0 := cell_of_row Wc gp 0 _ _ _ hgc
      have z1 := cell_of_row Wc gp 1 _ _ _ hgc
      have z2 := cell_of_row Wc gp 2 _ _ _ hgc
      have z3 := cell_of_row Wc gp 3 _ _ _ hgc
      have z4 := cell_of_row Wc gp 4 _ _ _ hgc
      have z5 := cell_of_row Wc gp 5 _ _ _ hgc
      have hjl : j < c.labels.length := by rw [hnp.out]; exact hlt
      have htx : t.x = ptOf m j := by rw [← ht.out]; exact ptx_at HST.out.np hjp
      have hlk := HO.out.shp.lks hjl
      have hlg := HO.out.shp.log j hjl
      have hg4 := HO.out.cfg.g4096
      have hp32 := HO.out.cfg.p32
      have hst := laidPart_any j t Wc.drew (by rw [← ht.out]; exact (HST.out.pp j hjp).below (HBV.out _ ((HBX.out _ _ _ _ _ _ _ _ _ HXX.out).trans ((hbc.drew).mono (HBX.out _ _ _ _ _ _ _ _ _ HXX.out).size)))) (by rw [htx]; omega) (by rw [htx]; exact hlk.good.le)
        (fun o ho => by
          rw [htx] at ho
          rcases hlk.own o ho with e | ⟨e1, e2⟩
          · subst e; exact ⟨by omega, by omega⟩
          · exact ⟨by omega, by omega⟩)
        (fun i p hp => by
          rw [htx] at hp
          obtain ⟨e1, e2⟩ := hlk.que i p hp
          exact ⟨by omega, by omega⟩)
        (by rw [htx]; exact Nat.lt_of_le_of_lt (hlk.total HO.out.cfg) (by decide))
        (by rw [htx]; exact HO.out.lay j hjl)
      unfold ptV ptL at hst
      have HN : Hid (∀ e w1, LpOut Wc.drew j t.x e w1 → ∃ (Gp : Nat) (a' : Option Addr) (c' : Nat) (w2 : World), e = .returned (.pointer (some ⟨Gp, 0, none⟩)) ∧ (∀ W, Below w1.heap.size w1 W → W.cell? ⟨M, 10, none⟩ = some (.slice ap j cp)) ∧
          (∀ ty, (Builtin.append_ #[96, 96] ty #[.slice ap j cp, .slice (some ⟨w1.heap.size, 0, none⟩) 1 1]).run Tryz.prog (w1.alloc (.cells #[.pointer (some ⟨Gp, 0, none⟩)] 100)) = .ok (.slice a' (j + 1) c') w2) ∧ (∃ u, w2.cell? ⟨M, 10, none⟩ = some u) ∧ w2.frozen? ⟨M, 10, none⟩ = false ∧
          Hid (LdX V c g (kOf g) m (j + 1) 0 0 0 (w2.setCell ⟨M, 10, none⟩ (.slice a' (j + 1) c')) a' c' none 0)) := hd (by
        rintro e w1 ⟨Gp, al, cl, bw, FW, bl, FL, rfl, hL⟩
        rw [htx] at hL
        obtain ⟨k1, a', c', w2, k2, k3, k4, k5⟩ := HXX.out.addP (by omega) hbc.drew hL
        rw [HVM.out] at k1 k3 k4 k5
        have hbw : Below wr.heap.size wr w1 := hbc.drew.trans (hL.bel.mono hbc.size)
        exact ⟨Gp, a', c', w2, rfl, fun W hW => k1 W (hbw.trans (hW.mono hbw.size)), k2, k3, k4, hd k5⟩)
      have x1 : Wc.cell? ⟨M, 10, none⟩ = some (.slice ap j cp) := by
        obtain ⟨l, Fs, hW, rfl, rfl, -, -⟩ := HXX.out
        have hh := (hW.i.below hbc).hh.hd
        rw [hW.b, HVM.out] at hh
        rw [cell_of_row _ _ _ _ _ _ hh]
        rfl
      clear hgc hWc htx hlk hlg hg4 hp32 p0 p1 p2 p3 p4 p5 hjp hjl
      go_region_law (first
        | (go_simp; (with_reducible refine hst.mono ?_); rintro e w1 he; obtain ⟨Gp, a', c', w2, rfl, y1, y2, ⟨yu, y3⟩, y4, HY⟩ := HN.out e w1 he; have y0 := y1 w1 (Below.refl _ _); have yA : ∀ ob, (w1.alloc ob).cell? ⟨M, 10, none⟩ = some (.slice ap j cp) := (fun ob => y1 _ (below_al w1 ob)); replace y2 := hd y2; clear he y1)
        | (refine Lane.step_append_run (by rfl) _ _ _ (by rfl) _ _ _ _ (by rfl) (by rfl) y2.out ?_; clear y2))
      all_goals (
        go_wp2_with fail
        go_roundg (gk - 1)
        case rel => exact ⟨j + 1, by go_num, by omega, hd ⟨_, _, HY.out⟩⟩
        case measure => omega)
    · obtain rfl : j = np := by omega
      have hbw := HBX.out _ _ _ _ _ _ _ _ _ hX
      obtain ⟨-, -, d2⟩ := HD.out wr hbw
      have HY : Hid (LdX V c g (kOf g) m j 0 0 0 wr ap cp none 0) := hd hX
      clear hX hbw hjk hlt
      go_wp2_with fail
      go_loopg [64] nq (fun k v64 wr => ∃ (i : Nat), v64 = .int .i64 (i : Int) ∧ i + k = nq ∧ Hid (∃ aq cq, LdX V c g (kOf g) m j i i i wr ap cp aq cq))
      case atStart => exact ⟨0, rfl, by omega, hd ⟨none, 0, HY.out⟩⟩
      case round =>
        obtain ⟨i, rfl, hik, HH⟩ := hrel
        clear HY d2
        obtain ⟨aq, cq, hX⟩ := HH.out
        clear HH
        by_cases hlt : i < nq
        · have hlt' : (i : Int) < (nq : Int) := by omega
          have hiq : i < qs.length := by have := HMQ.out; rw [← HST.out.nq, List.length_map] at this; omega
          obtain ⟨bb, ob, rfl, hcell⟩ := rd_proc HST.out.rq hiq
          have hcw := hcell wr (HBV.out wr (HBX.out _ _ _ _ _ _ _ _ _ hX))
          obtain ⟨t, ht⟩ : ∃ t, Hid (qs.getD i default = t) := ⟨_, rfl⟩
          rw [ht.out] at hcw
          have p0 : wr.cell? ⟨bb, ob + i * 15, none⟩ = some (.int .i64 t.x.st) := hcw 0 _ (by omega) rfl
          have p1 := hcw 1 _ (by omega) rfl
          have p2 := hcw 2 _ (by omega) rfl
          have p3 := hcw 3 _ (by omega) rfl
          have p4 := hcw 4 _ (by omega) rfl
          have p5 := hcw 5 _ (by omega) rfl
          have p6 := hcw 6 _ (by omega) rfl
          have p7 := hcw 7 _ (by omega) rfl
          have p8 := hcw 8 _ (by omega) rfl
          have p9 := hcw 9 _ (by omega) rfl
          have p10 := hcw 10 _ (by omega) rfl
          have p11 := hcw 11 _ (by omega) rfl
          have p12 := hcw 12 _ (by omega) rfl
          have p13 := hcw 13 _ (by omega) rfl
          have p14 := hcw 14 _ (by omega) rfl
          have HXX := hd hX
          clear hX hcell hcw
          go_upto_region 12 with fail
          obtain ⟨Wc, hWc⟩ : ∃ W, Hid (wr.alloc (.cells #[.int .i64 t.x.st, .int .i64 t.x.core.pc, .int .i64 (t.x.core.r 0), .int .i64 (t.x.core.r 1), .int .i64 (t.x.core.r 2), .int .i64 (t.x.core.r 3), .int .i64 (t.x.core.r 4), .int .i64 (t.x.core.r 5), .int .i64 (t.x.core.r 6), .int .i64 (t.x.core.r 7), .int .i64 (t.x.lc : Int), .int .i64 t.x.timer, .bool t.x.fired, .int .i64 t.x.wake, .slice t.la t.x.ss.length t.lc] 52) = W) := ⟨_, rfl⟩
          have hbc : Below wr.heap.size wr Wc := by rw [← hWc.out]; exact below_al wr _
          have HGC : Hid (Wc.heap[wr.heap.size]? = some (.cells #[.int .i64 t.x.st, .int .i64 t.x.core.pc, .int .i64 (t.x.core.r 0), .int .i64 (t.x.core.r 1), .int .i64 (t.x.core.r 2), .int .i64 (t.x.core.r 3), .int .i64 (t.x.core.r 4), .int .i64 (t.x.core.r 5), .int .i64 (t.x.core.r 6), .int .i64 (t.x.core.r 7), .int .i64 (t.x.lc : Int), .int .i64 t.x.timer, .bool t.x.fired, .int .i64 t.x.wake, .slice t.la t.x.ss.length t.lc] 52 (0, 0))) := hd (by rw [← hWc.out]; exact heap_alloc_new wr _)
          rw [hWc.out]
          obtain ⟨gp, hgp⟩ : ∃ n, Hid (wr.heap.size = n) := ⟨_, rfl⟩
          rw [hgp.out] at HGC ⊢
          clear hWc p0 p1 p2 p3 p4 p5 p6 p7 p8 p9 p10 p11 p12 p13 p14
          obtain ⟨l, Fs, HL⟩ : ∃ l Fs, Hid (LdW V c g (kOf g) m j i i i wr l Fs ∧ l.ap = ap ∧ l.cp = cp ∧ l.aq = aq ∧ l.cq = cq) := by
            obtain ⟨l, Fs, h⟩ := HXX.out
            exact ⟨l, Fs, hd h⟩
          have hil : i < c.procs.length := by rw [hnq.out]; exact hlt
          obtain ⟨ip, hip⟩ : ∃ n, Hid (pa c i = n) := ⟨_, rfl⟩
          obtain ⟨bp, hbp⟩ : ∃ n, Hid (l.bp ip = n) := ⟨_, rfl⟩
          have hipj : ip < j := by rw [← hip.out, ← hnp.out]; exact HO.out.cfg.pa_lt hil
          have hipj' : (ip : Int) < (j : Int) := by omega
          have HPI : Hid ((c.procs.getD i default).part = (ip : Int)) := hd (by have := (HO.out.cfg.part i hil).1; rw [← hip.out]; unfold pa; omega)
          obtain ⟨ga, rfl⟩ : ∃ ga, ap = some ⟨ga, 0, none⟩ := by
            obtain ⟨h1, h2, -⟩ := HL.out
            rw [← h2]
            exact h1.i.hh.rp.head (by omega)
          have HBC : Hid (Below V.heap.size V Wc) := hd ((HBX.out _ _ _ _ _ _ _ _ _ HXX.out).trans (hbc.mono (HBX.out _ _ _ _ _ _ _ _ _ HXX.out).size))
          obtain ⟨am, nm, cm, HM, pb, po, hgpa, HE⟩ : ∃ am nm cm, Hid ((g.ms.getD i default).a = am ∧ (cd c i).length = nm ∧ (g.ms.getD i default).c = cm) ∧ ∃ pb po, g.pa = some ⟨pb, po, none⟩ ∧ Hid (∀ W, Below V.heap.size V W → W.cell? ⟨pb, po + i * 2, none⟩ = some (.int .i64 (ip : Int)) ∧ W.cell? ⟨pb, po + i * 2 + 1, none⟩ = some (.slice am nm cm)) := by
            have hml : i < g.ms.length := by rw [HR.out.len]; exact hil
            obtain ⟨pb, po, e, _⟩ := HR.out.prs (i * 2) _ (psC_at g.ms i hml).1
            refine ⟨_, _, _, hd ⟨rfl, rfl, rfl⟩, pb, po, e, hd (fun W hb => ?_)⟩
            have hr := HR.out.prs.below (HBV.out W hb)
            obtain ⟨b2, o2, e2, h2⟩ := hr (i * 2) _ (psC_at g.ms i hml).1
            obtain ⟨b3, o3, e3, h3⟩ := hr (i * 2 + 1) _ (psC_at g.ms i hml).2
            rw [e] at e2 e3
            cases e2
            cases e3
            have hat := HR.out.at i
            rw [hat] at h2 h3
            rw [HPI.out] at h2
            exact ⟨h2, h3⟩
          have x10 : Wc.cell? ⟨M, 10, none⟩ = some (.slice (some ⟨ga, 0, none⟩) j cp) := by
            obtain ⟨h1, h2, h3, -⟩ := HL.out
            have hh := (h1.i.below hbc).hh.hd
            rw [h1.b, HVM.out] at hh
            rw [cell_of_row _ _ _ _ _ _ hh, ← h2, ← h3]
            rfl
          have xg : Wc.cell? ⟨ga, ip, none⟩ = some (.pointer (some ⟨bp, 0, none⟩)) := by
            obtain ⟨h1, h2, h3, -⟩ := HL.out
            have hr := (h1.i.below hbc).hh.rp
            obtain ⟨g2, e2, h4⟩ := hr.cell ip (by omega)
            rw [h2] at e2
            cases e2
            rw [h4, ptC_at _ _ (by simp; exact hipj)]
            simp [hipj, hbp.out]
          obtain ⟨⟨-, -, d3, d6⟩, -, -⟩ := HD.out Wc HBC.out
          rw [hgpa] at d6
          replace hgpa := hd hgpa
          obtain ⟨e0, e1⟩ := HE.out Wc HBC.out
          go_region_held3 (fun w' => w'.cell? ⟨M, 10, none⟩ = some (.slice (some ⟨ga, 0, none⟩) j cp) ∧ w'.cell? ⟨ga, ip, none⟩ = some (.pointer (some ⟨bp, 0, none⟩)) ∧ w'.cell? ⟨B, 6, none⟩ = some (.slice (some ⟨pb, po, none⟩) nq g.pc) ∧ w'.cell? ⟨pb, po + i * 2, none⟩ = some (.int .i64 (ip : Int))) (go_keep) (fail)
          go_upto_region 14 with fail
          obtain ⟨Wd, hWd⟩ : ∃ W, Hid ((Wc.alloc (.cells #[.int .i64 (i : Int), .pointer (some ⟨bp, 0, none⟩), .slice am nm cm, .int .i64 0, .int .i64 0, .int .i64 0, .int .i64 0, .int .i64 0, .int .i64 0, .int .i64 0, .int .i64 0, .int .i64 0, .int .i64 0, .bool false, .pointer none] 147)).drew = W) := ⟨_, rfl⟩
          have hbd : Below wr.heap.size wr Wd := by rw [← hWd.out]; exact (hbc.alloc hbc.size _).drew
          have hbd2 : Below Wc.heap.size Wc Wd := by rw [← hWd.out]; exact (below_al Wc _).drew
          have HQD : Hid (Wd.heap[Wc.heap.size]? = some (.cells (pqA i bp am nm cm default none) 147 (0, 0))) := hd (by rw [← hWd.out]; exact heap_drew (heap_alloc_new Wc _))
          rw [hWd.out]
          obtain ⟨bq, hbq⟩ : ∃ n, Hid (Wc.heap.size = n) := ⟨_, rfl⟩
          rw [hbq.out] at HQD ⊢
          clear hWd x10 xg d6 e0 e1
          have HGD : Hid (Wd.heap[gp]? = _) := hd ((hbd2.block _ (Array.getElem?_eq_some_iff.1 HGC.out).1).trans HGC.out)
          have HBD : Hid (Below V.heap.size V Wd) := hd ((HBX.out _ _ _ _ _ _ _ _ _ HXX.out).trans (hbd.mono (HBX.out _ _ _ _ _ _ _ _ _ HXX.out).size))
          obtain ⟨room, hroom⟩ : ∃ n : Nat, Hid (c.lane.toNat = n) := ⟨_, rfl⟩
          have hlr : c.lane = (room : Int) := by have := HO.out.cfg.l1; have := hroom.out; omega
          obtain ⟨⟨-, -, d3', -⟩, -, -⟩ := HD.out Wd HBD.out
          rw [hlr] at d3'
          clear d3
          have z0 := cell_of_row Wd gp 0 _ _ _ HGD.out
          have z1 := cell_of_row Wd gp 1 _ _ _ HGD.out
          have z2 := cell_of_row Wd gp 2 _ _ _ HGD.out
          have z3 := cell_of_row Wd gp 3 _ _ _ HGD.out
          have z4 := cell_of_row Wd gp 4 _ _ _ HGD.out
          have z5 := cell_of_row Wd gp 5 _ _ _ HGD.out
          have z6 := cell_of_row Wd gp 6 _ _ _ HGD.out
          have z7 := cell_of_row Wd gp 7 _ _ _ HGD.out
          have z8 := cell_of_row Wd gp 8 _ _ _ HGD.out
          have z9 := cell_of_row Wd gp 9 _ _ _ HGD.out
          have z10 := cell_of_row Wd gp 10 _ _ _ HGD.out
          have z11 := cell_of_row Wd gp 11 _ _ _ HGD.out
          have z12 := cell_of_row Wd gp 12 _ _ _ HGD.out
          have z13 := cell_of_row Wd gp 13 _ _ _ HGD.out
          have z14 := cell_of_row Wd gp 14 _ _ _ HGD.out
          have htx : t.x = prOf m i := by rw [← ht.out]; exact prx_at HST.out.nq hiq
          obtain ⟨N, HNC, HNP⟩ : ∃ N : Ending → World → Prop, Hid (Calls Tryz.prog 75 #[.pointer (some ⟨bq, 0, none⟩), .int .i64 (room : Int), prV t] Wd N) ∧ Hid (∀ e w1, N e w1 → e = .returned (.tuple #[]) ∧ ∃ ar n cr a' c' w2, w1.cell? ⟨bp, 1, none⟩ = some (.slice ar n cr) ∧ (∀ ty, (Builtin.append_ #[97, 97] ty #[.slice ar n cr, .slice (some ⟨w1.heap.size, 0, none⟩) 1 1]).run Tryz.prog (w1.alloc (.cells #[.pointer (some ⟨bq, 0, none⟩)] 106)) = .ok (.slice a' (n + 1) c') w2) ∧ (∃ u, w2.cell? ⟨bp, 1, none⟩ = some u) ∧ w2.frozen? ⟨bp, 1, none⟩ = false ∧
              Hid (∀ w3, w2.setCell ⟨bp, 1, none⟩ (.slice a' (n + 1) c') = w3 → w3.cell? ⟨M, 11, none⟩ = some (.slice aq i cq) ∧ ∃ a2 c2 w4, (∀ ty, (Builtin.append_ #[97, 97] ty #[.slice aq i cq, .slice (some ⟨w3.heap.size, 0, none⟩) 1 1]).run Tryz.prog (w3.alloc (.cells #[.pointer (some ⟨bq, 0, none⟩)] 106)) = .ok (.slice a2 (i + 1) c2) w4) ∧ (∃ u, w4.cell? ⟨M, 11, none⟩ = some u) ∧ w4.frozen? ⟨M, 11, none⟩ = false ∧
                Hid (LdX V c g (kOf g) m j (i + 1) (i + 1) (i + 1) (w4.setCell ⟨M, 11, none⟩ (.slice a2 (i + 1) c2)) (some ⟨ga, 0, none⟩) cp a2 c2))) := by
            obtain ⟨hW, f1, f2, f3, f4⟩ := HL.out
            have hI := hW.i.below hbd
            have hlc := hW.c
            obtain ⟨L, hwh, hwok⟩ := hI.cmp (.whl ip) hipj (by simp)
            have hwok' : WOk (tru c i) m ip L := by rw [← hlc]; exact hwok
            obtain ⟨la, lc, q1, -, -, -, -, -, q7, -, -⟩ := hI.cmp (.part ip) hipj (by simp)
            have q1' : Wd.heap[bp]? = some (.cells (paA (l.tr i) ip (ptOf m ip) la lc) 152 (0, 0)) := by rw [← hbp.out]; exact q1
            have hbpl : V.heap.size ≤ bp ∧ bp < wr.heap.size := by rw [← hbp.out]; exact hW.i.ge (.part ip) hipj _ q7
            have hbql : wr.heap.size ≤ bq := by rw [← hbq.out]; exact hbc.size
            have hql := (Array.getElem?_eq_some_iff.1 HQD.out).1
            have hFl : ∀ k, Fs (.whl ip) k → V.heap.size ≤ k ∧ k < wr.heap.size := hW.i.ge (.whl ip) hipj
            have hsV : V.heap.size ≤ Wd.heap.size := HBD.out.size
            have hp32 := HO.out.cfg.p32
            have hln := HO.out.shp.ln i hil
            have htm := HO.out.shp.tim i hil
            have htk := HO.out.tick
            have hl1 := HO.out.cfg.l1
            have hl64 := HO.out.cfg.l64
            have hn8 := HO.out.cfg.n8
            have hr2 := hroom.out
            have hPR : PrR w room t := by rw [← ht.out, ← hroom.out]; exact HST.out.qq i hiq
            have hsl : t.ls.length = t.x.ss.length := by rw [← hPR.ss]; simp
            have hsl2 : t.ls.length = c.labels.length + 1 := by rw [hsl, htx]; exact hln.2
            have hln' : Lane.GoodP t.x.ss t.x.lc := by rw [htx]; exact hln.1
            have hls : ∀ u ∈ t.ls, Lane.Good (u.ls room) ∧ ∀ x ∈ u.ws, isNo c x.1 := fun u hu => by
              have hm : u.ls room ∈ t.x.ss := by rw [← hPR.ss]; exact List.mem_map_of_mem hu
              refine ⟨hln'.each _ hm, fun x hx => ?_⟩
              rw [htx] at hm
              exact HO.out.shp.wai i hil _ hm x hx
            have hcall := lay_any i bp am nm cm bq (l.bw ip) room (Fs (.whl ip)) L t Wd (fun W hm => by
                have hb2 : Below V.heap.size Wd W := hm.below hsV (fun k _ hk => by
                  rcases hk with rfl | hk
                  · omega
                  · exact (hFl k hk).1)
                exact hPR.below (HBV.out W (HBD.out.trans hb2))) HQD.out (by rw [cell_of_row _ _ _ _ _ _ q1']; rfl) hwh (by omega) (fun e => by
                  rw [← hbp.out] at e
                  exact hW.i.ap (.whl ip) (.part ip) hipj hipj (by simp) _ e q7) (fun e => by have := (hFl _ e).2; omega) (wok_len32 hwok' hwh.good (by simp only [tru, List.length_take]; omega)) (by omega) (by rw [htx]; omega) (by rw [htx]; omega) (by omega) (by omega) (by omega) (by omega) (by rw [hsl]; exact hln'.cu)
                (fun u hu => ⟨by
                  have hnd := (hls u hu).1.may.2.2.1
                  have := nodup_le 32 (u.ws.map (·.1)) hnd (fun x hx => by
                    obtain ⟨y, hy, rfl⟩ := List.mem_map.1 hx
                    obtain ⟨g1, g2⟩ := (hls u hu).2 y hy
                    omega)
                  rw [List.length_map] at this
                  omega, fun x hx => by
                  obtain ⟨g1, g2⟩ := (hls u hu).2 x hx
                  exact ⟨by omega, by omega⟩⟩)
                (fun u hu => (hls u hu).1.may)
            refine ⟨_, hd hcall, hd ?_⟩
            rintro e w1 ⟨rfl, bo, FP, FW', hA⟩
            refine ⟨rfl, ?_⟩
            rw [htx] at hA
            obtain ⟨m1, m2, m3⟩ := HM.out
            rw [← m1, ← m2, ← m3] at hA
            obtain ⟨ar, n, cr, a', c', w2, k1, k2, k3, k4, k5⟩ := hW.lay hil hp32 hip.out hipj HPI.out hbp.out HVM.out hbd hbql hql hwok' hA
            refine ⟨ar, n, cr, a', c', w2, k1, k2, k3, k4, hd (fun w3 e3 => ?_)⟩
            obtain ⟨j1, a2, c2, w4, j2, j3, j4, j5⟩ := k5 w3 e3
            rw [f3, f4] at j1 j2
            rw [f1, f2] at j5
            exact ⟨j1, a2, c2, w4, j2, j3, j4, hd j5⟩
          have hst := HNC.out
          unfold prV prL at hst
          clear HNC HGC HGD HQD HE HL HXX hbd hbd2 hbc htx hlr HM
          go_upto_region 15 with (go_at_call 75; (with_reducible refine hst.mono ?_); rintro e w1 he; obtain ⟨rfl, ar, n, cr, a', c', w2, y0, y2, ⟨yu, y3⟩, y4, HY⟩ := HNP.out e w1 he; replace y2 := hd y2; clear he)
          clear hst HNP d3' z0 z1 z2 z3 z4 z5 z6 z7 z8 z9 z10 z11 z12 z13 z14
          go_upto_region 16 with (refine wpList_append_run (by rfl) _ _ _ (by rfl) _ _ _ _ (by rfl) (by rfl) y2.out ?_; clear y2)
          obtain ⟨w3, hw3⟩ : ∃ W, Hid (w2.setCell ⟨bp, 1, none⟩ (.slice a' (n + 1) c') = W) := ⟨_, rfl⟩
          obtain ⟨x11, a2, c2, w4, g2, ⟨gu, g3⟩, g4, HZ⟩ := HY.out w3 hw3.out
          rw [hw3.out]
          replace g2 := hd g2
          clear HY hw3 y0 y3 y4
          go_wp2_with (refine wpList_append_run (by rfl) _ _ _ (by rfl) _ _ _ _ (by rfl) (by rfl) g2.out ?_; clear g2)
          go_roundg (gk - 1)
          case rel => exact ⟨i + 1, by go_num, by omega, hd ⟨a2, c2, HZ.out⟩⟩
          case measure => omega
        · obtain rfl : i = nq := by omega
          have HEND : Hid (Q (.returned (.pointer (some ⟨M, 0, none⟩))) wr) := hd (by
            rw [← hQ.out]
            obtain ⟨l, Fs, hW, -⟩ := hX
            obtain ⟨hI, h1, h2, h3, h4⟩ := hW
            have hbw := HBV.out wr hI.bel
            have hKw := HKL.out
            have hb : Base wr l := by
              refine ⟨?_, Fld.mod HFL.out (Mod.of_below (fun _ => False) hbw) (fun h => h), Lim.mod HLM.out (Mod.of_below (fun _ => False) hbw) (fun h => h), fun k hk => ?_, ?_, ?_, fun k hk => ?_⟩
              · rw [h1, h2]
                exact HR.out.below hbw
              · rw [h3]
                rw [h2] at hk
                exact .inl hk
              · rw [h3]
                exact .inr (.inl rfl)
              · rw [h3]
                exact .inr (.inr rfl)
              · rw [h3] at hk
                have := hKw k hk
                have := hbw.size
                omega
            have hI' : LdI V l m l.c.labels.length l.c.procs.length l.c.procs.length l.c.procs.length wr Fs := by
              rw [h1, hnp.out, hnq.out]
              exact hI
            have hsV := HVM.out
            have hVw : w.heap.size ≤ V.heap.size := by have := hB.out; have := hB1.out; have := hM.out; omega
            obtain ⟨U, hMk, hU⟩ := hI'.whole hb (fun k hk => by
              rw [h3] at hk
              have := hKw k hk
              omega)
            exact ⟨l, U, by rw [h4, hsV], hMk, h1, h2, h3, fun k hk => Nat.le_trans hVw (hU k hk), hbw⟩)
          clear hX
          go_wp2_with fail
          exact HEND.out
end Go.Proofs.YthhcecllejddeaaGreatDoor
