/- A machine as it is at first: what is told of it, in memory. A state that can be read. -/
import Derived.Test.YthhcecllejddeaaGreatDoorGJd
import Derived.Test.YthhcecllejddeaaGreatDoorGMg
import Derived.Test.YthhcecllejddeaaGreatDoorGMk
import Derived.Test.YthhcecllejddeaaGreatDoorGQz
namespace Go.Proofs.YthhcecllejddeaaGreatDoor
open Go.RowKit
def pt0 (k : Nat) : PtS := ⟨0, [], 0, 0, List.replicate k (-1), List.replicate k []⟩
def pr0 (n room : Nat) : PrS := ⟨0, ⟨0, fun _ => 0⟩, 0, false, 0, List.replicate (n + 1) ⟨room, [], [], 0, 0⟩, 0⟩
theorem firstM_eq (c : Cfg) : firstM c = ⟨0, List.replicate c.labels.length (pt0 c.locks.toNat), List.replicate c.procs.length (pr0 c.labels.length c.lane.toNat)⟩ := rfl
theorem info_lint : (Tryz.prog.info? 24).map (fun i => (i.zero, i.size, i.bytes)) = some (some (.slice none 0 0), 1, 24) := by kernel_rfl
theorem info_alane : (Tryz.prog.info? 219).map (fun i => (i.zero, i.size, i.bytes)) = some (some (.agg #[.slice none 0 0, .slice none 0 0, .int .i64 0, .int .i64 0]), 4, 64) := by kernel_rfl
def zq (k : Nat) : Array Value := madeCells (Value.slice none 0 0).cells (k * 1)
def zl (n : Nat) : Array Value := madeCells (Value.agg #[.slice none 0 0, .slice none 0 0, .int .i64 0, .int .i64 0]).cells (n * 4)
theorem zq_size (k : Nat) : (zq k).size = k * 1 := by simp [zq, madeCells]
theorem zl_size (n : Nat) : (zl n).size = n * 4 := by simp [zl, madeCells]
theorem zq_eq (k : Nat) : (zq k).toList = Locks.sC (List.replicate k (none, 0, [])) := by
 apply List.ext_getElem?
 intro i
 unfold zq madeCells
 by_cases h : i < k
 ·simp [Locks.sC, Locks.sV, Value.cells, h, Nat.mod_one]
 ·simp [Locks.sC, Locks.sV, Value.cells, h, Nat.mod_one]
theorem tAt_rep (n i : Nat) : Lane.tAt (List.replicate n Lane.T0) i = Lane.T0 := by
 unfold Lane.tAt
 rw [List.getD_eq_getElem?_getD, List.getElem?_replicate]
 split <;> rfl
theorem zl_at (n : Nat) (i j : Nat) (hi : i < n) (hj : j < 4) : (zl n).toList[i * 4 + j]? = some ((#[.slice none 0 0, .slice none 0 0, .int .i64 0, .int .i64 0] : Array Value).getD j (.int .i64 0)) := by
 unfold zl madeCells
 have h : i * 4 + j < n * 4 := by omega
 have h2 : (i * 4 + j) % 4 = j := by omega
 have e : (Value.agg #[.slice none 0 0, .slice none 0 0, .int .i64 0, .int .i64 0]).cells = #[.slice none 0 0, .slice none 0 0, .int .i64 0, .int .i64 0] := by rfl
 have hj' : j = 0 ∨ j = 1 ∨ j = 2 ∨ j = 3 := by omega
 rcases hj' with rfl | rfl | rfl | rfl <;> (try simp only [Nat.add_zero] at h h2) <;> simp [e, h, h2]
theorem zl_eq (n : Nat) : (zl n).toList = Lane.tlC (List.replicate n Lane.T0) := by
 apply List.ext_getElem?
 intro k
 have hl : (Lane.tlC (List.replicate n Lane.T0)).length = n * 4 := by rw [Lane.tlC_len, List.length_replicate]
 by_cases h : k < n * 4
 ·have hi : k / 4 < n := by omega
  obtain ⟨t0, t1, t2, t3⟩ := Lane.tlC_at (List.replicate n Lane.T0) (k / 4) (by rw [List.length_replicate]; exact hi)
  rw [tAt_rep] at t0 t1 t2 t3
  have hj : k % 4 = 0 ∨ k % 4 = 1 ∨ k % 4 = 2 ∨ k % 4 = 3 := by omega
  have hk : k = k / 4 * 4 + k % 4 := by omega
  rcases hj with e | e | e | e
  ·rw [e, Nat.add_zero] at hk
   have z := zl_at n (k / 4) 0 hi (by omega)
   rw [Nat.add_zero] at z
   rw [hk, t0, z]
   rfl
  ·rw [e] at hk
   rw [hk, t1, zl_at n (k / 4) 1 hi (by omega)]
   rfl
  ·rw [e] at hk
   rw [hk, t2, zl_at n (k / 4) 2 hi (by omega)]
   rfl
  ·rw [e] at hk
   rw [hk, t3, zl_at n (k / 4) 3 hi (by omega)]
   rfl
 ·rw [List.getElem?_eq_none (by have := zl_size n; simp; omega), List.getElem?_eq_none (by rw [hl]; omega)]
def ptT0 (k : Nat) (oa : Option Addr) (oc : Nat) (qa : Option Addr) (qc : Nat) : PtT := ⟨pt0 k, none, 0, oa, oc, qa, qc, List.replicate k (none, 0, [])⟩
def prT0 (n room : Nat) (la : Option Addr) (lc : Nat) : PrT := ⟨pr0 n room, la, lc, List.replicate (n + 1) Lane.T0⟩
theorem eAt_rep (k i : Nat) : Locks.eAt (List.replicate k (none, 0, [])) i = (none, 0, []) := by
 unfold Locks.eAt
 rw [List.getD_eq_getElem?_getD, List.getElem?_replicate]
 split <;> rfl
theorem ptT0_at {B : Nat} {w : World} {k : Nat} {oa : Option Addr} {oc : Nat} {qa : Option Addr} {qc : Nat} (h1 : Row w 3 1 oa k oc (Locks.iC (List.replicate k (-1)))) (h2 : Row w 24 1 qa k qc (Locks.sC (List.replicate k (none, 0, [])))) (n1 : ∀ j, blk oa = some j → B ≤ j) (n2 : ∀ j, blk qa = some j → B ≤ j) (ne : ∀ j, blk oa = some j → blk qa ≠ some j) :
  PtTAt B w (ptT0 k oa oc qa qc) (fun j => blk oa = some j ∨ blk qa = some j) where
 log := Row.nil
 own := by
  show Row w 3 1 oa (List.replicate k (-1 : Int)).length oc (Locks.iC (List.replicate k (-1)))
  rw [List.length_replicate]
  exact h1
 ql := by
  have e : ∀ i, Locks.eAt (ptT0 k oa oc qa qc).es i = (none, 0, []) := eAt_rep k
  refine ⟨?_, fun i _ _ => ?_, n2, fun i _ _ j hj => ?_, fun i _ _ _ _ _ _ j hj => ?_⟩
  ·show Row w 24 1 qa (List.replicate k _).length qc (Locks.sC (List.replicate k (none, 0, [])))
   rw [List.length_replicate]
   exact h2
  ·rw [e]
   exact Locks.Qw.none' w
  ·rw [e] at hj
   cases hj
  ·rw [e] at hj
   cases hj
 qs := by
  show Locks.qsOf (List.replicate k (none, 0, [])) = List.replicate k []
  unfold Locks.qsOf
  rw [List.map_replicate]
 ge := fun j hj => hj.elim (n1 j) (n2 j)
 lt := fun j hj => hj.elim (h1.lt j) (h2.lt j)
 fl := fun j hj => by cases hj
 fo := fun j hj => .inl hj
 fq := fun j hj => by
  rcases hj with hj | ⟨i, _, _, hj⟩
  ·exact .inr hj
  ·have hj' : blk (Locks.eAt (List.replicate k (none, 0, [])) i).1 = some j := hj
   rw [eAt_rep] at hj'
   cases hj'
 ap1 := fun j hj => by cases hj
 ap2 := fun j hj hq => by
  rcases hq with hq | ⟨i, _, _, hq⟩
  ·exact ne j hj hq
  ·have hj' : blk (Locks.eAt (List.replicate k (none, 0, [])) i).1 = some j := hq
   rw [eAt_rep] at hj'
   cases hj'
theorem prT0_at {B : Nat} {w : World} {n room : Nat} {la : Option Addr} {lc : Nat} (h1 : Row w 219 4 la (n + 1) lc (Lane.tlC (List.replicate (n + 1) Lane.T0))) (n1 : ∀ j, blk la = some j → B ≤ j) : PrTAt B w (prT0 n room la lc) (fun j => blk la = some j) where
 row := by
  show Row w 219 4 la (List.replicate (n + 1) Lane.T0).length lc (Lane.tlC (List.replicate (n + 1) Lane.T0))
  rw [List.length_replicate]
  exact h1
 at' := by
  have e : ∀ i, Lane.tAt (prT0 n room la lc).ls i = Lane.T0 := tAt_rep (n + 1)
  refine ⟨fun i _ => ?_, fun i _ => ?_, fun i _ k hk => ?_, fun i _ k hk => ?_, fun i j _ _ _ k hk => ?_⟩
  ·rw [e]; exact Row.nil
  ·rw [e]; exact Row.nil
  ·rw [e] at hk; cases hk
  ·rw [e] at hk; rcases hk with hk | hk <;> cases hk
  ·rw [e] at hk; rcases hk with hk | hk <;> cases hk
 tells := by
  refine ⟨by show (List.replicate (n + 1) Lane.T0).length = (List.replicate (n + 1) _).length; rw [List.length_replicate, List.length_replicate], fun i hi => ?_⟩
  have e : Lane.tAt (prT0 n room la lc).ls i = Lane.T0 := tAt_rep (n + 1) i
  have e2 : Lane.lnOf (prT0 n room la lc).x.ss i = ⟨room, [], [], 0, 0⟩ := by
   have hm := Lane.lnOf_mem hi
   exact List.eq_of_mem_replicate hm
  rw [e, e2]
  exact ⟨rfl, rfl, rfl, rfl⟩
 ge := n1
 lt := h1.lt
 fa := fun _ h => h
 ft := fun i _ k hk => by
  rw [show Lane.tAt (prT0 n room la lc).ls i = Lane.T0 from tAt_rep (n + 1) i] at hk
  rcases hk with hk | hk <;> cases hk
 ap := fun k _ i _ hk => by
  rw [show Lane.tAt (prT0 n room la lc).ls i = Lane.T0 from tAt_rep (n + 1) i] at hk
  rcases hk with hk | hk <;> cases hk
structure StR (w : World) (room : Nat) (m : MS) (ps : List PtT) (a : Option Addr) (qs : List PrT) (b : Option Addr) : Prop where
 np : ps.map (·.x) = m.pt
 nq : qs.map (·.x) = m.pr
 rp : Rd w a (ptsC ps)
 rq : Rd w b (prsC qs)
 pp : ∀ i, i < ps.length → PtR w (ps.getD i default)
 qq : ∀ i, i < qs.length → PrR w room (qs.getD i default)
theorem ptx_at {ps : List PtT} {m : MS} (h : ps.map (·.x) = m.pt) {i : Nat} (hi : i < ps.length) : (ps.getD i default).x = ptOf m i := by
 unfold ptOf
 rw [← h, List.getD_eq_getElem?_getD, List.getD_eq_getElem?_getD, List.getElem?_map, List.getElem?_eq_getElem hi]
 rfl
theorem prx_at {qs : List PrT} {m : MS} (h : qs.map (·.x) = m.pr) {i : Nat} (hi : i < qs.length) : (qs.getD i default).x = prOf m i := by
 unfold prOf
 rw [← h, List.getD_eq_getElem?_getD, List.getD_eq_getElem?_getD, List.getElem?_map, List.getElem?_eq_getElem hi]
 rfl
theorem ptR_of {B : Nat} {w : World} {t : PtT} {F : Nat → Prop} (h : PtTAt B w t F) (hn : t.x.qs.length = t.x.os.length) : PtR w t :=
 ⟨h.log.rd, h.own.rd, ⟨h.ql.row.rd, fun i hi => (h.ql.qs i (Nat.zero_le _) hi).rd⟩, h.qs, by
  rw [← hn, ← h.qs]
  simp [Locks.qsOf]⟩
theorem prR_of {B : Nat} {w : World} {t : PrT} {F : Nat → Prop} {room : Nat} (h : PrTAt B w t F) (hr : ∀ s ∈ t.x.ss, s.room = room) : PrR w room t := by
 refine ⟨⟨h.row.rd, fun u hu => ?_⟩, ?_⟩
 ·obtain ⟨i, hi, rfl⟩ := Lane.tAt_of_mem hu
  exact ⟨(h.at'.r1 i hi).rd, (h.at'.r2 i hi).rd⟩
 ·obtain ⟨e1, e2⟩ := h.tells
  apply List.ext_getElem?
  intro i
  by_cases hi : i < t.x.ss.length
  ·obtain ⟨k1, k2, k3, k4⟩ := e2 i hi
   have hi2 : i < t.ls.length := by omega
   have hr' := hr _ (Lane.lnOf_mem hi)
   have e3 : Lane.tAt t.ls i = t.ls[i] := by unfold Lane.tAt; rw [List.getD_eq_getElem?_getD, List.getElem?_eq_getElem hi2]; rfl
   have e4 : Lane.lnOf t.x.ss i = t.x.ss[i] := by
    have hm := List.getElem?_eq_getElem hi
    unfold Lane.lnOf
    rw [List.getD_eq_getElem?_getD, hm]
    rfl
   rw [List.getElem?_map, List.getElem?_eq_getElem hi2, List.getElem?_eq_getElem hi, ← e3, ← e4]
   show some (Lane.TLn.ls (Lane.tAt t.ls i) room) = _
   unfold Lane.TLn.ls
   rw [k1, k2, k3, k4, ← hr']
  ·rw [List.getElem?_eq_none (by simp; omega), List.getElem?_eq_none (by omega)]
theorem ST.rd {B : Nat} {w : World} {m : MS} {ps : List PtT} {a : Option Addr} {c : Nat} {qs : List PrT} {b : Option Addr} {d : Nat} {Fs : Nat → Nat → Prop} (h : ST B w m ps a c qs b d Fs) {cf : Cfg} (hs : Shp cf m) : StR w cf.lane.toNat m ps a qs b := by
 have hl := things_len ps qs
 have hpl : ps.length = cf.labels.length := by rw [← hs.np, ← h.np]; simp
 have hql : qs.length = cf.procs.length := by rw [← hs.nq, ← h.nq]; simp
 refine ⟨h.np, h.nq, h.rp.rd, h.rq.rd, fun i hi => ?_, fun i hi => ?_⟩
 ·have ht := h.bag.at' i (by rw [hl]; omega)
  have e : (ps.map Thg.pt ++ qs.map Thg.pr).getD i default = .pt (ps.getD i default) := by
   rw [List.getD_eq_getElem?_getD, List.getElem?_append_left (by simpa using hi), List.getElem?_map, List.getD_eq_getElem?_getD, List.getElem?_eq_getElem hi]
   rfl
  rw [e] at ht
  refine ptR_of ht ?_
  rw [ptx_at h.np hi]
  exact (hs.lk i (by omega)).1.n
 ·have ht := h.bag.at' (ps.length + i) (by rw [hl]; omega)
  have e : (ps.map Thg.pt ++ qs.map Thg.pr).getD (ps.length + i) default = .pr (qs.getD i default) := by
   rw [List.getD_eq_getElem?_getD, List.getElem?_append_right (by simp), List.getElem?_map, List.getD_eq_getElem?_getD]
   simp only [List.length_map, Nat.add_sub_cancel_left]
   rw [List.getElem?_eq_getElem hi]
   rfl
  rw [e] at ht
  refine prR_of ht (fun s hs' => ?_)
  rw [prx_at h.nq hi] at hs'
  have := hs.room i (by omega) s hs'
  omega
end Go.Proofs.YthhcecllejddeaaGreatDoor

namespace Go.Proofs.YthhcecllejddeaaGreatDoor
open Go.RowKit
theorem rng_le {lo hi v : Int} (h : rngE lo hi v = 0) : lo ≤ v ∧ v ≤ hi := by
 unfold rngE at h
 split at h
 ·assumption
 ·cases h
theorem tab_ok {l : List Int} {P : Int} (h : tabE l P = 0) : 1 ≤ l.length ∧ l.length ≤ 64 ∧ ∀ i, i < l.length → 0 ≤ l.getD i 0 ∧ l.getD i 0 < P := by
 unfold tabE at h
 split at h
 ·cases h
 ·split at h
  ·cases h
  ·split at h
   ·next h1 h2 h3 =>
    refine ⟨by omega, by omega, fun i hi => ?_⟩
    have h4 := List.all_eq_true.1 h3 _ (List.getElem_mem hi)
    rw [List.getD_eq_getElem?_getD, List.getElem?_eq_getElem hi]
    simpa [isPt] using h4
   ·cases h
theorem pr_ok {P K : Int} {p : Pr} (h : prE P K p = 0) : (0 ≤ p.part ∧ p.part < P) ∧ (mayL p.code K).1 = 0 := by
 unfold prE at h
 split at h
 ·cases h
 ·next h1 =>
  have h2 : rngE 0 (P - 1) p.part = 0 := by
   rcases Decidable.em (rngE 0 (P - 1) p.part = 0) with e | e
   ·exact e
   ·exact absurd e h1
  have h3 := rng_le h2
  exact ⟨⟨h3.1, by omega⟩, h⟩
theorem cfgOk_of {c : Cfg} (h : (mayC c).1 = 0) (hl : ∀ x ∈ c.labels, x < 18446744073709551616) (hj : ∀ p, p < c.procs.length → Cpu.Jmp (cd c p)) : CfgOk c := by
 obtain ⟨h0, h1, h2, h3, h4, h5, h6, h7⟩ := (mayC_iff c).1 h
 obtain ⟨l1, l2⟩ := lab_len h0
 obtain ⟨t1, t2, t3⟩ := tab_ok h1
 obtain ⟨f1, f2⟩ := rng_le h2
 obtain ⟨a1, a2⟩ := rng_le h3
 obtain ⟨k1, k2⟩ := rng_le h4
 obtain ⟨g1, g2⟩ := rng_le h5
 obtain ⟨c1, c2⟩ := cnt_len h6
 have hp : ∀ p, p < c.procs.length → prE c.labels.length c.locks (c.procs.getD p default) = 0 := fun p hp => h7 _ (by
  rw [List.getD_eq_getElem?_getD, List.getElem?_eq_getElem hp]
  exact List.getElem_mem hp)
 exact ⟨hl, l1, l2, t1, t2, t3, f1, f2, a1, a2, k1, k2, g1, g2, by omega, by omega, fun p h => (pr_ok (hp p h)).1, fun p h => (pr_ok (hp p h)).2, hj⟩
structure LayOk (c : Cfg) (m : MS) : Prop where
 cfg : CfgOk c
 lab0 : (lbL c.labels).1 = 0
 shp : Shp c m
 tick : m.tick ≤ 6917529027641081856
 lay : ∀ i, i < c.labels.length → Locks.layF [] (ptOf m i).os (ptOf m i).qs = true
theorem layF_nil (n : Nat) (pre : Locks.Qs) : Locks.layF pre (List.replicate n (-1)) (List.replicate n []) = true := by
 induction n generalizing pre with
 | zero => rfl
 | succ n ih =>
  rw [List.replicate_succ, List.replicate_succ, Locks.layF]
  have : Locks.addOk pre (-1) [] = true := by simp [Locks.addOk, Locks.addQ]
  rw [if_pos this]
  exact ih _
theorem ptOf_first {c : Cfg} {i : Nat} (h : i < c.labels.length) : ptOf (firstM c) i = pt0 c.locks.toNat := by
 rw [firstM_eq]
 unfold ptOf
 simp only
 rw [List.getD_eq_getElem?_getD, List.getElem?_replicate, if_pos h]
 rfl
theorem prOf_first {c : Cfg} {p : Nat} (h : p < c.procs.length) : prOf (firstM c) p = pr0 c.labels.length c.lane.toNat := by
 rw [firstM_eq]
 unfold prOf
 simp only
 rw [List.getD_eq_getElem?_getD, List.getElem?_replicate, if_pos h]
 rfl
theorem qAt_nil (n i : Nat) : Locks.qAt (List.replicate n []) i = [] := by
 unfold Locks.qAt
 rw [List.getD_eq_getElem?_getD, List.getElem?_replicate]
 split <;> rfl
theorem shp_first {c : Cfg} (h : CfgOk c) : Shp c (firstM c) := by
 have hk0 := h.k0
 have hk8 := h.k8
 have hl1 := h.l1
 have hl64 := h.l64
 have hn8 := h.n8
 refine ⟨by simp [firstM], by simp [firstM], Int.le_refl _, fun i hi => ?_, fun i hi o ho => ?_, fun i hi k x hx => ?_, fun i hi => ?_, fun i hi => ?_, fun i hi => ?_, fun p hp => ?_, fun p hp s hs => ?_, fun p hp s hs x hx => ?_, fun p hp => ?_⟩
 ·rw [ptOf_first hi]
  refine ⟨⟨by simp [pt0], by simp [pt0]; omega, fun o ho => ?_, fun j p hp => ?_, fun j => ?_, fun j k p hp => ?_⟩, by simp [pt0]; omega⟩
  ·have := List.eq_of_mem_replicate ho
   omega
  ·simp only [pt0, qAt_nil] at hp
   exact absurd hp List.not_mem_nil
  ·simp only [pt0, qAt_nil]
   exact List.nodup_nil
  ·simp only [pt0, qAt_nil] at hp
   exact absurd hp List.not_mem_nil
 ·rw [ptOf_first hi] at ho
  exact .inl (List.eq_of_mem_replicate ho)
 ·rw [ptOf_first hi] at hx
  simp only [pt0, qAt_nil] at hx
  exact absurd hx List.not_mem_nil
 ·rw [ptOf_first hi]
  exact .inl rfl
 ·rw [ptOf_first hi]
  show ((0 : Nat) : Int) ≤ c.log
  have := h.g0
  omega
 ·rw [ptOf_first hi]
  exact ⟨⟨Int.le_refl _, by show (0 : Int) ≤ 65535; decide⟩, Int.le_refl _, by show (0 : Int) ≤ 65535; decide⟩
 ·rw [prOf_first hp]
  refine ⟨⟨by simp [pr0], by simp [pr0]; omega, by simp [pr0], fun s hs => ?_⟩, by simp [pr0]⟩
  rw [List.eq_of_mem_replicate hs]
  exact ⟨by simp only; omega, by simp only; omega, ⟨by simp only [List.length_nil]; omega, .inl rfl, List.nodup_nil, ⟨Int.le_refl _, by show (0 : Int) ≤ 65535; decide⟩, Int.le_refl _, by show (0 : Int) ≤ 65535; decide⟩, fun w hw => absurd hw List.not_mem_nil⟩
 ·rw [prOf_first hp] at hs
  rw [List.eq_of_mem_replicate hs]
  simp only
  omega
 ·rw [prOf_first hp] at hs
  rw [List.eq_of_mem_replicate hs] at hx
  exact absurd hx List.not_mem_nil
 ·rw [prOf_first hp]
  exact ⟨⟨Int.le_refl _, by show (0 : Int) ≤ 0 + 1099511627776; omega⟩, Int.le_refl _, by show (0 : Int) ≤ 0 + 1099511627776; omega⟩
theorem layOk_first {c : Cfg} (h : (mayC c).1 = 0) (hl : ∀ x ∈ c.labels, x < 18446744073709551616) (hj : ∀ p, p < c.procs.length → Cpu.Jmp (cd c p)) : LayOk c (firstM c) := by
 have hc := cfgOk_of h hl hj
 refine ⟨hc, ((mayC_iff c).1 h).1, shp_first hc, by show (0 : Int) ≤ _; decide, fun i hi => ?_⟩
 rw [ptOf_first hi]
 exact layF_nil _ _
end Go.Proofs.YthhcecllejddeaaGreatDoor
