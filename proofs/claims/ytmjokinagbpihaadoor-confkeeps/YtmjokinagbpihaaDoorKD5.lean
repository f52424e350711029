/- A config that the document's reader reads. -/
import Derived.Test.YtmjokinagbpihaaDoorGKd
namespace Go.Proofs.YtmjokinagbpihaaDoor.Doc
open Go.RowKit

/-- A config that is being read: its own cells at G1, the answer's at G0, the reader. -/
structure CfB (w : World) (r : Nat) (a : Option Addr) (cap : Nat) (bs : List Nat) (s : St) (W : World) (G0 G1 : Nat) (xs : Array Value) : Prop where
  out : ROut w r a cap bs s W
  b0 : W.heap[G0]? = some (.cells #[.slice none 0 0, .slice none 0 0, .int .i64 0, .int .i64 0, .int .i64 0, .int .i64 0, .slice none 0 0] 27 (0, 0))
  b1 : W.heap[G1]? = some (.cells xs 27 (0, 0))
  n0 : w.heap.size ≤ G0
  n1 : G0 < G1

section
variable {w W W' : World} {r : Nat} {a : Option Addr} {cap : Nat} {bs : List Nat} {s s' s0 : St} {G0 G1 : Nat} {xs : Array Value}
theorem CfB.step (h : CfB w r a cap bs s W G0 G1 xs) (h0 : RdAt w r a cap bs s0) (o : ROut W r a cap bs s' W') : CfB w r a cap bs s' W' G0 G1 xs := by
  have hr := h0.lt
  have := h.n0
  have := h.n1
  exact ⟨h.out.trans o, by rw [o.2.block G0 (Array.getElem?_eq_some_iff.1 h.b0).1 (by omega)]; exact h.b0, by rw [o.2.block G1 (Array.getElem?_eq_some_iff.1 h.b1).1 (by omega)]; exact h.b1, h.n0, h.n1⟩
theorem CfB.below (h : CfB w r a cap bs s W G0 G1 xs) (hb : Below W.heap.size W W') : CfB w r a cap bs s W' G0 G1 xs :=
  ⟨h.out.after hb, by rw [hb.block G0 (Array.getElem?_eq_some_iff.1 h.b0).1]; exact h.b0, by rw [hb.block G1 (Array.getElem?_eq_some_iff.1 h.b1).1]; exact h.b1, h.n0, h.n1⟩
theorem CfB.put (h : CfB w r a cap bs s W G0 G1 xs) (h0 : RdAt w r a cap bs s0) (i : Nat) (v : Value) : CfB w r a cap bs s (W.setCell ⟨G1, i, none⟩ v) G0 G1 (xs.setIfInBounds i v) := by
  have := h.n0
  have := h.n1
  exact ⟨h.out.put h0 (by omega) i v, by rw [Below.heap_setCell _ _ _ _ (by simp only; omega)]; exact h.b0, heap_setCell_same W G1 i _ _ v h.b1, h.n0, h.n1⟩
theorem CfB.cell (h : CfB w r a cap bs s W G0 G1 xs) (i : Nat) : W.cell? ⟨G1, i, none⟩ = xs[i]? := cell_of_row _ _ _ _ _ _ h.b1
theorem CfB.free (h : CfB w r a cap bs s W G0 G1 xs) (i : Nat) : W.frozen? ⟨G1, i, none⟩ = false := by simp [World.frozen?, h.b1]
theorem CfB.free0 (h : CfB w r a cap bs s W G0 G1 xs) (i : Nat) : W.frozen? ⟨G0, i, none⟩ = false := by simp [World.frozen?, h.b0]
theorem CfB.cell0 (h : CfB w r a cap bs s W G0 G1 xs) (i : Nat) : W.cell? ⟨G0, i, none⟩ = (#[.slice none 0 0, .slice none 0 0, .int .i64 0, .int .i64 0, .int .i64 0, .int .i64 0, .slice none 0 0] : Array Value)[i]? := cell_of_row _ _ _ _ _ _ h.b0
end

theorem CfB.ends {w W : World} {r : Nat} {a : Option Addr} {cap : Nat} {bs : List Nat} {s s0 : St} {G0 G1 : Nat} {xs : Array Value} (h : CfB w r a cap bs s W G0 G1 xs) (h0 : RdAt w r a cap bs s0) (v0 v1 v2 v3 v4 v5 v6 : Value) :
    ROut w r a cap bs s (put7 W G0 v0 v1 v2 v3 v4 v5 v6) ∧ (put7 W G0 v0 v1 v2 v3 v4 v5 v6).heap[G0]? = some (.cells #[v0, v1, v2, v3, v4, v5, v6] 27 (0, 0)) ∧ ∀ B ds, G0 < B → Owned B W ds → Owned B (put7 W G0 v0 v1 v2 v3 v4 v5 v6) ds :=
  ⟨((((((h.out.put h0 h.n0 _ _).put h0 h.n0 _ _).put h0 h.n0 _ _).put h0 h.n0 _ _).put h0 h.n0 _ _).put h0 h.n0 _ _).put h0 h.n0 _ _, seven_cells h.b0,
    fun _ _ hB ho => ((((((ho.put hB _ _).put hB _ _).put hB _ _).put hB _ _).put hB _ _).put hB _ _).put hB _ _⟩

theorem CfB.moved {w W W' : World} {r : Nat} {a : Option Addr} {cap : Nat} {bs : List Nat} {s s0 : St} {G0 : Nat} {xs : Array Value} {S : Nat → Prop} (hc : CfB w r a cap bs s W G0 (G0 + 1) xs) (h0 : RdAt w r a cap bs s0) (hr : r < G0) (hz : G0 + 2 ≤ W.heap.size) (hm : Mod S W W') (hpa : ∀ k, S k → G0 + 2 ≤ k) : CfB w r a cap bs s W' G0 (G0 + 1) xs := by
  have o := hc.out
  have := hc.n0
  refine ⟨⟨⟨?_, Rd.apart h0.rd o.1.rd hm (fun k hk => by have := hpa k hk; omega) rfl, o.1.ne, o.1.byte, o.1.le, o.1.room, o.1.nx, o.1.fr⟩, o.2.trans hm (fun k hk => .inr (by have := hpa k hk; omega))⟩, ?_, ?_, hc.n0, hc.n1⟩
  · rw [hm.block r o.1.lt (fun e => by have := hpa r e; omega)]
    exact o.1.obj
  · rw [hm.block G0 (by omega) (fun e => by have := hpa G0 e; omega)]
    exact hc.b0
  · rw [hm.block (G0 + 1) (by omega) (fun e => by have := hpa (G0 + 1) e; omega)]
    exact hc.b1

/-- The reader, and the config as far as it has come. -/
structure DI (w : World) (r : Nat) (a : Option Addr) (cap : Nat) (bs : List Nat) (G0 : Nat) (s : St) (W : World) (C : Cfg) (g : Loc) : Prop where
  cb : CfB w r a cap bs s W G0 (G0 + 1) (cfA C g)
  own : Owned (G0 + 2) W (cfD C g)
  ps : psOf g.ms = C.procs
  sz : G0 + 2 ≤ W.heap.size

section
variable {w W W' : World} {r : Nat} {a : Option Addr} {cap : Nat} {bs : List Nat} {G0 : Nat} {s s' s0 : St} {C : Cfg} {g : Loc}
theorem DI.step (h : DI w r a cap bs G0 s W C g) (h0 : RdAt w r a cap bs s0) (hr : r < G0) (o : ROut W r a cap bs s' W') : DI w r a cap bs G0 s' W' C g :=
  ⟨h.cb.step h0 o, own_step h.own o (by omega), h.ps, Nat.le_trans h.sz o.2.size⟩
theorem DI.below (h : DI w r a cap bs G0 s W C g) (hb : Below W.heap.size W W') : DI w r a cap bs G0 s W' C g :=
  ⟨h.cb.below hb, h.own.below hb, h.ps, Nat.le_trans h.sz hb.size⟩
theorem sz_set (W : World) (p : Addr) (v : Value) : (W.setCell p v).heap.size = W.heap.size := by simp [World.setCell]
/-- One number is set. -/
theorem DI.num (h : DI w r a cap bs G0 s W C g) (h0 : RdAt w r a cap bs s0) (i : Nat) (v : Value) (C' : Cfg) (he : (cfA C g).setIfInBounds i v = cfA C' g) (hD : cfD C' g = cfD C g) (hp : C'.procs = C.procs) : DI w r a cap bs G0 s (W.setCell ⟨G0 + 1, i, none⟩ v) C' g :=
  ⟨by have := h.cb.put h0 i v; rw [he] at this; exact this, by rw [hD]; exact h.own.put (by omega) i v, by rw [hp]; exact h.ps, by rw [sz_set]; exact h.sz⟩

theorem DI.pushL (h : DI w r a cap bs G0 s W C g) (h0 : RdAt w r a cap bs s0) (hr : r < G0) (hn : C.labels.length ≤ 100000) (v : Nat) :
    ∃ a' c' W', (∀ ty, (Builtin.append_ #[23, 23] ty #[.slice g.la C.labels.length g.lc, .slice (some ⟨W.heap.size, 0, none⟩) 1 1]).run Tryd.prog (W.alloc (.cells #[.int .u64 (v : Int)] 65)) = .ok (.slice a' (C.labels.length + 1) c') W') ∧
      (W'.cell? ⟨G0 + 1, 0, none⟩ = some (.slice g.la C.labels.length g.lc) ∧ W'.frozen? ⟨G0 + 1, 0, none⟩ = false) ∧
      DI w r a cap bs G0 s (W'.setCell ⟨G0 + 1, 0, none⟩ (.slice a' (C.labels.length + 1) c')) { C with labels := C.labels ++ [v] } { g with la := a', lc := c' } := by
  obtain ⟨a', c', W', k1, k2, k3, k4⟩ := push_any Tryd.underlying23 info_u64 rfl (by omega) h.own.head (by simp only; omega) [.int .u64 (v : Int)] rfl (labC_one [v])
  have hb : ∀ k, blk g.la = some k → G0 + 2 ≤ k := fun k hk => h.own.new _ List.mem_cons_self k hk
  have c1 := h.cb.moved h0 hr h.sz k3 hb
  have o1 : Owned (G0 + 2) W' (cfD { C with labels := C.labels ++ [v] } { g with la := a', lc := c' }) := by
    have := h.own.turn (d' := ⟨65, 1, a', C.labels.length + 1, c', labC (C.labels ++ [v])⟩) h.sz k3 (by
      have k2' := k2
      simp only at k2'
      rw [show [Value.int .u64 (v : Int)] = labC [v] from rfl, labC_app] at k2'
      exact k2') k4
    unfold cfD
    simpa using this
  refine ⟨a', c', W', k1, ⟨c1.cell 0, c1.free 0⟩, ⟨?_, o1.put (by omega) 0 _, h.ps, by rw [sz_set]; exact Nat.le_trans h.sz k3.size⟩⟩
  have := c1.put h0 0 (.slice a' (C.labels.length + 1) c')
  simpa [cfA] using this
theorem DI.pushT (h : DI w r a cap bs G0 s W C g) (h0 : RdAt w r a cap bs s0) (hr : r < G0) (hn : C.table.length ≤ 100000) (v : Int) :
    ∃ a' c' W', (∀ ty, (Builtin.append_ #[24, 24] ty #[.slice g.ta C.table.length g.tc, .slice (some ⟨W.heap.size, 0, none⟩) 1 1]).run Tryd.prog (W.alloc (.cells #[.int .i64 v] 3)) = .ok (.slice a' (C.table.length + 1) c') W') ∧
      (W'.cell? ⟨G0 + 1, 1, none⟩ = some (.slice g.ta C.table.length g.tc) ∧ W'.frozen? ⟨G0 + 1, 1, none⟩ = false) ∧
      DI w r a cap bs G0 s (W'.setCell ⟨G0 + 1, 1, none⟩ (.slice a' (C.table.length + 1) c')) { C with table := C.table ++ [v] } { g with ta := a', tc := c' } := by
  have o2 := h.own.perm (List.perm_middle (l₁ := [_]))
  obtain ⟨a', c', W', k1, k2, k3, k4⟩ := push_any Tryd.underlying24 info_int rfl (by omega) o2.head (by simp only; omega) [.int .i64 v] rfl (iC_one [v])
  have hb : ∀ k, blk g.ta = some k → G0 + 2 ≤ k := fun k hk => o2.new _ List.mem_cons_self k hk
  have c1 := h.cb.moved h0 hr h.sz k3 hb
  have o1 : Owned (G0 + 2) W' (cfD { C with table := C.table ++ [v] } { g with ta := a', tc := c' }) := by
    have := o2.turn (d' := ⟨3, 1, a', C.table.length + 1, c', iC (C.table ++ [v])⟩) h.sz k3 (by
      have k2' := k2
      simp only at k2'
      rw [show [Value.int .i64 v] = iC [v] from rfl, iC_app] at k2'
      exact k2') k4
    have := this.perm (List.perm_middle (l₁ := [_])).symm
    unfold cfD
    simpa using this
  refine ⟨a', c', W', k1, ⟨c1.cell 1, c1.free 1⟩, ⟨?_, o1.put (by omega) 1 _, h.ps, by rw [sz_set]; exact Nat.le_trans h.sz k3.size⟩⟩
  have := c1.put h0 1 (.slice a' (C.table.length + 1) c')
  simpa [cfA] using this
theorem DI.pushP (h : DI w r a cap bs G0 s W C g) (h0 : RdAt w r a cap bs s0) (hr : r < G0) (hn : C.procs.length ≤ 100000) {W1 : World} {s1 : St} (m : PrM) (hm : MkI W r a cap bs s1 W1 71 5 m.a m.p.code.length m.c (pCells m.p.code)) :
    ∃ a' c' W', (∀ ty, (Builtin.append_ #[25, 25] ty #[.slice g.pa C.procs.length g.pc, .slice (some ⟨W1.heap.size, 0, none⟩) 1 1]).run Tryd.prog (W1.alloc (.cells #[.int .i64 m.p.part, .slice m.a m.p.code.length m.c] 42)) = .ok (.slice a' (C.procs.length + 1) c') W') ∧
      (W'.cell? ⟨G0 + 1, 6, none⟩ = some (.slice g.pa C.procs.length g.pc) ∧ W'.frozen? ⟨G0 + 1, 6, none⟩ = false) ∧
      DI w r a cap bs G0 s1 (W'.setCell ⟨G0 + 1, 6, none⟩ (.slice a' (C.procs.length + 1) c')) { C with procs := C.procs ++ [m.p] } { g with pa := a', pc := c', ms := g.ms ++ [m] } := by
  have hd1 := h.step h0 hr hm.out
  have o0 : Owned (G0 + 2) W1 (prD m :: cfD C g) := own_add h.own (by omega) h.sz hm
  have ho : Owned (G0 + 2) W1 (⟨42, 2, g.pa, C.procs.length, g.pc, psC g.ms⟩ :: ⟨65, 1, g.la, C.labels.length, g.lc, labC C.labels⟩ :: ⟨3, 1, g.ta, C.table.length, g.tc, iC C.table⟩ :: (g.ms ++ [m]).map prD) := by
    have h1 := o0.perm (List.perm_append_comm (l₁ := [prD m]) (l₂ := cfD C g))
    unfold cfD at h1
    have h2 := h1.perm (List.perm_middle (l₁ := [_, _]))
    simpa using h2
  have hrow := ho.head
  obtain ⟨a', c', W', k1, k2, k3, k4⟩ := push_any Tryd.underlying25 info_proc rfl (by omega) hrow (by simp only; omega) (prC m) rfl (prC_one m)
  have hb : ∀ k, blk g.pa = some k → G0 + 2 ≤ k := fun k hk => ho.new _ List.mem_cons_self k hk
  have c1 := hd1.cb.moved h0 hr hd1.sz k3 hb
  have o1 : Owned (G0 + 2) W' (cfD { C with procs := C.procs ++ [m.p] } { g with pa := a', pc := c', ms := g.ms ++ [m] }) := by
    have h3 := ho.turn (d' := ⟨42, 2, a', C.procs.length + 1, c', psC g.ms ++ prC m⟩) hd1.sz k3 k2 k4
    have h4 := h3.perm (List.perm_middle (l₁ := [_, _])).symm
    unfold cfD
    simpa [psC] using h4
  refine ⟨a', c', W', k1, ⟨c1.cell 6, c1.free 6⟩, ⟨?_, o1.put (by omega) 6 _, by simp only; rw [psOf_snoc, h.ps], by rw [sz_set]; exact Nat.le_trans hd1.sz k3.size⟩⟩
  have := c1.put h0 6 (.slice a' (C.procs.length + 1) c')
  simpa [cfA] using this
theorem DI.cells (h : DI w r a cap bs G0 s W C g) : W.cell? ⟨G0 + 1, 0, none⟩ = some (.slice g.la C.labels.length g.lc) ∧ W.cell? ⟨G0 + 1, 1, none⟩ = some (.slice g.ta C.table.length g.tc) ∧ W.cell? ⟨G0 + 1, 2, none⟩ = some (.int .i64 C.fuel) ∧ W.cell? ⟨G0 + 1, 3, none⟩ = some (.int .i64 C.lane) ∧ W.cell? ⟨G0 + 1, 4, none⟩ = some (.int .i64 C.locks) ∧ W.cell? ⟨G0 + 1, 5, none⟩ = some (.int .i64 C.log) ∧ W.cell? ⟨G0 + 1, 6, none⟩ = some (.slice g.pa C.procs.length g.pc) :=
  ⟨h.cb.cell 0, h.cb.cell 1, h.cb.cell 2, h.cb.cell 3, h.cb.cell 4, h.cb.cell 5, h.cb.cell 6⟩
end
theorem int_cnt (m : Int) : intF 1 m 1 3 = fun n : Nat => cntE m n := by
  funext n
  unfold intF cntE
  by_cases h : n = 0
  · subst h
    simp
  · have h1 : ¬ (n : Int) < 1 := by omega
    have h2 : ¬ (n : Int) = 0 := by omega
    rw [if_neg h1, if_neg h2]
theorem int_rng (lo hi : Int) : intF lo hi 2 2 = fun n : Nat => rngE lo hi n := by
  funext n
  unfold intF rngE
  by_cases h1 : (n : Int) < lo
  · rw [if_pos h1, if_neg (by omega)]
  · by_cases h2 : hi < (n : Int)
    · rw [if_neg h1, if_pos h2, if_neg (by omega)]
    · rw [if_neg h1, if_neg h2, if_pos (by omega)]
theorem int_len : intF 0 256 3 3 = lenE := by
  funext n
  unfold intF lenE
  by_cases h : 256 < n
  · rw [if_neg (by omega), if_pos (by omega), if_pos h]
  · rw [if_neg (by omega), if_neg (by omega), if_neg h]
end Go.Proofs.YtmjokinagbpihaaDoor.Doc
