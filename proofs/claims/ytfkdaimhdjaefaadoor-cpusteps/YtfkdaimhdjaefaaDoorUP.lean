/- A copy of the code, with a mark behind it. -/
import Derived.Test.YtfkdaimhdjaefaaDoorGUc
import Derived.Test.YtfkdaimhdjaefaaDoorLW1
import Derived.Test.YtfkdaimhdjaefaaDoorUJ
import Derived.Test.YtfkdaimhdjaefaaDoorUK
import Derived.Test.YtfkdaimhdjaefaaDoorUL
namespace Go.Proofs.YtfkdaimhdjaefaaDoor
open Go.RowKit

theorem info_parts5 {P : Program} {e : TypeId} {z : Value} {size bytes : Nat} (h : (P.info? e).map (fun i => (i.zero, i.size, i.bytes)) = some (some z, size, bytes)) : ∃ i, P.info? e = some i ∧ i.zero = some z ∧ i.size = size ∧ i.bytes = bytes := by
  cases hi : P.info? e with
  | none => rw [hi] at h; cases h
  | some i =>
    rw [hi] at h
    simp only [Option.map_some, Option.some.injEq, Prod.mk.injEq] at h
    exact ⟨i, rfl, h.1, h.2.1, h.2.2⟩
theorem infoIns : (Tryd.prog.info? 28).map (fun i => (i.zero, i.size, i.bytes)) = some (some (.agg #[.int .i64 0, .int .i64 0, .int .i64 0, .int .i64 0, .int .i64 0]), 5, 40) := by kernel_rfl

theorem make_cap (t e : TypeId) (z : Value) (size bytes : Nat) (ht : Tryd.prog.underlying t = some (.slice e)) (hi : (Tryd.prog.info? e).map (fun i => (i.zero, i.size, i.bytes)) = some (some z, size, bytes)) (n : Nat) (hb : bytes * n ≤ 281474976710656) (h63 : n ≤ maxLen) (W : World) :
    (Instr.makeSlice t (.int .i64 0) (.int .i64 (n : Int))).run Tryd.prog W = .ok (.slice (some ⟨W.heap.size, 0, none⟩) 0 n) (W.alloc (.cells (madeCells z.cells (n * size)) e)) := by
  obtain ⟨i, h1, h2, h3, h4⟩ := info_parts5 hi
  subst h3 h4
  have h63' : (n : Int) ≤ 9223372036854775807 := by
    have h := h63
    simp [maxLen] at h
    omega
  have hb' : (i.bytes : Int) * (n : Int) ≤ 281474976710656 := by
    have h : ((i.bytes * n : Nat) : Int) ≤ 281474976710656 := by omega
    rwa [Int.natCast_mul] at h
  have hr := run_make (P := Tryd.prog) W t e i z ht h1 h2 .i64 .i64 0 n (by omega) (by omega) hb' h63'
  simp only [Int.toNat_natCast, Int.toNat_zero] at hr
  exact hr

theorem wpList_append_run {P : Program} {w : World} {ops : Array Oper} {rest : List Oper} {o : Oper} {a : Act} {Q : Exit → Act → World → Prop} (hgd : o.guard = none) (s x : Operand) (t : TypeId)
    (ho : o.op = .call { callee := .builtin .append, args := #[s, x], argTypes := #[t, t] }) (v vx v' : Value) (w' : World) (hs : a.eval s = v) (hx : a.eval x = vx)
    (hrun : ∀ ty, (Builtin.append_ #[t, t] ty #[v, vx]).run P w = .ok v' w') (h : wpList P ops Q rest (a.put o.dst v') w') : wpList P ops Q (o :: rest) a w :=
  wpList_plain hgd fun K hK => by
    unfold Oper.wp execOp
    simp only [ho, resolve, invoke, builtin, Sem.run_bind, Sem.run_pure, Result.andThen_ok, List.map_toArray, List.map_cons, List.map_nil, hs, hx, hrun]
    exact hK _ _ h

theorem pCells_one (l : List Ins) : ∀ u ∈ pCells l, u.oneCell' = true := by
  intro u hu
  unfold pCells at hu
  obtain ⟨x, _, hx⟩ := List.mem_flatMap.1 hu
  simp only [insCells, List.mem_cons, List.not_mem_nil, or_false] at hx
  rcases hx with rfl | rfl | rfl | rfl | rfl <;> rfl
theorem rd_prg {w : World} {a : Option Addr} {l : List Ins} (h : Prg w a l) : Lane.Rd w a (pCells l) := fun j u hj => by
  have hlt : j < (pCells l).length := by
    rcases Nat.lt_or_ge j (pCells l).length with h' | h'
    · exact h'
    · rw [List.getElem?_eq_none h'] at hj; cases hj
  rw [pCells_len] at hlt
  have hi : j / 5 < l.length := by omega
  obtain ⟨b, off, e, hx⟩ := h (j / 5) hi
  refine ⟨b, off, e, ?_⟩
  have ej : j = j / 5 * 5 + j % 5 := by omega
  have hm : j % 5 < 5 := by omega
  have h2 := pCells_at l (j / 5) (j % 5) hi hm
  rw [← ej, hj] at h2
  have key : ∀ r, r < 5 → w.cell? ⟨b, off + j / 5 * 5 + r, none⟩ = (insCells (l.getD (j / 5) default))[r]? := fun r hr => by
    have h3 : r = 0 ∨ r = 1 ∨ r = 2 ∨ r = 3 ∨ r = 4 := by omega
    rcases h3 with rfl | rfl | rfl | rfl | rfl
    · exact hx.c0
    · exact hx.c1
    · exact hx.c2
    · exact hx.c3
    · exact hx.c4
  have h4 := key (j % 5) hm
  rw [show off + j / 5 * 5 + j % 5 = off + j by omega, ← h2] at h4
  exact h4
theorem prg_rd {w : World} {a : Option Addr} {l m : List Ins} (h : Lane.Rd w a (pCells (l ++ m))) : Prg w a l := fun i hi => by
  have hc : ∀ r, r < 5 → ∃ b o, a = some ⟨b, o, none⟩ ∧ w.cell? ⟨b, o + (i * 5 + r), none⟩ = (insCells (l.getD i default))[r]? := fun r hr => by
    have h2 := pCells_at (l ++ m) i r (by simp; omega) hr
    have e : (l ++ m).getD i default = l.getD i default := by rw [List.getD_eq_getElem?_getD, List.getD_eq_getElem?_getD, List.getElem?_append_left hi]
    rw [e] at h2
    obtain ⟨u, hu⟩ : ∃ u, (insCells (l.getD i default))[r]? = some u := ⟨_, List.getElem?_eq_getElem (by rw [insCells_len]; exact hr)⟩
    rw [hu] at h2 ⊢
    exact h _ _ h2
  obtain ⟨b, o, rfl, k0⟩ := hc 0 (by omega)
  refine ⟨b, o, rfl, ?_⟩
  have k : ∀ r, r < 5 → w.cell? ⟨b, o + i * 5 + r, none⟩ = (insCells (l.getD i default))[r]? := fun r hr => by
    obtain ⟨b', o', e, h1⟩ := hc r hr
    cases e
    rwa [← Nat.add_assoc] at h1
  exact ⟨k 0 (by omega), k 1 (by omega), k 2 (by omega), k 3 (by omega), k 4 (by omega)⟩

def i77 : Ins := ⟨77, 0, 0, 0, 0⟩
/-- The copy: a row that nothing else has. -/
def Cop (w W : World) (a : Option Addr) (c : Nat) (l : List Ins) : Prop := Lane.Row W 28 5 a (l.length + 1) c (pCells (l ++ [i77])) ∧ ∀ k, Lane.blk a = some k → w.heap.size + 1 ≤ k
theorem Cop.bel {w W W' : World} {a : Option Addr} {c : Nat} {l : List Ins} (h : Cop w W a c l) (hb : Below W.heap.size W W') : Cop w W' a c l := ⟨h.1.below hb, h.2⟩
theorem Cop.oth {w W W' : World} {a : Option Addr} {c : Nat} {l : List Ins} (h : Cop w W a c l) (ho : Oth w.heap.size W W') : Cop w W' a c l := ⟨h.1.kept (fun k hk => ho.block k (by have := h.2 k hk; omega)), h.2⟩
theorem Cop.prg {w W : World} {a : Option Addr} {c : Nat} {l : List Ins} (h : Cop w W a c l) : Prg W a l := prg_rd h.1.rd
theorem Cop.mark {w W : World} {a : Option Addr} {c : Nat} {l : List Ins} (h : Cop w W a c l) : ∃ g, a = some ⟨g, 0, none⟩ ∧ W.cell? ⟨g, l.length * 5, none⟩ = some (.int .i64 77) := by
  obtain ⟨g, hg, hc⟩ := h.1.cell (l.length * 5) (by omega)
  refine ⟨g, hg, ?_⟩
  have h2 := pCells_at (l ++ [i77]) l.length 0 (by simp) (by omega)
  rw [Nat.add_zero] at h2
  rw [hc, h2, List.getD_eq_getElem?_getD, List.getElem?_append_right (Nat.le_refl _), Nat.sub_self]
  rfl

theorem own_runs {w : World} {a : Option Addr} {l : List Ins} (hP : Prg w a l) (cap : Nat) (hn : l.length ≤ 65536) : ∃ w1 a2 c2 w2 a3 c3 w3,
    (Instr.makeSlice 26 (.int .i64 0) (.int .i64 ((l.length : Int) + 1))).run Tryd.prog w = .ok (.slice (some ⟨w.heap.size, 0, none⟩) 0 (l.length + 1)) w1 ∧
    (∀ ty, (Builtin.append_ #[26, 26] ty #[.slice (some ⟨w.heap.size, 0, none⟩) 0 (l.length + 1), .slice a l.length cap]).run Tryd.prog w1 = .ok (.slice a2 l.length c2) w2) ∧
    (∀ ty, (Builtin.append_ #[26, 26] ty #[.slice a2 l.length c2, .slice (some ⟨w2.heap.size, 0, none⟩) 1 1]).run Tryd.prog (w2.alloc (.cells #[.int .i64 77, .int .i64 0, .int .i64 0, .int .i64 0, .int .i64 0] 28)) = .ok (.slice a3 (l.length + 1) c3) w3) ∧
    Lane.Row w3 28 5 a3 (l.length + 1) c3 (pCells (l ++ [i77])) ∧ Below w.heap.size w w3 ∧ ∀ k, Lane.blk a3 = some k → w.heap.size ≤ k := by
  obtain ⟨i, k1, k2, k3, k4⟩ := info_parts5 infoIns
  have hmk := make_cap 26 28 _ 5 40 Tryd.underlying26 infoIns (l.length + 1) (by omega) (by unfold maxLen; omega) w
  have e1 : ((l.length + 1 : Nat) : Int) = (l.length : Int) + 1 := by omega
  rw [e1] at hmk
  obtain ⟨w1, hw1⟩ : ∃ W, w.alloc (.cells (madeCells (Value.agg #[.int .i64 0, .int .i64 0, .int .i64 0, .int .i64 0, .int .i64 0]).cells ((l.length + 1) * 5)) 28) = W := ⟨_, rfl⟩
  rw [hw1] at hmk
  have hB1 : Below w.heap.size w w1 := by rw [← hw1]; exact Lane.below_al w _
  have hh := heap_alloc_new w (.cells (madeCells (Value.agg #[.int .i64 0, .int .i64 0, .int .i64 0, .int .i64 0, .int .i64 0]).cells ((l.length + 1) * 5)) 28)
  rw [hw1] at hh
  have hr := (Lane.row_new (size := 5) (n := l.length + 1) hh (by simp [madeCells]) (by unfold maxLen; omega)).cut 0 (l.length + 1) (Nat.zero_le _) (Nat.zero_le _) (Nat.le_refl _) (fun e => by cases e)
  simp only [Nat.zero_mul, List.take_zero] at hr
  obtain ⟨a2, c2, w2, m1, m2, m3, m4, _⟩ := Lane.run_append_row (P := Tryd.prog) w1 26 28 i _ 5 40 Tryd.underlying26 k1 k2 k3 k4 rfl hr (.slice a l.length cap) l.length (pCells l) (((rd_prg hP).below hB1).src Tryd.underlying26 (pCells_len l) (by omega) (pCells_one _)) (by unfold maxLen; omega) (by omega)
  simp only [Nat.zero_add, List.nil_append] at m1 m2
  have hB2 : Below w.heap.size w w2 := hB1.trans (m3.below hB1.size (fun k _ e => by cases e; exact Nat.le_refl _))
  have hN2 : ∀ k, Lane.blk a2 = some k → w.heap.size ≤ k := fun k hk => by
    rcases m4 k hk with h | h
    · cases h; exact Nat.le_refl _
    · exact Nat.le_trans hB1.size h
  have bA := Lane.below_al w2 (.cells #[.int .i64 77, .int .i64 0, .int .i64 0, .int .i64 0, .int .i64 0] 28)
  have hhA := heap_alloc_new w2 (.cells #[.int .i64 77, .int .i64 0, .int .i64 0, .int .i64 0, .int .i64 0] 28)
  have hs : Src Tryd.prog 5 26 (.slice (some ⟨w2.heap.size, 0, none⟩) 1 1) 1 (pCells [i77]) (w2.alloc (.cells #[.int .i64 77, .int .i64 0, .int .i64 0, .int .i64 0, .int .i64 0] 28)) := by
    refine Src.ofSlice _ Tryd.underlying26 _ _ _ _ (by simp [pCells_len]) (fun j u hj => ?_) (pCells_one _)
    rw [Lane.addr_add, cell_of_row _ _ _ _ _ _ hhA, Nat.zero_add]
    simpa [pCells, insCells, i77] using hj
  obtain ⟨a3, c3, w3, p1, p2, p3, p4, _⟩ := Lane.run_append_row (P := Tryd.prog) _ 26 28 i _ 5 40 Tryd.underlying26 k1 k2 k3 k4 rfl (m2.below bA) _ 1 _ hs (by unfold maxLen; omega) (by omega)
  rw [show pCells l ++ pCells [i77] = pCells (l ++ [i77]) from by simp [pCells]] at p2
  have hBA : Below w.heap.size w (w2.alloc (.cells #[.int .i64 77, .int .i64 0, .int .i64 0, .int .i64 0, .int .i64 0] 28)) := hB2.trans (bA.mono hB2.size)
  refine ⟨w1, a2, c2, w2, a3, c3, w3, hmk, m1, p1, p2, hBA.trans (p3.below hBA.size (fun k _ hk => hN2 k hk)), fun k hk => ?_⟩
  rcases p4 k hk with h | h
  · exact hN2 k h
  · exact Nat.le_trans hBA.size h
end Go.Proofs.YtfkdaimhdjaefaaDoor
