/- Numbers and things as cells; rows; append. -/
import Derived.Test.YtdpbkoohhnpjmaaProg
import Derived.Test.YtdpbkoohhnpjmaaWM1
import Derived.Test.YtdpbkoohhnpjmaaLW1
import Derived.Deep.LoopGhost
import Derived.Deep.CutRange
import Derived.Deep.QuietTactic
import Derived.Deep.RegionHeld3
import Derived.Deep.DeepCutAuto
import Derived.BigQuiet
import Derived.Laws.MakeOwn
namespace Go.Proofs.Ytdpbkoohhnpjmaa
open Go.RowKit

/-- Whole numbers, and pairs of them, as cells. -/
def iC (l : List Int) : List Value := l.map (.int .i64 ·)
def wP (x : Int × Int) : List Value := [.int .i64 x.1, .int .i64 x.2]
def wC (l : List (Int × Int)) : List Value := l.flatMap wP
theorem iC_len (l : List Int) : (iC l).length = l.length * 1 := by simp [iC]
theorem wC_len (l : List (Int × Int)) : (wC l).length = l.length * 2 := by
  induction l with
  | nil => rfl
  | cons x r ih => simp only [wC, List.flatMap_cons, List.length_append, List.length_cons] at *; rw [ih, show (wP x).length = 2 from rfl]; omega
theorem iC_app (l m : List Int) : iC (l ++ m) = iC l ++ iC m := by simp [iC]
theorem wC_app (l m : List (Int × Int)) : wC (l ++ m) = wC l ++ wC m := by simp [wC]
theorem iC_at (l : List Int) (i : Nat) (h : i < l.length) : (iC l)[i]? = some (.int .i64 (l.getD i 0)) := by
  simp [iC, List.getD_eq_getElem?_getD, List.getElem?_eq_getElem h]
theorem wC_at : ∀ (l : List (Int × Int)) (i : Nat), i < l.length → (wC l)[i * 2]? = some (.int .i64 (l.getD i (0, 0)).1) ∧ (wC l)[i * 2 + 1]? = some (.int .i64 (l.getD i (0, 0)).2)
  | [], i, h => absurd h (Nat.not_lt_zero i)
  | t :: ts, 0, _ => ⟨rfl, rfl⟩
  | t :: ts, i + 1, h => by
    have ih := wC_at ts i (by simpa using h)
    simp only [wC, List.flatMap_cons, List.getD_cons_succ] at *
    rw [List.getElem?_append_right (by rw [show (wP t).length = 2 from rfl]; omega), List.getElem?_append_right (by rw [show (wP t).length = 2 from rfl]; omega), show (wP t).length = 2 from rfl, show (i + 1) * 2 - 2 = i * 2 by omega, show (i + 1) * 2 + 1 - 2 = i * 2 + 1 by omega]
    exact ih
theorem iC_one (l : List Int) : ∀ u ∈ iC l, u.oneCell' = true := by
  intro u hu
  obtain ⟨x, _, rfl⟩ := List.mem_map.mp hu
  rfl
theorem wC_one (l : List (Int × Int)) : ∀ u ∈ wC l, u.oneCell' = true := by
  intro u hu
  simp only [wC, List.mem_flatMap, wP] at hu
  obtain ⟨x, _, hx⟩ := hu
  simp only [List.mem_cons, List.not_mem_nil, or_false] at hx
  rcases hx with rfl | rfl <;> rfl
theorem iC_drop (l : List Int) (k : Nat) : (iC l).drop (k * 1) = iC (l.drop k) := by simp [iC]
theorem iC_take (l : List Int) (k : Nat) : (iC l).take (k * 1) = iC (l.take k) := by simp [iC, List.map_take]
theorem wC_drop (l : List (Int × Int)) (k : Nat) : (wC l).drop (k * 2) = wC (l.drop k) := by
  induction k generalizing l with
  | zero => simp
  | succ k ih =>
    cases l with
    | nil => simp [wC]
    | cons x r =>
      rw [List.drop_succ_cons, ← ih]
      simp only [wC, List.flatMap_cons]
      rw [show (k + 1) * 2 = (wP x).length + k * 2 by rw [show (wP x).length = 2 from rfl]; omega, ← List.drop_drop, List.drop_left]
theorem wC_take (l : List (Int × Int)) (k : Nat) : (wC l).take (k * 2) = wC (l.take k) := by
  induction k generalizing l with
  | zero => simp [wC]
  | succ k ih =>
    cases l with
    | nil => simp [wC]
    | cons x r =>
      rw [List.take_succ_cons]
      simp only [wC, List.flatMap_cons] at *
      rw [← ih, show (k + 1) * 2 = (wP x).length + k * 2 by rw [show (wP x).length = 2 from rfl]; omega, List.take_length_add_append]
theorem erase_eq {α : Type} (l : List α) (i : Nat) : l.take i ++ l.drop (i + 1) = l.eraseIdx i := (List.eraseIdx_eq_take_drop_succ l i).symm

theorem heap_setCell_self {w : World} {b i : Nat} {cs : Array Value} {t : TypeId} {fr : Nat × Nat} (h : w.heap[b]? = some (.cells cs t fr)) (u : Value) : (w.setCell ⟨b, i, none⟩ u).heap[b]? = some (.cells (cs.setIfInBounds i u) t fr) := by
  simp [World.setCell, Array.getElem?_modify, h]
theorem Row.put {w : World} {e : TypeId} {size g n cap : Nat} {xs : List Value} (h : Row w e size (some ⟨g, 0, none⟩) n cap xs) (j : Nat) (u : Value) : Row (w.setCell ⟨g, j, none⟩ u) e size (some ⟨g, 0, none⟩) n cap (xs.set j u) := by
  obtain ⟨h1, h2, h3, ⟨h4, _⟩ | ⟨g', cur, h4, h5, h6, h7⟩⟩ := h
  · cases h4
  · cases h4
    refine ⟨by simpa using h1, h2, h3, .inr ⟨g, _, rfl, heap_setCell_self h5 u, by simpa using h6, ?_⟩⟩
    rw [Array.toList_setIfInBounds, List.take_set, h7]

theorem info_parts {P : Program} {e : TypeId} {z : Value} {size bytes : Nat} (h : (P.info? e).map (fun i => (i.zero, i.size, i.bytes)) = some (some z, size, bytes)) : ∃ i, P.info? e = some i ∧ i.zero = some z ∧ i.size = size ∧ i.bytes = bytes := by
  cases hi : P.info? e with
  | none => rw [hi] at h; cases h
  | some i =>
    rw [hi] at h
    simp only [Option.map_some, Option.some.injEq, Prod.mk.injEq] at h
    exact ⟨i, rfl, h.1, h.2.1, h.2.2⟩
theorem below_drewN {B : Nat} {a w : World} (h : Below B a w) (n : Nat) : Below B a (w.drewN n) := ⟨h.os, h.tape, h.output, h.size, h.block⟩

/-- 'make' of so many, as an equation. -/
theorem make_eq (t e : TypeId) (z : Value) (size bytes : Nat) (ht : Try.prog.underlying t = some (.slice e)) (hi : (Try.prog.info? e).map (fun i => (i.zero, i.size, i.bytes)) = some (some z, size, bytes)) (n : Nat) (hb : bytes * n ≤ 281474976710656) (h63 : n ≤ maxLen) (W : World) :
    (Instr.makeSlice t (.int .i64 (n : Int)) (.int .i64 (n : Int))).run Try.prog W = .ok (.slice (some ⟨W.heap.size, 0, none⟩) n n) (W.alloc (.cells (madeCells z.cells (n * size)) e)) := by
  obtain ⟨i, h1, h2, h3, h4⟩ := info_parts hi
  subst h3 h4
  have h63' : (n : Int) ≤ 9223372036854775807 := by
    have h := h63
    simp [maxLen] at h
    omega
  have hb' : (i.bytes : Int) * (n : Int) ≤ 281474976710656 := by
    have h : ((i.bytes * n : Nat) : Int) ≤ 281474976710656 := by omega
    rwa [Int.natCast_mul] at h
  have hr := run_make (P := Try.prog) W t e i z ht h1 h2 .i64 .i64 n n (by omega) (Int.le_refl _) hb' h63'
  simp only [Int.toNat_natCast] at hr
  exact hr

/-- One more of a row of whatever, as append leaves it. -/
theorem push_any {T e : TypeId} {z : Value} {size bytes : Nat} (hu : Try.prog.underlying T = some (.slice e)) (hinfo : (Try.prog.info? e).map (fun i => (i.zero, i.size, i.bytes)) = some (some z, size, bytes)) (hzs : z.cells.size = size) 
    {w : World} {a : Option Addr} {n c : Nat} {xs : List Value} (hR : Row w e size a n c xs) (hn : n < maxLen) (hby : (n + 1) * bytes ≤ 140737488355328) (us : List Value) (hus : us.length = size) (h1 : ∀ u ∈ us, u.oneCell' = true) :
    ∃ a' c' w', (∀ ty, (Builtin.append_ #[T, T] ty #[.slice a n c, .slice (some ⟨w.heap.size, 0, none⟩) 1 1]).run Try.prog (w.alloc (.cells us.toArray e)) = .ok (.slice a' (n + 1) c') w') ∧
      Row w' e size a' (n + 1) c' (xs ++ us) ∧ Mod (fun k => blk a = some k) w w' ∧ (∀ k, blk a' = some k → blk a = some k ∨ w.heap.size ≤ k) := by
  obtain ⟨i, k1, k2, k3, k4⟩ := info_parts hinfo
  have hb := below_al w (.cells us.toArray e)
  have hh := heap_alloc_new w (.cells us.toArray e)
  have hs : Src Try.prog size T (.slice (some ⟨w.heap.size, 0, none⟩) 1 1) 1 us (w.alloc (.cells us.toArray e)) := by
    refine Src.ofSlice _ hu _ _ _ _ (by omega) (fun j u hj => ?_) h1
    rw [addr_add, cell_of_row _ _ _ _ _ _ hh, Nat.zero_add]
    simpa using hj
  obtain ⟨a', c', w', m1, m2, m3, m4, _⟩ := run_append_row (P := Try.prog) _ T e i _ size bytes hu k1 k2 k3 k4 hzs (hR.below hb) _ 1 _ hs (by omega) hby
  refine ⟨a', c', w', m1, m2, (Mod.of_below _ hb).trans m3 (fun _ h => .inl h), fun k hk => ?_⟩
  rcases m4 k hk with h | h
  · exact .inl h
  · exact .inr (by have := hb.size; omega)

/-- At an append whose run is known. -/
theorem wpList_append_run {P : Program} {w : World} {ops : Array Oper} {rest : List Oper} {o : Oper} {a : Act} {Q : Exit → Act → World → Prop} (hgd : o.guard = none) (s x : Operand) (t : TypeId)
    (ho : o.op = .call { callee := .builtin .append, args := #[s, x], argTypes := #[t, t] }) (v vx v' : Value) (w' : World) (hs : a.eval s = v) (hx : a.eval x = vx)
    (hrun : ∀ ty, (Builtin.append_ #[t, t] ty #[v, vx]).run P w = .ok v' w') (h : wpList P ops Q rest (a.put o.dst v') w') : wpList P ops Q (o :: rest) a w :=
  wpList_plain hgd fun K hK => by
    unfold Oper.wp execOp
    simp only [ho, resolve, invoke, builtin, Sem.run_bind, Sem.run_pure, Result.andThen_ok, List.map_toArray, List.map_cons, List.map_nil, hs, hx, hrun]
    exact hK _ _ h
theorem step_append_run {P : Program} {w : World} {ops : Array Oper} {o : Oper} {a : Act} {K : Act → World → Prop} {Q : Exit → Act → World → Prop} {E : Prop} (hgd : o.guard = none) (s x : Operand) (t : TypeId)
    (ho : o.op = .call { callee := .builtin .append, args := #[s, x], argTypes := #[t, t] }) (v vx v' : Value) (w' : World) (hs : a.eval s = v) (hx : a.eval x = vx)
    (hrun : ∀ ty, (Builtin.append_ #[t, t] ty #[v, vx]).run P w = .ok v' w') (h : K (a.put o.dst v') w') : if Region.wanted o (yielded ops a.tmps) = true then Oper.wp P o a w K Q else E := by
  have hw : Region.wanted o (yielded ops a.tmps) = true := by simp [Region.wanted, hgd]
  rw [if_pos hw]
  unfold Oper.wp execOp
  simp only [ho, resolve, invoke, builtin, Sem.run_bind, Sem.run_pure, Result.andThen_ok, List.map_toArray, List.map_cons, List.map_nil, hs, hx, hrun]
  exact h

theorem infoT : (Try.prog.info? 60).map (fun i => (i.zero, i.size, i.bytes)) = some (some (.agg #[.int .i64 0, .int .i64 0]), 2, 16) := by kernel_rfl
theorem infoN : (Try.prog.info? 3).map (fun i => (i.zero, i.size, i.bytes)) = some (some (.int .i64 0), 1, 8) := by kernel_rfl
theorem infoO : (Try.prog.info? 61).map (fun i => (i.zero, i.size, i.bytes)) = some (some (.agg #[.int .i64 0, .int .i64 0]), 2, 16) := by kernel_rfl
theorem infoPW : (Try.prog.info? 24).map (fun i => (i.zero, i.size, i.bytes)) = some (some (.pointer none), 1, 8) := by kernel_rfl
theorem infoPR : (Try.prog.info? 27).map (fun i => (i.zero, i.size, i.bytes)) = some (some (.pointer none), 1, 8) := by kernel_rfl

/-- One of a row of things, by its cells. -/
theorem row_t {w : World} {a : Option Addr} {n c : Nat} {O : List Th} {e : TypeId} (h : Row w e 2 a n c (wC O)) (i : Nat) (hi : i < O.length) : ∃ g, a = some ⟨g, 0, none⟩ ∧ w.cell? ⟨g, i * 2, none⟩ = some (.int .i64 (tAt O i).1) ∧ w.cell? ⟨g, i * 2 + 1, none⟩ = some (.int .i64 (tAt O i).2) := by
  have hl := h.len
  rw [wC_len] at hl
  obtain ⟨g, rfl, h0⟩ := h.cell (i * 2) (by omega)
  obtain ⟨g', e, h1⟩ := h.cell (i * 2 + 1) (by omega)
  cases e
  exact ⟨g, rfl, by rw [h0]; exact (wC_at O i hi).1, by rw [h1]; exact (wC_at O i hi).2⟩
theorem wC_set : ∀ (O : List Th) (i : Nat) (t : Th), ((wC O).set (i * 2) (.int .i64 t.1)).set (i * 2 + 1) (.int .i64 t.2) = wC (O.set i t)
  | [], i, t => by simp [wC]
  | x :: r, 0, t => rfl
  | x :: r, i + 1, t => by
    have ih := wC_set r i t
    have e : ∀ y (l : List Th), wC (y :: l) = wP y ++ wC l := fun y l => by simp [wC]
    rw [List.set_cons_succ, e, e, ← ih, List.set_append_right _ _ (by rw [show (wP x).length = 2 from rfl]; omega), List.set_append_right _ _ (by rw [show (wP x).length = 2 from rfl]; omega), show (wP x).length = 2 from rfl, show (i + 1) * 2 - 2 = i * 2 by omega, show (i + 1) * 2 + 1 - 2 = i * 2 + 1 by omega]
/-- A thing written over. -/
theorem Row.putT {w : World} {e : TypeId} {g n cap : Nat} {O : List Th} (h : Row w e 2 (some ⟨g, 0, none⟩) n cap (wC O)) (i : Nat) (t : Th) : Row ((w.setCell ⟨g, i * 2, none⟩ (.int .i64 t.1)).setCell ⟨g, i * 2 + 1, none⟩ (.int .i64 t.2)) e 2 (some ⟨g, 0, none⟩) n cap (wC (O.set i t)) := by
  have := (h.put (i * 2) (.int .i64 t.1)).put (i * 2 + 1) (.int .i64 t.2)
  rwa [wC_set] at this
end Go.Proofs.Ytdpbkoohhnpjmaa
