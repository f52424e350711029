/- Numbers and lists as cells; rows, also such as lie behind a block's begin; append. -/
import Derived.Test.YthhcecllejddeaaGreatDoorGJm
import Derived.Test.YthhcecllejddeaaGreatDoorGXLW1
import Derived.Test.YthhcecllejddeaaGreatDoorProg
import Derived.Deep.LoopGhost
import Derived.Deep.CutRange
import Derived.Deep.QuietTactic
import Derived.Deep.RegionHeld3
import Derived.Deep.DeepCutAuto
import Derived.BigQuiet
import Derived.Laws.MakeOwn
import Derived.Maps.OwnSet
namespace Go.Proofs.YthhcecllejddeaaGreatDoor.Locks
open Go.RowKit
def iC (l : List Int) : List Value := l.map (.int .i64 ·)
def wP (x : Int × Int) : List Value := [.int .i64 x.1, .int .i64 x.2]
def wC (l : List (Int × Int)) : List Value := l.flatMap wP
theorem iC_len (l : List Int) : (iC l).length = l.length * 1 := by simp [iC]
theorem wC_len (l : List (Int × Int)) : (wC l).length = l.length * 2 := by
 induction l with
 | nil => rfl
 | cons x r ih => simp only [wC, List.flatMap_cons, List.length_append, List.length_cons] at *; rw [ih, show (wP x).length = 2 from rfl]; omega
theorem iC_app (l m : List Int) : iC (l ++ m) = iC l ++ iC m := by simp [iC]
theorem wC_app (l m : List (Int × Int)) : wC (l ++ m) = wC l ++ wC m := by simp [wC]
theorem iC_at (l : List Int) (i : Nat) (h : i < l.length) (d : Int) : (iC l)[i]? = some (.int .i64 (l.getD i d)) := by
 simp [iC, List.getD_eq_getElem?_getD, List.getElem?_eq_getElem h]
theorem wC_at : ∀ (l : List (Int × Int)) (i : Nat), i < l.length → (wC l)[i * 2]? = some (.int .i64 (l.getD i (0, 0)).1) ∧ (wC l)[i * 2 + 1]? = some (.int .i64 (l.getD i (0, 0)).2)
 | [], i, h => absurd h (Nat.not_lt_zero i)
 | t :: ts, 0, _ => ⟨rfl, rfl⟩
 | t :: ts, i + 1, h => by
  have ih := wC_at ts i (by simpa using h)
  simp only [wC, List.flatMap_cons, List.getD_cons_succ] at *
  rw [List.getElem?_append_right (by rw [show (wP t).length = 2 from rfl]; omega), List.getElem?_append_right (by rw [show (wP t).length = 2 from rfl]; omega), show (wP t).length = 2 from rfl, show (i + 1) * 2 - 2 = i * 2 by omega, show (i + 1) * 2 + 1 - 2 = i * 2 + 1 by omega]
  exact ih
theorem iC_one (l : List Int) : ∀ u ∈ iC l, u.oneCell' = true := by
 intro u hu
 obtain ⟨x, _, rfl⟩ := List.mem_map.mp hu
 rfl
theorem iC_drop (l : List Int) (k : Nat) : (iC l).drop k = iC (l.drop k) := by simp [iC]
theorem iC_take (l : List Int) (k : Nat) : (iC l).take k = iC (l.take k) := by simp [iC, List.map_take]
theorem iC_set (l : List Int) (k : Nat) (v : Int) : (iC l).set k (.int .i64 v) = iC (l.set k v) := by simp [iC, List.map_set]
theorem heap_setCell_self {w : World} {b i : Nat} {cs : Array Value} {t : TypeId} {fr : Nat × Nat} (h : w.heap[b]? = some (.cells cs t fr)) (u : Value) : (w.setCell ⟨b, i, none⟩ u).heap[b]? = some (.cells (cs.setIfInBounds i u) t fr) := by
 simp [World.setCell, Array.getElem?_modify, h]
theorem info_parts {P : Program} {e : TypeId} {z : Value} {size bytes : Nat} (h : (P.info? e).map (fun i => (i.zero, i.size, i.bytes)) = some (some z, size, bytes)) : ∃ i, P.info? e = some i ∧ i.zero = some z ∧ i.size = size ∧ i.bytes = bytes := by
 cases hi : P.info? e with
 | none => rw [hi] at h; cases h
 | some i =>
  rw [hi] at h
  simp only [Option.map_some, Option.some.injEq, Prod.mk.injEq] at h
  exact ⟨i, rfl, h.1, h.2.1, h.2.2⟩
theorem below_drewN {B : Nat} {a w : World} (h : Below B a w) (n : Nat) : Below B a (w.drewN n) := ⟨h.os, h.tape, h.output, h.size, h.block⟩
theorem make_eq (t e : TypeId) (z : Value) (size bytes : Nat) (ht : Tryz.prog.underlying t = some (.slice e)) (hi : (Tryz.prog.info? e).map (fun i => (i.zero, i.size, i.bytes)) = some (some z, size, bytes)) (n : Nat) (hb : bytes * n ≤ 281474976710656) (h63 : n ≤ maxLen) (W : World) :
  (Instr.makeSlice t (.int .i64 (n : Int)) (.int .i64 (n : Int))).run Tryz.prog W = .ok (.slice (some ⟨W.heap.size, 0, none⟩) n n) (W.alloc (.cells (madeCells z.cells (n * size)) e)) := by
 obtain ⟨i, h1, h2, h3, h4⟩ := info_parts hi
 subst h3 h4
 have h63' : (n : Int) ≤ 9223372036854775807 := by
  have h := h63
  simp [maxLen] at h
  omega
 have hb' : (i.bytes : Int) * (n : Int) ≤ 281474976710656 := by
  have h : ((i.bytes * n : Nat) : Int) ≤ 281474976710656 := by omega
  rwa [Int.natCast_mul] at h
 have hr := run_make (P := Tryz.prog) W t e i z ht h1 h2 .i64 .i64 n n (by omega) (Int.le_refl _) hb' h63'
 simp only [Int.toNat_natCast] at hr
 exact hr
theorem push_any {T e : TypeId} {z : Value} {size bytes : Nat} (hu : Tryz.prog.underlying T = some (.slice e)) (hinfo : (Tryz.prog.info? e).map (fun i => (i.zero, i.size, i.bytes)) = some (some z, size, bytes)) (hzs : z.cells.size = size)
  {w : World} {a : Option Addr} {n c : Nat} {xs : List Value} (hR : Row w e size a n c xs) (hn : n < maxLen) (hby : (n + 1) * bytes ≤ 140737488355328) (us : List Value) (hus : us.length = size) (h1 : ∀ u ∈ us, u.oneCell' = true) :
  ∃ a' c' w', (∀ ty, (Builtin.append_ #[T, T] ty #[.slice a n c, .slice (some ⟨w.heap.size, 0, none⟩) 1 1]).run Tryz.prog (w.alloc (.cells us.toArray e)) = .ok (.slice a' (n + 1) c') w') ∧
   Row w' e size a' (n + 1) c' (xs ++ us) ∧ Mod (fun k => blk a = some k) w w' ∧ (∀ k, blk a' = some k → blk a = some k ∨ w.heap.size ≤ k) := by
 obtain ⟨i, k1, k2, k3, k4⟩ := info_parts hinfo
 have hb := below_al w (.cells us.toArray e)
 have hh := heap_alloc_new w (.cells us.toArray e)
 have hs : Src Tryz.prog size T (.slice (some ⟨w.heap.size, 0, none⟩) 1 1) 1 us (w.alloc (.cells us.toArray e)) := by
  refine Src.ofSlice _ hu _ _ _ _ (by omega) (fun j u hj => ?_) h1
  rw [addr_add, cell_of_row _ _ _ _ _ _ hh, Nat.zero_add]
  simpa using hj
 obtain ⟨a', c', w', m1, m2, m3, m4, _⟩ := run_append_row (P := Tryz.prog) _ T e i _ size bytes hu k1 k2 k3 k4 hzs (hR.below hb) _ 1 _ hs (by omega) hby
 refine ⟨a', c', w', m1, m2, (Mod.of_below _ hb).trans m3 (fun _ h => .inl h), fun k hk => ?_⟩
 rcases m4 k hk with h | h
 ·exact .inl h
 ·exact .inr (by have := hb.size; omega)
theorem wpList_append_run {P : Program} {w : World} {ops : Array Oper} {rest : List Oper} {o : Oper} {a : Act} {Q : Exit → Act → World → Prop} (hgd : o.guard = none) (s x : Operand) (t : TypeId)
  (ho : o.op = .call { callee := .builtin .append, args := #[s, x], argTypes := #[t, t] }) (v vx v' : Value) (w' : World) (hs : a.eval s = v) (hx : a.eval x = vx)
  (hrun : ∀ ty, (Builtin.append_ #[t, t] ty #[v, vx]).run P w = .ok v' w') (h : wpList P ops Q rest (a.put o.dst v') w') : wpList P ops Q (o :: rest) a w :=
 wpList_plain hgd fun K hK => by
  unfold Oper.wp execOp
  simp only [ho, resolve, invoke, builtin, Sem.run_bind, Sem.run_pure, Result.andThen_ok, List.map_toArray, List.map_cons, List.map_nil, hs, hx, hrun]
  exact hK _ _ h
theorem step_append_run {P : Program} {w : World} {ops : Array Oper} {o : Oper} {a : Act} {K : Act → World → Prop} {Q : Exit → Act → World → Prop} {E : Prop} (hgd : o.guard = none) (s x : Operand) (t : TypeId)
  (ho : o.op = .call { callee := .builtin .append, args := #[s, x], argTypes := #[t, t] }) (v vx v' : Value) (w' : World) (hs : a.eval s = v) (hx : a.eval x = vx)
  (hrun : ∀ ty, (Builtin.append_ #[t, t] ty #[v, vx]).run P w = .ok v' w') (h : K (a.put o.dst v') w') : if Region.wanted o (yielded ops a.tmps) = true then Oper.wp P o a w K Q else E := by
 have hw : Region.wanted o (yielded ops a.tmps) = true := by simp [Region.wanted, hgd]
 rw [if_pos hw]
 unfold Oper.wp execOp
 simp only [ho, resolve, invoke, builtin, Sem.run_bind, Sem.run_pure, Result.andThen_ok, List.map_toArray, List.map_cons, List.map_nil, hs, hx, hrun]
 exact h
theorem infoN : (Tryz.prog.info? 3).map (fun i => (i.zero, i.size, i.bytes)) = some (some (.int .i64 0), 1, 8) := by kernel_rfl
theorem infoL : (Tryz.prog.info? 24).map (fun i => (i.zero, i.size, i.bytes)) = some (some (.slice none 0 0), 1, 24) := by kernel_rfl
theorem infoG : (Tryz.prog.info? 256).map (fun i => (i.zero, i.size, i.bytes)) = some (some (.agg #[.int .i64 0, .int .i64 0]), 2, 16) := by kernel_rfl
def Ro (w : World) (e : TypeId) (a : Option Addr) (n cap : Nat) (xs : List Value) : Prop :=
 xs.length = n ∧ n ≤ cap ∧ cap ≤ maxLen ∧ ((a = none ∧ cap = 0) ∨ ∃ g o cur, a = some ⟨g, o, none⟩ ∧ w.heap[g]? = some (.cells cur e (0, 0)) ∧ o + cap ≤ cur.size ∧ (cur.toList.drop o).take n = xs)
section
variable {w w' : World} {e : TypeId} {a : Option Addr} {n cap : Nat} {xs : List Value}
theorem _root_.Go.Proofs.YthhcecllejddeaaGreatDoor.Row.ro (h : Row w e 1 a n cap xs) : Ro w e a n cap xs := by
 obtain ⟨h1, h2, h3, h4⟩ := h
 rw [Nat.mul_one] at h1
 refine ⟨h1, h2, h3, ?_⟩
 rcases h4 with h4 | ⟨g, cur, h5, h6, h7, h8⟩
 ·exact .inl h4
 ·rw [Nat.mul_one] at h7 h8
  exact .inr ⟨g, 0, cur, h5, h6, by omega, by simpa using h8⟩
theorem Ro.rd (h : Ro w e a n cap xs) : Rd w a xs := fun j u hj => by
 obtain ⟨h1, h2, h3, h4⟩ := h
 have hl : j < xs.length := by
  rcases Nat.lt_or_ge j xs.length with h | h
  ·exact h
  ·rw [List.getElem?_eq_none h] at hj; cases hj
 rcases h4 with ⟨rfl, hc⟩ | ⟨g, o, cur, rfl, hg, hs, ht⟩
 ·exfalso; omega
 ·refine ⟨g, o, rfl, ?_⟩
  rw [cell_of_row _ _ _ _ _ _ hg]
  rw [← ht, List.getElem?_take] at hj
  split at hj
  ·rw [List.getElem?_drop] at hj
   simpa using hj
  ·cases hj
theorem Ro.lt (h : Ro w e a n cap xs) : ∀ k, blk a = some k → k < w.heap.size := fun k hk => by
 obtain ⟨_, _, _, ⟨rfl, _⟩ | ⟨g, o, cur, rfl, hg, _⟩⟩ := h
 ·cases hk
 ·cases hk
  exact (Array.getElem?_eq_some_iff.1 hg).1
theorem Ro.kept (h : Ro w e a n cap xs) (hk : ∀ k, blk a = some k → w'.heap[k]? = w.heap[k]?) : Ro w' e a n cap xs := by
 obtain ⟨h1, h2, h3, ⟨rfl, h4⟩ | ⟨g, o, cur, rfl, hg, h5⟩⟩ := h
 ·exact ⟨h1, h2, h3, .inl ⟨rfl, h4⟩⟩
 ·exact ⟨h1, h2, h3, .inr ⟨g, o, cur, rfl, by rw [hk g rfl]; exact hg, h5⟩⟩
theorem Ro.mod {S : Nat → Prop} (h : Ro w e a n cap xs) (hm : Mod S w w') (hn : ∀ k, blk a = some k → ¬ S k) : Ro w' e a n cap xs :=
 h.kept fun k hk => hm.block k (h.lt k hk) (hn k hk)
theorem Ro.below (h : Ro w e a n cap xs) (hm : Below w.heap.size w w') : Ro w' e a n cap xs := h.kept fun k hk => hm.block k (h.lt k hk)
theorem Ro.len (h : Ro w e a n cap xs) : xs.length = n := h.1
theorem Ro.capLe (h : Ro w e a n cap xs) : n ≤ cap := h.2.1
theorem Ro.ahead (h : Ro w e a n cap xs) (k : Nat) (hk : k ≤ n) : Ro w e a k k (xs.take k) := by
 obtain ⟨h1, h2, h3, h4⟩ := h
 refine ⟨by rw [List.length_take]; omega, Nat.le_refl _, by omega, ?_⟩
 rcases h4 with ⟨rfl, hc⟩ | ⟨g, o, cur, rfl, hg, hs, ht⟩
 ·exact .inl ⟨rfl, by omega⟩
 ·exact .inr ⟨g, o, cur, rfl, hg, by omega, by rw [← ht, List.take_take, Nat.min_eq_left hk]⟩
theorem Ro.behind {g o : Nat} (h : Ro w e (some ⟨g, o, none⟩) n cap xs) (k : Nat) (hk : k ≤ n) : Ro w e (some ⟨g, o + k, none⟩) (n - k) (n - k) (xs.drop k) := by
 obtain ⟨h1, h2, h3, h4⟩ := h
 refine ⟨by rw [List.length_drop]; omega, Nat.le_refl _, by omega, ?_⟩
 rcases h4 with ⟨h5, hc⟩ | ⟨g', o', cur, h5, hg, hs, ht⟩
 ·cases h5
 ·cases h5
  refine .inr ⟨g, o + k, cur, rfl, hg, by omega, ?_⟩
  rw [← ht, List.drop_take, List.drop_drop]
theorem Ro.none' {g o : Nat} (h : Ro w e (some ⟨g, o, none⟩) n cap xs) : Ro w e (some ⟨g, o, none⟩) 0 0 [] := by
 have := h.ahead 0 (Nat.zero_le _)
 simpa using this
end
theorem run_append_ro {P : Program} (w : World) (t e : TypeId) (i : TypeInfo) (z : Value) (bytes : Nat) (ht : P.underlying t = some (.slice e)) (hi : P.info? e = some i) (hz : i.zero = some z)
  (hsize : i.size = 1) (hby : i.bytes = bytes) (hzs : z.cells.size = 1)
  {a : Option Addr} {n cap : Nat} {xs : List Value} (hR : Ro w e a n cap xs) (x : Value) (m : Nat) (news : List Value) (hs : Src P 1 t x m news w)
  (h63 : n + m ≤ maxLen) (hbytes : (n + m) * bytes ≤ 140737488355328) :
  ∃ a' cap' w', (∀ ty, (Builtin.append_ #[t, t] ty #[.slice a n cap, x]).run P w = .ok (.slice a' (n + m) cap') w') ∧ Ro w' e a' (n + m) cap' (xs ++ news) ∧ Mod (fun k => blk a = some k) w w' ∧ (∀ k, blk a' = some k → blk a = some k ∨ w.heap.size ≤ k) := by
 obtain ⟨h1, h2, h3, h4⟩ := hR
 have hnl := hs.newsLen
 rw [Nat.mul_one] at hnl
 have hsc := hs.cells
 rw [← hsize] at hs
 by_cases hroom : n + m ≤ cap
 ·rcases h4 with ⟨rfl, h5⟩ | ⟨g, o, cur, rfl, hg, hsz, htk⟩
  ·have hn0 : n = 0 := by omega
   have hm0 : m = 0 := by omega
   subst hn0 hm0 h5
   refine ⟨none, 0, w, ?_, ?_, Mod.refl _ _, fun k hk => (by cases hk)⟩
   ·intro ty
    simp [Builtin.append_, run_underlying ht, sizeOf, typeInfo, hi, hs.len, hs.cells]
   ·refine ⟨by simp [h1, hnl], Nat.le_refl _, h3, .inl ⟨rfl, rfl⟩⟩
  ·have hfit : o + n + news.length ≤ cur.size := by omega
   have hst := run_storeCells_at P g (o + n) e news 0 cur w hg (by simpa using hfit) hs.one
   simp only [Nat.add_zero] at hst
   refine ⟨some ⟨g, o, none⟩, cap, w.setRow g (cur.toList.take (o + n) ++ news ++ cur.toList.drop (o + n + news.length)).toArray, ?_, ?_, (Mod.refl (fun k => blk (some ⟨g, o, none⟩) = some k) w).setRow (.inl rfl) _, fun k hk => .inl hk⟩
   ·intro ty
    simp [Builtin.append_, run_underlying ht, sizeOf, typeInfo, hi, hs.len, hroom, hsc, addr_add, hst, hsize]
   ·refine ⟨by rw [List.length_append, h1, hnl], hroom, h3, .inr ⟨g, o, _, rfl, setRow_heap _ _ _ _ _ _ hg, ?_, ?_⟩⟩
    ·simp
     omega
    ·have ho : (cur.toList.take o).length = o := by rw [List.length_take, Array.length_toList]; omega
     show ((cur.toList.take (o + n) ++ news ++ cur.toList.drop (o + n + news.length)).drop o).take (n + m) = _
     have hta : cur.toList.take (o + n) = cur.toList.take o ++ xs := by rw [List.take_add, htk]
     rw [hta, List.append_assoc, List.append_assoc, List.drop_append_of_le_length (by omega), List.drop_of_length_le (by omega), List.nil_append, ← List.append_assoc, List.take_append_of_le_length (by rw [List.length_append]; omega), List.take_of_length_le (by rw [List.length_append]; omega)]
 ·have hold : (Builtin.firstCells i.size n (.slice a n cap)).run P w.drew = .ok xs.toArray w.drew := by
   rcases h4 with ⟨rfl, h5⟩ | ⟨g, o, cur, rfl, hg, hsz, htk⟩
   ·have hn0 : n = 0 := by omega
    subst hn0
    have : xs = [] := List.eq_nil_of_length_eq_zero (by simpa using h1)
    subst this
    exact run_firstCells_none _ _ _ _ _
   ·refine run_firstCells_some _ _ _ _ _ _ _ (by rw [hsize]; omega) (fun j v hj => ?_)
    rw [addr_add]
    have hj' := hj
    rw [← htk, List.getElem?_take] at hj'
    split at hj'
    ·have := cell_of_row w g (o + j) cur e (0, 0) hg
     rw [List.getElem?_drop] at hj'
     simpa [this] using hj'
    ·cases hj'
  have hg := fun ty => run_append_grow_src (P := P) w t t ty e i z ht hi hz a n cap xs hold x m news hs (by omega) (by unfold maxLen at h63; omega) (growslice_fits (by omega) (by rw [hby]; exact hbytes))
  refine ⟨_, _, _, hg, ?_, ?_, fun k hk => ?_⟩
  ·have hcap : n + m ≤ grownCap w (n + m) cap e ∧ grownCap w (n + m) cap e ≤ maxLen := by
    have h0 : cap < n + m := by omega
    have hf := growslice_fits (bytes := bytes) h0 (by exact hbytes)
    exact ⟨grownCap_ge w (n + m) cap e, grownCap_le_maxLen w (n + m) cap e h63⟩
   refine ⟨by rw [List.length_append, h1, hnl], hcap.1, hcap.2, .inr ⟨_, 0, _, rfl, heap_alloc_new _ _, ?_, ?_⟩⟩
   ·simp [size_zeroCells, hzs, h1, hnl]
    omega
   ·simp only [Array.toList_append, List.drop_zero]
    rw [List.take_append_of_le_length (by simp [h1, hnl]), List.take_of_length_le (by simp [h1, hnl])]
  ·exact (Mod.of_below _ ((Below.refl _ w).drew)).after (below_al w.drew _)
  ·cases hk; exact .inr (Nat.le_refl _)
end Go.Proofs.YthhcecllejddeaaGreatDoor.Locks

namespace Go.Proofs.YthhcecllejddeaaGreatDoor.Locks
open Go.RowKit Go.Maps
abbrev Qe := Option Addr × Nat × List Int
def sV (e : Qe) : Value := .slice e.1 e.2.2.length e.2.1
def sC (es : List Qe) : List Value := es.map sV
def qsOf (es : List Qe) : Qs := es.map (·.2.2)
def eAt (es : List Qe) (i : Nat) : Qe := es.getD i (none, 0, [])
theorem sC_len (es : List Qe) : (sC es).length = es.length * 1 := by simp [sC]
theorem sC_at (es : List Qe) (i : Nat) (h : i < es.length) : (sC es)[i]? = some (sV (eAt es i)) := by
 simp [sC, eAt, List.getD_eq_getElem?_getD, List.getElem?_eq_getElem h]
theorem sC_app (l m : List Qe) : sC (l ++ m) = sC l ++ sC m := by simp [sC]
theorem sC_set (l : List Qe) (i : Nat) (e : Qe) : (sC l).set i (sV e) = sC (l.set i e) := by simp [sC, List.map_set]
theorem qsOf_len (es : List Qe) : (qsOf es).length = es.length := by simp [qsOf]
theorem qsOf_set (es : List Qe) (i : Nat) (e : Qe) : qsOf (es.set i e) = (qsOf es).set i e.2.2 := by simp [qsOf, List.map_set]
theorem qsOf_app (l m : List Qe) : qsOf (l ++ m) = qsOf l ++ qsOf m := by simp [qsOf]
theorem qAt_of (es : List Qe) (i : Nat) : qAt (qsOf es) i = (eAt es i).2.2 := by
 unfold qAt eAt qsOf
 rw [List.getD_eq_getElem?_getD, List.getD_eq_getElem?_getD, List.getElem?_map]
 cases es[i]? <;> rfl
theorem eAt_set {es : List Qe} {i j : Nat} {e : Qe} (hi : i < es.length) : eAt (es.set i e) j = if i = j then e else eAt es j := by
 unfold eAt
 rw [List.getD_eq_getElem?_getD, List.getD_eq_getElem?_getD, List.getElem?_set]
 by_cases h : i = j
 ·subst h; simp [hi]
 ·simp [h]
theorem eAt_app {es : List Qe} {e : Qe} {j : Nat} (hj : j < es.length + 1) : eAt (es ++ [e]) j = if j = es.length then e else eAt es j := by
 unfold eAt
 rw [List.getD_eq_getElem?_getD, List.getD_eq_getElem?_getD]
 by_cases h : j = es.length
 ·subst h; simp
 ·rw [if_neg h, List.getElem?_append_left (by omega)]
def Qw (w : World) (e : Qe) : Prop := Ro w 3 e.1 e.2.2.length e.2.1 (iC e.2.2)
theorem Qw.below {w w' : World} {e : Qe} (h : Qw w e) (hb : Below w.heap.size w w') : Qw w' e := Ro.below h hb
theorem Qw.mod {w w' : World} {e : Qe} {S : Nat → Prop} (h : Qw w e) (hm : Mod S w w') (hn : ∀ k, blk e.1 = some k → ¬ S k) : Qw w' e := Ro.mod h hm hn
theorem Qw.lt {w : World} {e : Qe} (h : Qw w e) : ∀ k, blk e.1 = some k → k < w.heap.size := Ro.lt h
theorem Qw.none' (w : World) : Qw w (none, 0, []) := ⟨by simp [iC], Nat.le_refl _, Nat.zero_le _, .inl ⟨rfl, rfl⟩⟩
structure LB (w : World) (T : TypeId) (X : List Value) (b : Nat) (ao : Option Addr) (co : Nat) (aq : Option Addr) (cq : Nat) (os : List Int) (es : List Qe) : Prop where
 obj : w.heap[b]? = some (.cells (.slice ao os.length co :: .slice aq es.length cq :: X).toArray T (0, 0))
 ro : Row w 3 1 ao os.length co (iC os)
 rq : Row w 24 1 aq es.length cq (sC es)
 qs : ∀ i, i < es.length → Qw w (eAt es i)
 bo : blk ao ≠ some b
 bq : blk aq ≠ some b
 oq : ∀ k, blk ao = some k → blk aq ≠ some k
 qb : ∀ i, i < es.length → ∀ k, blk (eAt es i).1 = some k → k ≠ b ∧ blk ao ≠ some k ∧ blk aq ≠ some k
 qq : ∀ i j, i < es.length → j < es.length → i ≠ j → ∀ k, blk (eAt es i).1 = some k → blk (eAt es j).1 ≠ some k
def lfp (b : Nat) (ao aq : Option Addr) (es : List Qe) (k : Nat) : Prop := k = b ∨ blk ao = some k ∨ blk aq = some k ∨ ∃ i, i < es.length ∧ blk (eAt es i).1 = some k
section
variable {w w' : World} {T : TypeId} {X : List Value} {b : Nat} {ao : Option Addr} {co : Nat} {aq : Option Addr} {cq : Nat} {os : List Int} {es : List Qe}
theorem LB.blt (h : LB w T X b ao co aq cq os es) : b < w.heap.size := (Array.getElem?_eq_some_iff.1 h.obj).1
theorem LB.lt (h : LB w T X b ao co aq cq os es) : ∀ k, lfp b ao aq es k → k < w.heap.size := fun k hk => by
 rcases hk with rfl | hk | hk | ⟨i, hi, hk⟩
 ·exact h.blt
 ·exact h.ro.lt k hk
 ·exact h.rq.lt k hk
 ·exact (h.qs i hi).lt k hk
theorem LB.mod {S : Nat → Prop} (h : LB w T X b ao co aq cq os es) (hm : Mod S w w') (hn : ∀ k, lfp b ao aq es k → ¬ S k) : LB w' T X b ao co aq cq os es :=
 ⟨by rw [hm.block b h.blt (hn b (.inl rfl))]; exact h.obj, h.ro.mod hm (fun k hk => hn k (.inr (.inl hk))), h.rq.mod hm (fun k hk => hn k (.inr (.inr (.inl hk)))), fun i hi => (h.qs i hi).mod hm (fun k hk => hn k (.inr (.inr (.inr ⟨i, hi, hk⟩)))), h.bo, h.bq, h.oq, h.qb, h.qq⟩
theorem LB.below (h : LB w T X b ao co aq cq os es) (hb : Below w.heap.size w w') : LB w' T X b ao co aq cq os es := h.mod (Mod.of_below (fun _ => False) hb) (fun _ _ h => h)
theorem LB.c0 (h : LB w T X b ao co aq cq os es) : w.cell? ⟨b, 0, none⟩ = some (.slice ao os.length co) := by rw [cell_of_row _ _ _ _ _ _ h.obj]; simp
theorem LB.c1 (h : LB w T X b ao co aq cq os es) : w.cell? ⟨b, 1, none⟩ = some (.slice aq es.length cq) := by rw [cell_of_row _ _ _ _ _ _ h.obj]; simp
theorem LB.c2 {x : Value} (h : LB w T (x :: X) b ao co aq cq os es) : w.cell? ⟨b, 2, none⟩ = some x := by rw [cell_of_row _ _ _ _ _ _ h.obj]; simp
theorem LB.owner (h : LB w T X b ao co aq cq os es) (i : Nat) (hi : i < os.length) : ∃ g, ao = some ⟨g, 0, none⟩ ∧ w.cell? ⟨g, i, none⟩ = some (.int .i64 (oAt os i)) := by
 obtain ⟨g, rfl, h0⟩ := h.ro.cell i (by omega)
 exact ⟨g, rfl, by rw [h0, iC_at os i hi (-1)]; rfl⟩
theorem LB.queue (h : LB w T X b ao co aq cq os es) (i : Nat) (hi : i < es.length) : ∃ g, aq = some ⟨g, 0, none⟩ ∧ w.cell? ⟨g, i, none⟩ = some (.slice (eAt es i).1 (eAt es i).2.2.length (eAt es i).2.1) := by
 obtain ⟨g, rfl, h0⟩ := h.rq.cell i (by omega)
 exact ⟨g, rfl, by rw [h0, sC_at es i hi]; rfl⟩
theorem LB.freeO {g : Nat} (h : LB w T X b (some ⟨g, 0, none⟩) co aq cq os es) (i : Nat) : w.frozen? ⟨g, i, none⟩ = false := h.ro.free i g rfl
theorem LB.freeQ {g : Nat} (h : LB w T X b ao co (some ⟨g, 0, none⟩) cq os es) (i : Nat) : w.frozen? ⟨g, i, none⟩ = false := h.rq.free i g rfl
theorem LB.freeB (h : LB w T X b ao co aq cq os es) (i : Nat) : w.frozen? ⟨b, i, none⟩ = false := by simp [World.frozen?, h.obj]
theorem LB.setO {g : Nat} (h : LB w T X b (some ⟨g, 0, none⟩) co aq cq os es) (i : Nat) (v : Int) : LB (w.setCell ⟨g, i, none⟩ (.int .i64 v)) T X b (some ⟨g, 0, none⟩) co aq cq (os.set i v) es := by
 have hm : Mod (fun k => k = g) w (w.setCell ⟨g, i, none⟩ (.int .i64 v)) := (Mod.refl (fun k => k = g) w).setCell (.inl rfl) _
 have hp := h.ro.put i (.int .i64 v)
 rw [iC_set] at hp
 refine ⟨by rw [hm.block b h.blt (fun e => h.bo (by rw [e]; rfl)), List.length_set]; exact h.obj, by rw [List.length_set]; exact hp, h.rq.mod hm (fun k hk e => h.oq k (by rw [e]; rfl) hk), fun j hj => (h.qs j hj).mod hm (fun k hk e => (h.qb j hj k hk).2.1 (by rw [e]; rfl)), h.bo, h.bq, h.oq, h.qb, h.qq⟩
theorem LB.setQ {g : Nat} (h : LB w T X b ao co (some ⟨g, 0, none⟩) cq os es) {i : Nat} (hi : i < es.length) {w2 : World} (hm : Mod (fun k => blk (eAt es i).1 = some k) w w2) {e' : Qe} (hq : Qw w2 e') (hn : ∀ k, blk e'.1 = some k → blk (eAt es i).1 = some k ∨ w.heap.size ≤ k) :
  LB (w2.setCell ⟨g, i, none⟩ (sV e')) T X b ao co (some ⟨g, 0, none⟩) cq os (es.set i e') := by
 have hm2 : Mod (fun k => k = g) w2 (w2.setCell ⟨g, i, none⟩ (sV e')) := (Mod.refl (fun k => k = g) w2).setCell (.inl rfl) _
 have hgb : g ≠ b := fun e => h.bq (by rw [e]; rfl)
 have hgl : g < w.heap.size := h.rq.lt g rfl
 have hqi : ∀ k, blk (eAt es i).1 = some k → k ≠ b ∧ blk ao ≠ some k ∧ g ≠ k := fun k hk => by
  obtain ⟨h1, h2, h3⟩ := h.qb i hi k hk
  exact ⟨h1, h2, fun e => h3 (by rw [← e]; rfl)⟩
 have hp := (h.rq.mod hm (fun k hk e => (hqi k e).2.2 (by simpa [blk] using hk))).put i (sV e')
 rw [sC_set] at hp
 have hee : ∀ j, j < (es.set i e').length → eAt (es.set i e') j = if i = j then e' else eAt es j := fun j _ => eAt_set hi
 have hne : ∀ k, blk e'.1 = some k → k ≠ b ∧ blk ao ≠ some k ∧ g ≠ k := fun k hk => by
  rcases hn k hk with h1 | h1
  ·exact hqi k h1
  ·exact ⟨fun e => by have := h.blt; omega, fun e => by have := h.ro.lt k e; omega, by omega⟩
 refine ⟨?_, ?_, by rw [List.length_set]; exact hp, fun j hj => ?_, h.bo, h.bq, h.oq, fun j hj k hk => ?_, fun j l hj hl hjl k hk => ?_⟩
 ·rw [hm2.block b (Nat.lt_of_lt_of_le h.blt hm.size) (fun e => hgb e.symm), hm.block b h.blt (fun e => (hqi b e).1 rfl), List.length_set]
  exact h.obj
 ·exact (h.ro.mod hm (fun k hk e => (hqi k e).2.1 hk)).mod hm2 (fun k hk e => h.oq k hk (by rw [e]; rfl))
 ·rw [hee j hj]
  split
  ·exact hq.mod hm2 (fun k hk e => (hne k hk).2.2 e.symm)
  ·rename_i hij
   rw [List.length_set] at hj
   exact ((h.qs j hj).mod hm (fun k hk e => h.qq i j hi hj hij k e hk)).mod hm2 (fun k hk e => (h.qb j hj k hk).2.2 (by rw [e]; rfl))
 ·rw [hee j hj] at hk
  split at hk
  ·obtain ⟨h1, h2, h3⟩ := hne k hk
   exact ⟨h1, h2, fun e => h3 (by simpa [blk] using e)⟩
  ·rw [List.length_set] at hj
   exact h.qb j hj k hk
 ·rw [hee j hj] at hk
  rw [hee l hl]
  rw [List.length_set] at hj hl
  split at hk
  ·rename_i h1
   rw [if_neg (by omega)]
   intro e
   rcases hn k hk with h2 | h2
   ·exact h.qq i l hi hl (by omega) k h2 e
   ·have := (h.qs l hl).lt k e; omega
  ·rename_i h1
   split
   ·intro e
    rcases hn k e with h2 | h2
    ·exact h.qq i j hi hj h1 k h2 hk
    ·have := (h.qs j hj).lt k hk; omega
   ·exact h.qq j l hj hl hjl k hk
theorem LB.pushO (h : LB w T X b ao co aq cq os es) {w2 : World} (hm : Mod (fun k => blk ao = some k) w w2) {ao' : Option Addr} {co' : Nat} {v : Int} (hR : Row w2 3 1 ao' (os.length + 1) co' (iC os ++ iC [v])) (hn : ∀ k, blk ao' = some k → blk ao = some k ∨ w.heap.size ≤ k) :
  LB (w2.setCell ⟨b, 0, none⟩ (.slice ao' (os.length + 1) co')) T X b ao' co' aq cq (os ++ [v]) es := by
 have hm2 : Mod (fun k => k = b) w2 (w2.setCell ⟨b, 0, none⟩ (.slice ao' (os.length + 1) co')) := (Mod.refl (fun k => k = b) w2).setCell (.inl rfl) _
 have hbo : blk ao' ≠ some b := fun e => by
  rcases hn b e with h1 | h1
  ·exact h.bo h1
  ·have := h.blt; omega
 rw [← iC_app] at hR
 refine ⟨?_, by rw [List.length_append]; exact hR.mod hm2 (fun k hk e => hbo (by rw [← e]; exact hk)), (h.rq.mod hm (fun k hk e => h.oq k e hk)).mod hm2 (fun k hk e => h.bq (by rw [← e]; exact hk)), fun j hj => ((h.qs j hj).mod hm (fun k hk e => (h.qb j hj k hk).2.1 e)).mod hm2 (fun k hk e => (h.qb j hj k hk).1 e), hbo, h.bq, fun k hk e => ?_, fun j hj k hk => ⟨(h.qb j hj k hk).1, fun e => ?_, (h.qb j hj k hk).2.2⟩, h.qq⟩
 ·have ho : w2.heap[b]? = some (.cells (.slice ao os.length co :: .slice aq es.length cq :: X).toArray T (0, 0)) := by rw [hm.block b h.blt h.bo]; exact h.obj
  rw [heap_setCell_self ho]
  simp
 ·rcases hn k hk with h1 | h1
  ·exact h.oq k h1 e
  ·have := h.rq.lt k e; omega
 ·rcases hn k e with h1 | h1
  ·exact (h.qb j hj k hk).2.1 h1
  ·have := (h.qs j hj).lt k hk; omega
theorem LB.pushQ (h : LB w T X b ao co aq cq os es) {w2 : World} (hm : Mod (fun k => blk aq = some k) w w2) {aq' : Option Addr} {cq' : Nat} {e' : Qe} (hR : Row w2 24 1 aq' (es.length + 1) cq' (sC es ++ sC [e'])) (hn : ∀ k, blk aq' = some k → blk aq = some k ∨ w.heap.size ≤ k) (hq : Qw w2 e') (hne : ∀ k, blk e'.1 = some k → w.heap.size ≤ k ∧ blk aq' ≠ some k) :
  LB (w2.setCell ⟨b, 1, none⟩ (.slice aq' (es.length + 1) cq')) T X b ao co aq' cq' os (es ++ [e']) := by
 have hm2 : Mod (fun k => k = b) w2 (w2.setCell ⟨b, 1, none⟩ (.slice aq' (es.length + 1) cq')) := (Mod.refl (fun k => k = b) w2).setCell (.inl rfl) _
 have hbq : blk aq' ≠ some b := fun e => by
  rcases hn b e with h1 | h1
  ·exact h.bq h1
  ·have := h.blt; omega
 have hel : (es ++ [e']).length = es.length + 1 := by simp
 rw [← sC_app] at hR
 refine ⟨?_, (h.ro.mod hm (fun k hk e => h.oq k hk e)).mod hm2 (fun k hk e => h.bo (by rw [← e]; exact hk)), by rw [hel]; exact hR.mod hm2 (fun k hk e => hbq (by rw [← e]; exact hk)), fun j hj => ?_, h.bo, hbq, fun k hk e => ?_, fun j hj k hk => ?_, fun j l hj hl hjl k hk => ?_⟩
 ·have ho : w2.heap[b]? = some (.cells (.slice ao os.length co :: .slice aq es.length cq :: X).toArray T (0, 0)) := by rw [hm.block b h.blt h.bq]; exact h.obj
  rw [heap_setCell_self ho, hel]
  simp
 ·rw [hel] at hj
  rw [eAt_app hj]
  split
  ·exact hq.mod hm2 (fun k hk e => by have := hne k hk; have := h.blt; omega)
  ·have hj' : j < es.length := by omega
   exact ((h.qs j hj').mod hm (fun k hk e => (h.qb j hj' k hk).2.2 e)).mod hm2 (fun k hk e => (h.qb j hj' k hk).1 e)
 ·rcases hn k e with h1 | h1
  ·exact h.oq k hk h1
  ·have := h.ro.lt k hk; omega
 ·rw [hel] at hj
  rw [eAt_app hj] at hk
  split at hk
  ·have h1 := hne k hk
   exact ⟨fun e => by have := h.blt; omega, fun e => by have := h.ro.lt k e; omega, h1.2⟩
  ·have hj' : j < es.length := by omega
   obtain ⟨h1, h2, h3⟩ := h.qb j hj' k hk
   refine ⟨h1, h2, fun e => ?_⟩
   rcases hn k e with h4 | h4
   ·exact h3 h4
   ·have := (h.qs j hj').lt k hk; omega
 ·rw [hel] at hj hl
  rw [eAt_app hj] at hk
  rw [eAt_app hl]
  split at hk
  ·rw [if_neg (by omega)]
   intro e
   have h1 := hne k hk
   have := (h.qs l (by omega)).lt k e
   omega
  ·split
   ·intro e
    have h1 := hne k e
    have := (h.qs j (by omega)).lt k hk
    omega
   ·exact h.qq j l (by omega) (by omega) hjl k hk
end
/- Maps of whole numbers. -/
theorem lawInt : Keyed Tryz.prog 3 := int_keyed Tryz.underlying3
theorem key_int {x : Int} (h : Fit64 x) : keyOf Tryz.prog 3 (.int .i64 x) = some (.int .i64 x) := keyOf_int_mk Tryz.underlying3 (WalkArith.wf_i64 h)
theorem zeroI (w : World) : (zeroValue 3).run Tryz.prog w = .ok (.int .i64 0) w := Tryz.zeroValue3 w
theorem wfI {x : Int} (h : Fit64 x) : (Lit.int .i64 x).wf = true := WalkArith.wf_i64 h
theorem mod_grown {w w' : World} {row : Option Nat} (h : w.grownBy w' row) : Mod (fun k => row = some k) w w' := ⟨h.os, h.tape, h.output, h.size, fun k hk hn => h.block k hk (fun e => hn e.symm)⟩
theorem owns_kept {W W' : World} {R : Value → Option (DataW Unit × List MemPlace)} {k n : Nat} {T : TypeId} {D : DataW Unit} (h : W.ownsMap Tryz.prog T R k n D) (e : W'.heap[k]? = W.heap[k]?) : W'.ownsMap Tryz.prog T R k n D := by
 unfold World.ownsMap at *
 rw [e]
 exact h
theorem owns_tight {W : World} {R : Value → Option (DataW Unit × List MemPlace)} {k n : Nat} {T : TypeId} {D : DataW Unit} (h : W.ownsMap Tryz.prog T R k n D) : W.ownsMap Tryz.prog T R k (Maps.size D) D := by
 obtain ⟨es, clock, hb, F, hs, hD⟩ := h
 exact ⟨es, clock, hb, F, by subst hD; simp [Maps.size, length_sorted], hD⟩
structure MapAt (w : World) (m : Nat) (f : Int → Option Int) (n : Nat) : Prop where
 ex : ∃ D : DataW Unit, w.ownsMap Tryz.prog 3 (plainElem Tryz.prog 3) m n D ∧ Tidy D ∧ Maps.size D = n ∧ (∀ p k, f p = some k → ∀ zd, D.atKey (.int .i64 p) zd = .lit (.int .i64 k)) ∧ ∀ p, Maps.has D (.int .i64 p) = (f p).isSome
section
variable {w w' : World} {m : Nat} {f : Int → Option Int} {n : Nat}
theorem MapAt.lt (h : MapAt w m f n) : m < w.heap.size := by
 obtain ⟨D, h1, _⟩ := h.ex
 exact h1.lt
theorem MapAt.mod {S : Nat → Prop} (h : MapAt w m f n) (hm : Mod S w w') (hn : ¬ S m) : MapAt w' m f n := by
 have hl := h.lt
 obtain ⟨D, h1, h2⟩ := h.ex
 exact ⟨D, owns_kept h1 (hm.block m hl hn), h2⟩
theorem MapAt.below (h : MapAt w m f n) (hb : Below w.heap.size w w') : MapAt w' m f n := h.mod (Mod.of_below (fun _ => False) hb) (fun h => h)
theorem MapAt.congr {f' : Int → Option Int} (h : MapAt w m f n) (e : ∀ p, f p = f' p) : MapAt w m f' n := by
 obtain ⟨D, h1, h2, h3, h4, h5⟩ := h.ex
 exact ⟨D, h1, h2, h3, fun p k hp => h4 p k (by rw [e]; exact hp), fun p => by rw [h5, e]⟩
theorem MapAt.new (w : World) : MapAt (w.alloc (.map #[] 0)) w.heap.size (fun _ => none) 0 :=
 ⟨.map [], World.ownsMap_made w Tryz.prog 3 _, tidy_empty, rfl, fun _ _ h => (by cases h), fun _ => rfl⟩
theorem MapAt.look (h : MapAt w m f n) {p : Int} (hi : Fit64 p) : (Instr.lookup 201 (.map (some m)) (.int .i64 p) true).run Tryz.prog w = .ok (.tuple #[.int .i64 ((f p).getD 0), .bool (f p).isSome]) w := by
 obtain ⟨D, m1, m2, m3, m4, m5⟩ := h.ex
 obtain ⟨v, ps, h1, h2⟩ := m1.look_ok lawInt Tryz.underlying201 (zeroI w) (plainElem_int Tryz.underlying3 (wfI ⟨by decide, by decide⟩)) (key_int hi)
 obtain ⟨c, rfl, e, _⟩ := plainElem_int_inv Tryz.underlying3 h2
 have e1 := (Prod.mk.inj e).1
 rw [m5] at h1
 rw [h1]
 cases hs : f p with
 | some k =>
  rw [m4 p k hs] at e1
  rw [(Lit.int.inj (DataW.lit.inj e1)).2]
  rfl
 | none =>
  rw [atKey_of_not_has (by rw [m5, hs]; rfl)] at e1
  rw [(Lit.int.inj (DataW.lit.inj e1)).2]
  rfl
theorem MapAt.store (h : MapAt w m f n) {p v : Int} (hi : Fit64 p) (hv : Fit64 v) (hn : n < 6000000000000) : ∃ w2, (Instr.mapUpdate 201 (.map (some m)) (.int .i64 p) (.int .i64 v)).run Tryz.prog w = .ok () w2 ∧ Mod (fun k => k = m) w w2 ∧ MapAt w2 m (fun x => if x = p then some v else f x) (if (f p).isSome then n else n + 1) := by
 obtain ⟨D, m1, m2, m3, m4, m5⟩ := h.ex
 obtain ⟨w2, hrun, o2, t2⟩ := m1.store lawInt Tryz.underlying201 (by unfold maxLen; omega) (key_int hi) (plainElem_int Tryz.underlying3 (wfI hv))
 have hM2 : Mod (fun k => k = m) w w2 := (mod_grown t2.grown).mono (fun k _ e => (Option.some.inj e).symm)
 have o2' := owns_tight o2
 have hsz : Maps.size (D.put (.int .i64 p) (.lit (.int .i64 v))) = if (f p).isSome then n else n + 1 := by rw [size_put (k := .int .i64 p) m2, m5, m3]
 rw [hsz] at o2'
 refine ⟨w2, hrun, hM2, ⟨_, o2', m2.put (k := .int .i64 p) trivial _, hsz, fun x k hk zd => ?_, fun x => ?_⟩⟩
 ·by_cases e : x = p
  ·subst e
   rw [if_pos rfl] at hk
   cases hk
   exact atKey_put_same (k := .int .i64 x) m2.isMap trivial _ _
  ·rw [if_neg e] at hk
   rw [atKey_put_other (by simpa using e)]
   exact m4 x k hk zd
 ·by_cases e : x = p
  ·subst e
   rw [has_put_same (k := .int .i64 x) m2.isMap trivial, if_pos rfl]; rfl
  ·rw [has_put_other (by simpa using e), m5, if_neg e]
theorem MapAt.drop (h : MapAt w m f n) {p : Int} (hi : Fit64 p) : ∃ w2, (∀ ty, (Builtin.delete_ #[201, 3] ty #[.map (some m), .int .i64 p]).run Tryz.prog w = .ok (.tuple #[]) w2) ∧ Mod (fun k => k = m) w w2 ∧ MapAt w2 m (fun x => if x = p then none else f x) (if (f p).isSome then n - 1 else n) := by
 obtain ⟨D, m1, m2, m3, m4, m5⟩ := h.ex
 obtain ⟨w2, hrun, o2, t2⟩ := m1.drop lawInt Tryz.underlying201 (key_int hi) 0
 have hM2 : Mod (fun k => k = m) w w2 := (mod_grown t2.grown).mono (fun k _ e => (Option.some.inj e).symm)
 have o2' := owns_tight o2
 have hsz : Maps.size (D.del (.int .i64 p)) = if (f p).isSome then n - 1 else n := by
  have hs := size_del (k := .int .i64 p) m2
  rw [m5, m3] at hs
  cases hf : (f p).isSome <;> rw [hf] at hs <;> simp at hs ⊢ <;> omega
 rw [hsz] at o2'
 refine ⟨w2, fun ty => hrun, hM2, ⟨_, o2', m2.del _, hsz, fun x k hk zd => ?_, fun x => ?_⟩⟩
 ·by_cases e : x = p
  ·rw [if_pos e] at hk; cases hk
  ·rw [if_neg e] at hk
   rw [atKey_del_other (by simpa using e)]
   exact m4 x k hk zd
 ·by_cases e : x = p
  ·subst e
   rw [has_del_same, if_pos rfl]; rfl
  ·rw [has_del_other (by simpa using e), m5, if_neg e]
end
structure LM (w : World) (b m : Nat) (ao : Option Addr) (co : Nat) (aq : Option Addr) (cq : Nat) (os : List Int) (es : List Qe) (f : Int → Option Int) (n : Nat) : Prop where
 lb : LB w 203 [.map (some m)] b ao co aq cq os es
 map : MapAt w m f n
 ap : ¬ lfp b ao aq es m
def mfp (b m : Nat) (ao aq : Option Addr) (es : List Qe) (k : Nat) : Prop := k = m ∨ lfp b ao aq es k
section
variable {w w' : World} {b m : Nat} {ao : Option Addr} {co : Nat} {aq : Option Addr} {cq : Nat} {os : List Int} {es : List Qe} {f : Int → Option Int} {n : Nat}
theorem LM.lt (h : LM w b m ao co aq cq os es f n) : ∀ k, mfp b m ao aq es k → k < w.heap.size := fun k hk => by
 rcases hk with rfl | hk
 ·exact h.map.lt
 ·exact h.lb.lt k hk
theorem LM.mod {S : Nat → Prop} (h : LM w b m ao co aq cq os es f n) (hm : Mod S w w') (hn : ∀ k, mfp b m ao aq es k → ¬ S k) : LM w' b m ao co aq cq os es f n :=
 ⟨h.lb.mod hm (fun k hk => hn k (.inr hk)), h.map.mod hm (hn m (.inl rfl)), h.ap⟩
theorem LM.below (h : LM w b m ao co aq cq os es f n) (hb : Below w.heap.size w w') : LM w' b m ao co aq cq os es f n := h.mod (Mod.of_below (fun _ => False) hb) (fun _ _ h => h)
theorem LM.turn {f' : Int → Option Int} {n' : Nat} (h : LM w b m ao co aq cq os es f n) (hm : Mod (fun k => k = m) w w') (hM : MapAt w' m f' n') : LM w' b m ao co aq cq os es f' n' :=
 ⟨h.lb.mod hm (fun k hk e => h.ap (by rw [← e]; exact hk)), hM, h.ap⟩
end
def Lk (w : World) (b : Nat) (F : Nat → Prop) (os : List Int) (qs : Qs) : Prop := GoodL os qs ∧ ∃ m ao co aq cq es, LM w b m ao co aq cq os es (wtI qs) (total qs) ∧ qsOf es = qs ∧ (∀ k, mfp b m ao aq es k → F k) ∧ ∀ k, F k → k < w.heap.size
section
variable {w w' : World} {b : Nat} {F : Nat → Prop} {os : List Int} {qs : Qs}
theorem Lk.mod {S : Nat → Prop} (h : Lk w b F os qs) (hm : Mod S w w') (hn : ∀ k, F k → ¬ S k) : Lk w' b F os qs := by
 obtain ⟨hG, m, ao, co, aq, cq, es, h1, h2, h3, h4⟩ := h
 exact ⟨hG, m, ao, co, aq, cq, es, h1.mod hm (fun k hk => hn k (h3 k hk)), h2, h3, fun k hk => Nat.lt_of_lt_of_le (h4 k hk) hm.size⟩
theorem Lk.lt (h : Lk w b F os qs) : ∀ k, F k → k < w.heap.size := by
 obtain ⟨hG, m, ao, co, aq, cq, es, h1, h2, h3, h4⟩ := h
 exact h4
end
end Go.Proofs.YthhcecllejddeaaGreatDoor.Locks
