/- Numbers and lists as cells; rows, also such as lie behind a block's begin; append. -/
import Derived.Test.YtcmcapddijpidaaProg
import Derived.Test.YtcmcapddijpidaaLW1
import Derived.Deep.LoopGhost
import Derived.Deep.CutRange
import Derived.Deep.QuietTactic
import Derived.Deep.RegionHeld3
import Derived.Deep.DeepCutAuto
import Derived.BigQuiet
import Derived.Laws.MakeOwn
import Derived.Maps.OwnSet
import Derived.Test.YtcmcapddijpidaaGM2
namespace Go.Proofs.Ytcmcapddijpidaa
open Go.RowKit Go.Maps

def Fit64 (x : Int) : Prop := -9223372036854775808 ≤ x ∧ x ≤ 9223372036854775807

/-- Whole numbers, and pairs of them, as cells. -/
def iC (l : List Int) : List Value := l.map (.int .i64 ·)
def wP (x : Int × Int) : List Value := [.int .i64 x.1, .int .i64 x.2]
def wC (l : List (Int × Int)) : List Value := l.flatMap wP
theorem iC_len (l : List Int) : (iC l).length = l.length * 1 := by simp [iC]
theorem wC_len (l : List (Int × Int)) : (wC l).length = l.length * 2 := by
  induction l with
  | nil => rfl
  | cons x r ih => simp only [wC, List.flatMap_cons, List.length_append, List.length_cons] at *; rw [ih, show (wP x).length = 2 from rfl]; omega
theorem iC_app (l m : List Int) : iC (l ++ m) = iC l ++ iC m := by simp [iC]
theorem wC_app (l m : List (Int × Int)) : wC (l ++ m) = wC l ++ wC m := by simp [wC]
theorem iC_at (l : List Int) (i : Nat) (h : i < l.length) (d : Int) : (iC l)[i]? = some (.int .i64 (l.getD i d)) := by
  simp [iC, List.getD_eq_getElem?_getD, List.getElem?_eq_getElem h]
theorem wC_at : ∀ (l : List (Int × Int)) (i : Nat), i < l.length → (wC l)[i * 2]? = some (.int .i64 (l.getD i (0, 0)).1) ∧ (wC l)[i * 2 + 1]? = some (.int .i64 (l.getD i (0, 0)).2)
  | [], i, h => absurd h (Nat.not_lt_zero i)
  | t :: ts, 0, _ => ⟨rfl, rfl⟩
  | t :: ts, i + 1, h => by
    have ih := wC_at ts i (by simpa using h)
    simp only [wC, List.flatMap_cons, List.getD_cons_succ] at *
    rw [List.getElem?_append_right (by rw [show (wP t).length = 2 from rfl]; omega), List.getElem?_append_right (by rw [show (wP t).length = 2 from rfl]; omega), show (wP t).length = 2 from rfl, show (i + 1) * 2 - 2 = i * 2 by omega, show (i + 1) * 2 + 1 - 2 = i * 2 + 1 by omega]
    exact ih
theorem iC_one (l : List Int) : ∀ u ∈ iC l, u.oneCell' = true := by
  intro u hu
  obtain ⟨x, _, rfl⟩ := List.mem_map.mp hu
  rfl
theorem iC_drop (l : List Int) (k : Nat) : (iC l).drop k = iC (l.drop k) := by simp [iC]
theorem iC_take (l : List Int) (k : Nat) : (iC l).take k = iC (l.take k) := by simp [iC, List.map_take]
theorem iC_set (l : List Int) (k : Nat) (v : Int) : (iC l).set k (.int .i64 v) = iC (l.set k v) := by simp [iC, List.map_set]

theorem heap_setCell_self {w : World} {b i : Nat} {cs : Array Value} {t : TypeId} {fr : Nat × Nat} (h : w.heap[b]? = some (.cells cs t fr)) (u : Value) : (w.setCell ⟨b, i, none⟩ u).heap[b]? = some (.cells (cs.setIfInBounds i u) t fr) := by
  simp [World.setCell, Array.getElem?_modify, h]
theorem Row.put {w : World} {e : TypeId} {size g n cap : Nat} {xs : List Value} (h : Row w e size (some ⟨g, 0, none⟩) n cap xs) (j : Nat) (u : Value) : Row (w.setCell ⟨g, j, none⟩ u) e size (some ⟨g, 0, none⟩) n cap (xs.set j u) := by
  obtain ⟨h1, h2, h3, ⟨h4, _⟩ | ⟨g', cur, h4, h5, h6, h7⟩⟩ := h
  · cases h4
  · cases h4
    refine ⟨by simpa using h1, h2, h3, .inr ⟨g, _, rfl, heap_setCell_self h5 u, by simpa using h6, ?_⟩⟩
    rw [Array.toList_setIfInBounds, List.take_set, h7]

theorem info_parts {P : Program} {e : TypeId} {z : Value} {size bytes : Nat} (h : (P.info? e).map (fun i => (i.zero, i.size, i.bytes)) = some (some z, size, bytes)) : ∃ i, P.info? e = some i ∧ i.zero = some z ∧ i.size = size ∧ i.bytes = bytes := by
  cases hi : P.info? e with
  | none => rw [hi] at h; cases h
  | some i =>
    rw [hi] at h
    simp only [Option.map_some, Option.some.injEq, Prod.mk.injEq] at h
    exact ⟨i, rfl, h.1, h.2.1, h.2.2⟩
theorem below_drewN {B : Nat} {a w : World} (h : Below B a w) (n : Nat) : Below B a (w.drewN n) := ⟨h.os, h.tape, h.output, h.size, h.block⟩

/-- 'make' of so many, as an equation. -/
theorem make_eq (t e : TypeId) (z : Value) (size bytes : Nat) (ht : Try.prog.underlying t = some (.slice e)) (hi : (Try.prog.info? e).map (fun i => (i.zero, i.size, i.bytes)) = some (some z, size, bytes)) (n : Nat) (hb : bytes * n ≤ 281474976710656) (h63 : n ≤ maxLen) (W : World) :
    (Instr.makeSlice t (.int .i64 (n : Int)) (.int .i64 (n : Int))).run Try.prog W = .ok (.slice (some ⟨W.heap.size, 0, none⟩) n n) (W.alloc (.cells (madeCells z.cells (n * size)) e)) := by
  obtain ⟨i, h1, h2, h3, h4⟩ := info_parts hi
  subst h3 h4
  have h63' : (n : Int) ≤ 9223372036854775807 := by
    have h := h63
    simp [maxLen] at h
    omega
  have hb' : (i.bytes : Int) * (n : Int) ≤ 281474976710656 := by
    have h : ((i.bytes * n : Nat) : Int) ≤ 281474976710656 := by omega
    rwa [Int.natCast_mul] at h
  have hr := run_make (P := Try.prog) W t e i z ht h1 h2 .i64 .i64 n n (by omega) (Int.le_refl _) hb' h63'
  simp only [Int.toNat_natCast] at hr
  exact hr

/-- One more of a row of whatever, as append leaves it. -/
theorem push_any {T e : TypeId} {z : Value} {size bytes : Nat} (hu : Try.prog.underlying T = some (.slice e)) (hinfo : (Try.prog.info? e).map (fun i => (i.zero, i.size, i.bytes)) = some (some z, size, bytes)) (hzs : z.cells.size = size) 
    {w : World} {a : Option Addr} {n c : Nat} {xs : List Value} (hR : Row w e size a n c xs) (hn : n < maxLen) (hby : (n + 1) * bytes ≤ 140737488355328) (us : List Value) (hus : us.length = size) (h1 : ∀ u ∈ us, u.oneCell' = true) :
    ∃ a' c' w', (∀ ty, (Builtin.append_ #[T, T] ty #[.slice a n c, .slice (some ⟨w.heap.size, 0, none⟩) 1 1]).run Try.prog (w.alloc (.cells us.toArray e)) = .ok (.slice a' (n + 1) c') w') ∧
      Row w' e size a' (n + 1) c' (xs ++ us) ∧ Mod (fun k => blk a = some k) w w' ∧ (∀ k, blk a' = some k → blk a = some k ∨ w.heap.size ≤ k) := by
  obtain ⟨i, k1, k2, k3, k4⟩ := info_parts hinfo
  have hb := below_al w (.cells us.toArray e)
  have hh := heap_alloc_new w (.cells us.toArray e)
  have hs : Src Try.prog size T (.slice (some ⟨w.heap.size, 0, none⟩) 1 1) 1 us (w.alloc (.cells us.toArray e)) := by
    refine Src.ofSlice _ hu _ _ _ _ (by omega) (fun j u hj => ?_) h1
    rw [addr_add, cell_of_row _ _ _ _ _ _ hh, Nat.zero_add]
    simpa using hj
  obtain ⟨a', c', w', m1, m2, m3, m4, _⟩ := run_append_row (P := Try.prog) _ T e i _ size bytes hu k1 k2 k3 k4 hzs (hR.below hb) _ 1 _ hs (by omega) hby
  refine ⟨a', c', w', m1, m2, (Mod.of_below _ hb).trans m3 (fun _ h => .inl h), fun k hk => ?_⟩
  rcases m4 k hk with h | h
  · exact .inl h
  · exact .inr (by have := hb.size; omega)

/-- At an append whose run is known. -/
theorem wpList_append_run {P : Program} {w : World} {ops : Array Oper} {rest : List Oper} {o : Oper} {a : Act} {Q : Exit → Act → World → Prop} (hgd : o.guard = none) (s x : Operand) (t : TypeId)
    (ho : o.op = .call { callee := .builtin .append, args := #[s, x], argTypes := #[t, t] }) (v vx v' : Value) (w' : World) (hs : a.eval s = v) (hx : a.eval x = vx)
    (hrun : ∀ ty, (Builtin.append_ #[t, t] ty #[v, vx]).run P w = .ok v' w') (h : wpList P ops Q rest (a.put o.dst v') w') : wpList P ops Q (o :: rest) a w :=
  wpList_plain hgd fun K hK => by
    unfold Oper.wp execOp
    simp only [ho, resolve, invoke, builtin, Sem.run_bind, Sem.run_pure, Result.andThen_ok, List.map_toArray, List.map_cons, List.map_nil, hs, hx, hrun]
    exact hK _ _ h
theorem step_append_run {P : Program} {w : World} {ops : Array Oper} {o : Oper} {a : Act} {K : Act → World → Prop} {Q : Exit → Act → World → Prop} {E : Prop} (hgd : o.guard = none) (s x : Operand) (t : TypeId)
    (ho : o.op = .call { callee := .builtin .append, args := #[s, x], argTypes := #[t, t] }) (v vx v' : Value) (w' : World) (hs : a.eval s = v) (hx : a.eval x = vx)
    (hrun : ∀ ty, (Builtin.append_ #[t, t] ty #[v, vx]).run P w = .ok v' w') (h : K (a.put o.dst v') w') : if Region.wanted o (yielded ops a.tmps) = true then Oper.wp P o a w K Q else E := by
  have hw : Region.wanted o (yielded ops a.tmps) = true := by simp [Region.wanted, hgd]
  rw [if_pos hw]
  unfold Oper.wp execOp
  simp only [ho, resolve, invoke, builtin, Sem.run_bind, Sem.run_pure, Result.andThen_ok, List.map_toArray, List.map_cons, List.map_nil, hs, hx, hrun]
  exact h

theorem infoN : (Try.prog.info? 3).map (fun i => (i.zero, i.size, i.bytes)) = some (some (.int .i64 0), 1, 8) := by kernel_rfl

/-- So many elements somewhere in a block, with room for cap. -/
def Ro (w : World) (e : TypeId) (a : Option Addr) (n cap : Nat) (xs : List Value) : Prop :=
  xs.length = n ∧ n ≤ cap ∧ cap ≤ maxLen ∧ ((a = none ∧ cap = 0) ∨ ∃ g o cur, a = some ⟨g, o, none⟩ ∧ w.heap[g]? = some (.cells cur e (0, 0)) ∧ o + cap ≤ cur.size ∧ (cur.toList.drop o).take n = xs)
section
variable {w w' : World} {e : TypeId} {a : Option Addr} {n cap : Nat} {xs : List Value}
theorem Row.ro (h : Row w e 1 a n cap xs) : Ro w e a n cap xs := by
  obtain ⟨h1, h2, h3, h4⟩ := h
  rw [Nat.mul_one] at h1
  refine ⟨h1, h2, h3, ?_⟩
  rcases h4 with h4 | ⟨g, cur, h5, h6, h7, h8⟩
  · exact .inl h4
  · rw [Nat.mul_one] at h7 h8
    exact .inr ⟨g, 0, cur, h5, h6, by omega, by simpa using h8⟩
theorem Ro.rd (h : Ro w e a n cap xs) : Rd w a xs := fun j u hj => by
  obtain ⟨h1, h2, h3, h4⟩ := h
  have hl : j < xs.length := by
    rcases Nat.lt_or_ge j xs.length with h | h
    · exact h
    · rw [List.getElem?_eq_none h] at hj; cases hj
  rcases h4 with ⟨rfl, hc⟩ | ⟨g, o, cur, rfl, hg, hs, ht⟩
  · exfalso; omega
  · refine ⟨g, o, rfl, ?_⟩
    rw [cell_of_row _ _ _ _ _ _ hg]
    rw [← ht, List.getElem?_take] at hj
    split at hj
    · rw [List.getElem?_drop] at hj
      simpa using hj
    · cases hj
theorem Ro.lt (h : Ro w e a n cap xs) : ∀ k, blk a = some k → k < w.heap.size := fun k hk => by
  obtain ⟨_, _, _, ⟨rfl, _⟩ | ⟨g, o, cur, rfl, hg, _⟩⟩ := h
  · cases hk
  · cases hk
    exact (Array.getElem?_eq_some_iff.1 hg).1
theorem Ro.kept (h : Ro w e a n cap xs) (hk : ∀ k, blk a = some k → w'.heap[k]? = w.heap[k]?) : Ro w' e a n cap xs := by
  obtain ⟨h1, h2, h3, ⟨rfl, h4⟩ | ⟨g, o, cur, rfl, hg, h5⟩⟩ := h
  · exact ⟨h1, h2, h3, .inl ⟨rfl, h4⟩⟩
  · exact ⟨h1, h2, h3, .inr ⟨g, o, cur, rfl, by rw [hk g rfl]; exact hg, h5⟩⟩
theorem Ro.mod {S : Nat → Prop} (h : Ro w e a n cap xs) (hm : Mod S w w') (hn : ∀ k, blk a = some k → ¬ S k) : Ro w' e a n cap xs :=
  h.kept fun k hk => hm.block k (h.lt k hk) (hn k hk)
theorem Ro.below (h : Ro w e a n cap xs) (hm : Below w.heap.size w w') : Ro w' e a n cap xs := h.kept fun k hk => hm.block k (h.lt k hk)
theorem Ro.len (h : Ro w e a n cap xs) : xs.length = n := h.1
theorem Ro.capLe (h : Ro w e a n cap xs) : n ≤ cap := h.2.1
/-- The first k of them, and no room. -/
theorem Ro.ahead (h : Ro w e a n cap xs) (k : Nat) (hk : k ≤ n) : Ro w e a k k (xs.take k) := by
  obtain ⟨h1, h2, h3, h4⟩ := h
  refine ⟨by rw [List.length_take]; omega, Nat.le_refl _, by omega, ?_⟩
  rcases h4 with ⟨rfl, hc⟩ | ⟨g, o, cur, rfl, hg, hs, ht⟩
  · exact .inl ⟨rfl, by omega⟩
  · exact .inr ⟨g, o, cur, rfl, hg, by omega, by rw [← ht, List.take_take, Nat.min_eq_left hk]⟩
/-- What is behind the first k, and no room. -/
theorem Ro.behind {g o : Nat} (h : Ro w e (some ⟨g, o, none⟩) n cap xs) (k : Nat) (hk : k ≤ n) : Ro w e (some ⟨g, o + k, none⟩) (n - k) (n - k) (xs.drop k) := by
  obtain ⟨h1, h2, h3, h4⟩ := h
  refine ⟨by rw [List.length_drop]; omega, Nat.le_refl _, by omega, ?_⟩
  rcases h4 with ⟨h5, hc⟩ | ⟨g', o', cur, h5, hg, hs, ht⟩
  · cases h5
  · cases h5
    refine .inr ⟨g, o + k, cur, rfl, hg, by omega, ?_⟩
    rw [← ht, List.drop_take, List.drop_drop]
theorem Ro.none' {g o : Nat} (h : Ro w e (some ⟨g, o, none⟩) n cap xs) : Ro w e (some ⟨g, o, none⟩) 0 0 [] := by
  have := h.ahead 0 (Nat.zero_le _)
  simpa using this
end

/-- append, of whatever, to such a row. -/
theorem run_append_ro {P : Program} (w : World) (t e : TypeId) (i : TypeInfo) (z : Value) (bytes : Nat) (ht : P.underlying t = some (.slice e)) (hi : P.info? e = some i) (hz : i.zero = some z)
    (hsize : i.size = 1) (hby : i.bytes = bytes) (hzs : z.cells.size = 1)
    {a : Option Addr} {n cap : Nat} {xs : List Value} (hR : Ro w e a n cap xs) (x : Value) (m : Nat) (news : List Value) (hs : Src P 1 t x m news w)
    (h63 : n + m ≤ maxLen) (hbytes : (n + m) * bytes ≤ 140737488355328) :
    ∃ a' cap' w', (∀ ty, (Builtin.append_ #[t, t] ty #[.slice a n cap, x]).run P w = .ok (.slice a' (n + m) cap') w') ∧ Ro w' e a' (n + m) cap' (xs ++ news) ∧ Mod (fun k => blk a = some k) w w' ∧ (∀ k, blk a' = some k → blk a = some k ∨ w.heap.size ≤ k) := by
  obtain ⟨h1, h2, h3, h4⟩ := hR
  have hnl := hs.newsLen
  rw [Nat.mul_one] at hnl
  have hsc := hs.cells
  rw [← hsize] at hs
  by_cases hroom : n + m ≤ cap
  · rcases h4 with ⟨rfl, h5⟩ | ⟨g, o, cur, rfl, hg, hsz, htk⟩
    · have hn0 : n = 0 := by omega
      have hm0 : m = 0 := by omega
      subst hn0 hm0 h5
      refine ⟨none, 0, w, ?_, ?_, Mod.refl _ _, fun k hk => (by cases hk)⟩
      · intro ty
        simp [Builtin.append_, run_underlying ht, sizeOf, typeInfo, hi, hs.len, hs.cells]
      · refine ⟨by simp [h1, hnl], Nat.le_refl _, h3, .inl ⟨rfl, rfl⟩⟩
    · have hfit : o + n + news.length ≤ cur.size := by omega
      have hst := run_storeCells_at P g (o + n) e news 0 cur w hg (by simpa using hfit) hs.one
      simp only [Nat.add_zero] at hst
      refine ⟨some ⟨g, o, none⟩, cap, w.setRow g (cur.toList.take (o + n) ++ news ++ cur.toList.drop (o + n + news.length)).toArray, ?_, ?_, (Mod.refl (fun k => blk (some ⟨g, o, none⟩) = some k) w).setRow (.inl rfl) _, fun k hk => .inl hk⟩
      · intro ty
        simp [Builtin.append_, run_underlying ht, sizeOf, typeInfo, hi, hs.len, hroom, hsc, addr_add, hst, hsize]
      · refine ⟨by rw [List.length_append, h1, hnl], hroom, h3, .inr ⟨g, o, _, rfl, setRow_heap _ _ _ _ _ _ hg, ?_, ?_⟩⟩
        · simp
          omega
        · have ho : (cur.toList.take o).length = o := by rw [List.length_take, Array.length_toList]; omega
          show ((cur.toList.take (o + n) ++ news ++ cur.toList.drop (o + n + news.length)).drop o).take (n + m) = _
          have hta : cur.toList.take (o + n) = cur.toList.take o ++ xs := by rw [List.take_add, htk]
          rw [hta, List.append_assoc, List.append_assoc, List.drop_append_of_le_length (by omega), List.drop_of_length_le (by omega), List.nil_append, ← List.append_assoc, List.take_append_of_le_length (by rw [List.length_append]; omega), List.take_of_length_le (by rw [List.length_append]; omega)]
  · have hold : (Builtin.firstCells i.size n (.slice a n cap)).run P w.drew = .ok xs.toArray w.drew := by
      rcases h4 with ⟨rfl, h5⟩ | ⟨g, o, cur, rfl, hg, hsz, htk⟩
      · have hn0 : n = 0 := by omega
        subst hn0
        have : xs = [] := List.eq_nil_of_length_eq_zero (by simpa using h1)
        subst this
        exact run_firstCells_none _ _ _ _ _
      · refine run_firstCells_some _ _ _ _ _ _ _ (by rw [hsize]; omega) (fun j v hj => ?_)
        rw [addr_add]
        have hj' := hj
        rw [← htk, List.getElem?_take] at hj'
        split at hj'
        · have := cell_of_row w g (o + j) cur e (0, 0) hg
          rw [List.getElem?_drop] at hj'
          simpa [this] using hj'
        · cases hj'
    have hg := fun ty => run_append_grow_src (P := P) w t t ty e i z ht hi hz a n cap xs hold x m news hs (by omega) (by unfold maxLen at h63; omega) (growslice_fits (by omega) (by rw [hby]; exact hbytes))
    refine ⟨_, _, _, hg, ?_, ?_, fun k hk => ?_⟩
    · have hcap : n + m ≤ grownCap w (n + m) cap e ∧ grownCap w (n + m) cap e ≤ maxLen := by
        have h0 : cap < n + m := by omega
        have hf := growslice_fits (bytes := bytes) h0 (by exact hbytes)
        exact ⟨grownCap_ge w (n + m) cap e, grownCap_le_maxLen w (n + m) cap e h63⟩
      refine ⟨by rw [List.length_append, h1, hnl], hcap.1, hcap.2, .inr ⟨_, 0, _, rfl, heap_alloc_new _ _, ?_, ?_⟩⟩
      · simp [size_zeroCells, hzs, h1, hnl]
        omega
      · simp only [Array.toList_append, List.drop_zero]
        rw [List.take_append_of_le_length (by simp [h1, hnl]), List.take_of_length_le (by simp [h1, hnl])]
    · exact (Mod.of_below _ ((Below.refl _ w).drew)).after (below_al w.drew _)
    · cases hk; exact .inr (Nat.le_refl _)
theorem infoE : (Try.prog.info? 24).map (fun i => (i.zero, i.size, i.bytes)) = some (some (.agg #[.int .i64 0, .int .i64 0]), 2, 16) := by kernel_rfl
/- Maps of whole numbers. -/
theorem lawInt : Keyed Try.prog 3 := int_keyed Try.underlying3
theorem key_int {x : Int} (h : Fit64 x) : keyOf Try.prog 3 (.int .i64 x) = some (.int .i64 x) := keyOf_int_mk Try.underlying3 (WalkArith.wf_i64 h)
theorem zeroI (w : World) : (zeroValue 3).run Try.prog w = .ok (.int .i64 0) w := Try.zeroValue3 w
theorem wfI {x : Int} (h : Fit64 x) : (Lit.int .i64 x).wf = true := WalkArith.wf_i64 h
theorem mod_grown {w w' : World} {row : Option Nat} (h : w.grownBy w' row) : Mod (fun k => row = some k) w w' := ⟨h.os, h.tape, h.output, h.size, fun k hk hn => h.block k hk (fun e => hn e.symm)⟩
theorem owns_kept {W W' : World} {R : Value → Option (DataW Unit × List MemPlace)} {k n : Nat} {T : TypeId} {D : DataW Unit} (h : W.ownsMap Try.prog T R k n D) (e : W'.heap[k]? = W.heap[k]?) : W'.ownsMap Try.prog T R k n D := by
  unfold World.ownsMap at *
  rw [e]
  exact h
theorem owns_tight {W : World} {R : Value → Option (DataW Unit × List MemPlace)} {k n : Nat} {T : TypeId} {D : DataW Unit} (h : W.ownsMap Try.prog T R k n D) : W.ownsMap Try.prog T R k (Maps.size D) D := by
  obtain ⟨es, clock, hb, F, hs, hD⟩ := h
  exact ⟨es, clock, hb, F, by subst hD; simp [Maps.size, length_sorted], hD⟩

/-- A map at the block m: what stands at each number; n of them. -/
structure MapAt (w : World) (m : Nat) (f : Int → Option Int) (n : Nat) : Prop where
  ex : ∃ D : DataW Unit, w.ownsMap Try.prog 3 (plainElem Try.prog 3) m n D ∧ Tidy D ∧ Maps.size D = n ∧ (∀ p k, f p = some k → ∀ zd, D.atKey (.int .i64 p) zd = .lit (.int .i64 k)) ∧ ∀ p, Maps.has D (.int .i64 p) = (f p).isSome
section
variable {w w' : World} {m : Nat} {f : Int → Option Int} {n : Nat}
theorem MapAt.lt (h : MapAt w m f n) : m < w.heap.size := by
  obtain ⟨D, h1, _⟩ := h.ex
  exact h1.lt
theorem MapAt.mod {S : Nat → Prop} (h : MapAt w m f n) (hm : Mod S w w') (hn : ¬ S m) : MapAt w' m f n := by
  have hl := h.lt
  obtain ⟨D, h1, h2⟩ := h.ex
  exact ⟨D, owns_kept h1 (hm.block m hl hn), h2⟩
theorem MapAt.below (h : MapAt w m f n) (hb : Below w.heap.size w w') : MapAt w' m f n := h.mod (Mod.of_below (fun _ => False) hb) (fun h => h)
theorem MapAt.congr {f' : Int → Option Int} (h : MapAt w m f n) (e : ∀ p, f p = f' p) : MapAt w m f' n := by
  obtain ⟨D, h1, h2, h3, h4, h5⟩ := h.ex
  exact ⟨D, h1, h2, h3, fun p k hp => h4 p k (by rw [e]; exact hp), fun p => by rw [h5, e]⟩
theorem MapAt.new (w : World) : MapAt (w.alloc (.map #[] 0)) w.heap.size (fun _ => none) 0 :=
  ⟨.map [], World.ownsMap_made w Try.prog 3 _, tidy_empty, rfl, fun _ _ h => (by cases h), fun _ => rfl⟩
theorem MapAt.look (h : MapAt w m f n) {p : Int} (hi : Fit64 p) : (Instr.lookup 29 (.map (some m)) (.int .i64 p) true).run Try.prog w = .ok (.tuple #[.int .i64 ((f p).getD 0), .bool (f p).isSome]) w := by
  obtain ⟨D, m1, m2, m3, m4, m5⟩ := h.ex
  obtain ⟨v, ps, h1, h2⟩ := m1.look_ok lawInt Try.underlying29 (zeroI w) (plainElem_int Try.underlying3 (wfI ⟨by decide, by decide⟩)) (key_int hi)
  obtain ⟨c, rfl, e, _⟩ := plainElem_int_inv Try.underlying3 h2
  have e1 := (Prod.mk.inj e).1
  rw [m5] at h1
  rw [h1]
  cases hs : f p with
  | some k =>
    rw [m4 p k hs] at e1
    rw [(Lit.int.inj (DataW.lit.inj e1)).2]
    rfl
  | none =>
    rw [atKey_of_not_has (by rw [m5, hs]; rfl)] at e1
    rw [(Lit.int.inj (DataW.lit.inj e1)).2]
    rfl
theorem MapAt.store (h : MapAt w m f n) {p v : Int} (hi : Fit64 p) (hv : Fit64 v) (hn : n < 6000000000000) : ∃ w2, (Instr.mapUpdate 29 (.map (some m)) (.int .i64 p) (.int .i64 v)).run Try.prog w = .ok () w2 ∧ Mod (fun k => k = m) w w2 ∧ MapAt w2 m (fun x => if x = p then some v else f x) (if (f p).isSome then n else n + 1) := by
  obtain ⟨D, m1, m2, m3, m4, m5⟩ := h.ex
  obtain ⟨w2, hrun, o2, t2⟩ := m1.store lawInt Try.underlying29 (by unfold maxLen; omega) (key_int hi) (plainElem_int Try.underlying3 (wfI hv))
  have hM2 : Mod (fun k => k = m) w w2 := (mod_grown t2.grown).mono (fun k _ e => (Option.some.inj e).symm)
  have o2' := owns_tight o2
  have hsz : Maps.size (D.put (.int .i64 p) (.lit (.int .i64 v))) = if (f p).isSome then n else n + 1 := by rw [size_put (k := .int .i64 p) m2, m5, m3]
  rw [hsz] at o2'
  refine ⟨w2, hrun, hM2, ⟨_, o2', m2.put (k := .int .i64 p) trivial _, hsz, fun x k hk zd => ?_, fun x => ?_⟩⟩
  · by_cases e : x = p
    · subst e
      rw [if_pos rfl] at hk
      cases hk
      exact atKey_put_same (k := .int .i64 x) m2.isMap trivial _ _
    · rw [if_neg e] at hk
      rw [atKey_put_other (by simpa using e)]
      exact m4 x k hk zd
  · by_cases e : x = p
    · subst e
      rw [has_put_same (k := .int .i64 x) m2.isMap trivial, if_pos rfl]; rfl
    · rw [has_put_other (by simpa using e), m5, if_neg e]
end
end Go.Proofs.Ytcmcapddijpidaa
