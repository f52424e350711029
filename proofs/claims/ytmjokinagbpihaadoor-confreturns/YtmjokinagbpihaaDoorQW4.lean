/- The reader's labels. -/
import Derived.Test.YtmjokinagbpihaaDoorQT1
namespace Go.Proofs.YtmjokinagbpihaaDoor
open Go.RowKit

theorem lb_snoc_at (l : List Nat) (v : Nat) : ∀ m i, 1 ≤ i → i + m = l.length → (lbFrom l m i).1 = 0 → lbFrom (l ++ [v]) (m + 1) i = lbFrom (l ++ [v]) 1 l.length
  | 0, i, _, h, _ => by rw [show i = l.length by omega]
  | m + 1, i, h1, h, h0 => by
    have e1 : (l ++ [v]).getD i 0 = l.getD i 0 := by rw [List.getD_eq_getElem?_getD, List.getElem?_append_left (by omega), ← List.getD_eq_getElem?_getD]
    have e2 : (l ++ [v]).getD (i - 1) 0 = l.getD (i - 1) 0 := by rw [List.getD_eq_getElem?_getD, List.getElem?_append_left (by omega), ← List.getD_eq_getElem?_getD]
    rw [lbFrom] at h0
    rw [lbFrom, e1, e2]
    by_cases h2 : l.getD i 0 = l.getD (i - 1) 0
    · rw [if_pos h2] at h0
      simp at h0
    · rw [if_neg h2] at h0 ⊢
      by_cases h3 : l.getD i 0 < l.getD (i - 1) 0
      · rw [if_pos h3] at h0
        simp at h0
      · rw [if_neg h3] at h0 ⊢
        exact lb_snoc_at l v m (i + 1) (by omega) (by omega) h0

theorem lb_snoc (l : List Nat) (v : Nat) (h : l = [] ∨ (lbL l).1 = 0) (h8 : l.length < 8) : ((lbL (l ++ [v])).1 : Int) = labE l v := by
  have e0 : lbL (l ++ [v]) = lbFrom (l ++ [v]) l.length 1 := by
    rw [lb_start (by simp) (by simp; omega)]
    simp
  rw [e0]
  by_cases hl : l.length = 0
  · have : l = [] := List.eq_nil_of_length_eq_zero hl
    subst this
    rfl
  · have h0 : (lbFrom l (l.length - 1) 1).1 = 0 := by
      rcases h with rfl | h
      · simp at hl
      · rw [lb_start hl (by omega)] at h
        exact h
    have e1 := lb_snoc_at l v (l.length - 1) 1 (by omega) (by omega) h0
    rw [show l.length - 1 + 1 = l.length by omega] at e1
    have e2 : (l ++ [v]).getD l.length 0 = v := by simp
    have e3 : (l ++ [v]).getD (l.length - 1) 0 = l.getD (l.length - 1) 0 := by rw [List.getD_eq_getElem?_getD, List.getElem?_append_left (by omega), ← List.getD_eq_getElem?_getD]
    rw [e1, lbFrom, e2, e3]
    unfold labE
    rw [if_neg hl]
    by_cases h2 : v = l.getD (l.length - 1) 0
    · rw [if_pos h2, if_pos h2]; rfl
    · rw [if_neg h2, if_neg h2]
      by_cases h3 : v < l.getD (l.length - 1) 0
      · rw [if_pos h3, if_pos h3]; rfl
      · rw [if_neg h3, if_neg h3]; rfl

/-- One more of a row of whatever, as append leaves it. -/
theorem push_any {T e : TypeId} {z : Value} {size bytes : Nat} (hu : Tryd.prog.underlying T = some (.slice e)) (hinfo : (Tryd.prog.info? e).map (fun i => (i.zero, i.size, i.bytes)) = some (some z, size, bytes)) (hzs : z.cells.size = size) (hb64 : bytes ≤ 64)
    {w : World} {a : Option Addr} {n c : Nat} {xs : List Value} (hR : Row w e size a n c xs) (hn : n ≤ 1000000000000) (us : List Value) (hus : us.length = size) (h1 : ∀ u ∈ us, u.oneCell' = true) :
    ∃ a' c' w', (∀ ty, (Builtin.append_ #[T, T] ty #[.slice a n c, .slice (some ⟨w.heap.size, 0, none⟩) 1 1]).run Tryd.prog (w.alloc (.cells us.toArray e)) = .ok (.slice a' (n + 1) c') w') ∧
      Row w' e size a' (n + 1) c' (xs ++ us) ∧ Mod (fun k => blk a = some k) w w' ∧ (∀ k, blk a' = some k → blk a = some k ∨ w.heap.size ≤ k) := by
  obtain ⟨i, k1, k2, k3, k4⟩ := info_parts hinfo
  have hb := below_al w (.cells us.toArray e)
  have hh := heap_alloc_new w (.cells us.toArray e)
  have hs : Src Tryd.prog size T (.slice (some ⟨w.heap.size, 0, none⟩) 1 1) 1 us (w.alloc (.cells us.toArray e)) := by
    refine Src.ofSlice _ hu _ _ _ _ (by omega) (fun j u hj => ?_) h1
    rw [addr_add, cell_of_row _ _ _ _ _ _ hh, Nat.zero_add]
    simpa using hj
  obtain ⟨a', c', w', m1, m2, m3, m4, _⟩ := run_append_row (P := Tryd.prog) _ T e i _ size bytes hu k1 k2 k3 k4 hzs (hR.below hb) _ 1 _ hs (by unfold maxLen; omega) (by
    have : (n + 1) * bytes ≤ (n + 1) * 64 := Nat.mul_le_mul_left _ hb64
    omega)
  refine ⟨a', c', w', m1, m2, (Mod.of_below _ hb).trans m3 (fun _ h => .inl h), fun k hk => ?_⟩
  rcases m4 k hk with h | h
  · exact .inl h
  · exact .inr (by have := hb.size; omega)

/-- At an append whose run is known. -/
theorem wpList_append_run {P : Program} {w : World} {ops : Array Oper} {rest : List Oper} {o : Oper} {a : Act} {Q : Exit → Act → World → Prop} (hgd : o.guard = none) (s x : Operand) (t : TypeId)
    (ho : o.op = .call { callee := .builtin .append, args := #[s, x], argTypes := #[t, t] }) (v vx v' : Value) (w' : World) (hs : a.eval s = v) (hx : a.eval x = vx)
    (hrun : ∀ ty, (Builtin.append_ #[t, t] ty #[v, vx]).run P w = .ok v' w') (h : wpList P ops Q rest (a.put o.dst v') w') : wpList P ops Q (o :: rest) a w :=
  wpList_plain hgd fun K hK => by
    unfold Oper.wp execOp
    simp only [ho, resolve, invoke, builtin, Sem.run_bind, Sem.run_pure, Result.andThen_ok, List.map_toArray, List.map_cons, List.map_nil, hs, hx, hrun]
    exact hK _ _ h
theorem step_append_run {P : Program} {w : World} {ops : Array Oper} {o : Oper} {a : Act} {K : Act → World → Prop} {Q : Exit → Act → World → Prop} {E : Prop} (hgd : o.guard = none) (s x : Operand) (t : TypeId)
    (ho : o.op = .call { callee := .builtin .append, args := #[s, x], argTypes := #[t, t] }) (v vx v' : Value) (w' : World) (hs : a.eval s = v) (hx : a.eval x = vx)
    (hrun : ∀ ty, (Builtin.append_ #[t, t] ty #[v, vx]).run P w = .ok v' w') (h : K (a.put o.dst v') w') : if Region.wanted o (yielded ops a.tmps) = true then Oper.wp P o a w K Q else E := by
  have hw : Region.wanted o (yielded ops a.tmps) = true := by simp [Region.wanted, hgd]
  rw [if_pos hw]
  unfold Oper.wp execOp
  simp only [ho, resolve, invoke, builtin, Sem.run_bind, Sem.run_pure, Result.andThen_ok, List.map_toArray, List.map_cons, List.map_nil, hs, hx, hrun]
  exact h

theorem info_u64 : (Tryd.prog.info? 65).map (fun i => (i.zero, i.size, i.bytes)) = some (some (.int .u64 0), 1, 8) := by kernel_rfl
theorem info_int : (Tryd.prog.info? 3).map (fun i => (i.zero, i.size, i.bytes)) = some (some (.int .i64 0), 1, 8) := by kernel_rfl
theorem info_insn : (Tryd.prog.info? 71).map (fun i => (i.zero, i.size, i.bytes)) = some (some (.agg #[.int .i64 0, .int .i64 0, .int .i64 0, .int .i64 0, .int .i64 0]), 5, 40) := by kernel_rfl
theorem info_proc : (Tryd.prog.info? 42).map (fun i => (i.zero, i.size, i.bytes)) = some (some (.agg #[.int .i64 0, .slice none 0 0]), 2, 32) := by kernel_rfl

/-- A row of the call's own that is being made beside the reader. -/
structure MkI (w : World) (r : Nat) (a : Option Addr) (cap : Nat) (bs : List Nat) (s : St) (wr : World) (e size : Nat) (a1 : Option Addr) (n c1 : Nat) (xs : List Value) : Prop where
  out : ROut w r a cap bs s wr
  row : Row wr e size a1 n c1 xs
  new : ∀ k, blk a1 = some k → w.heap.size ≤ k

section
variable {w wr w1 : World} {r : Nat} {a : Option Addr} {cap : Nat} {bs : List Nat} {s s' : St} {e size n c1 : Nat} {a1 : Option Addr} {xs : List Value}
theorem RdAt.alt (h : RdAt w r a cap bs s) : ∀ k, blk a = some k → k < w.heap.size ∨ bs.length = 0 := fun k hk => by
  by_cases hb : bs.length = 0
  · exact .inr hb
  · obtain ⟨b, o, rfl, hc⟩ := h.at 0 (by omega)
    cases hk
    exact .inl (World.block_lt_of_cell? w _ hc)
theorem MkI.step (h : MkI w r a cap bs s wr e size a1 n c1 xs) (hr : r < w.heap.size) (o : ROut wr r a cap bs s' w1) : MkI w r a cap bs s' w1 e size a1 n c1 xs :=
  ⟨h.out.trans o, h.row.mod o.2 (fun k hk e => by have := h.new k hk; omega), h.new⟩
theorem MkI.after (h : MkI w r a cap bs s wr e size a1 n c1 xs) (hb : Below wr.heap.size wr w1) : MkI w r a cap bs s w1 e size a1 n c1 xs :=
  ⟨h.out.after hb, h.row.below hb, h.new⟩
theorem Rd.apart {S : Nat → Prop} {B : Nat} {w w' w0 : World} {a : Option Addr} {xs : List Value} (h0 : Rd w0 a xs) (h : Rd w a xs) (hm : Mod S w w') (hs : ∀ k, S k → B ≤ k) (hB : B = w0.heap.size) : Rd w' a xs := fun j u hj => by
  obtain ⟨b, o, rfl, hc⟩ := h j u hj
  obtain ⟨b', o', e, hc0⟩ := h0 j u hj
  cases e
  have hl := World.block_lt_of_cell? w0 _ hc0
  refine ⟨b, o, rfl, ?_⟩
  rw [hm.cell (p := ⟨b, o + j, none⟩) (World.block_lt_of_cell? w _ hc) (fun k => by have := hs _ k; simp only at this hl; omega)]
  exact hc
theorem MkI.push {T : TypeId} {z : Value} {bytes : Nat} (h : MkI w r a cap bs s wr e size a1 n c1 xs) (h0 : RdAt w r a cap bs s') (hu : Tryd.prog.underlying T = some (.slice e)) (hinfo : (Tryd.prog.info? e).map (fun i => (i.zero, i.size, i.bytes)) = some (some z, size, bytes)) (hzs : z.cells.size = size) (hb64 : bytes ≤ 64)
    (hn : n ≤ 1000000000000) (us : List Value) (hus : us.length = size) (h1 : ∀ u ∈ us, u.oneCell' = true) :
    ∃ a' c' w', (∀ ty, (Builtin.append_ #[T, T] ty #[.slice a1 n c1, .slice (some ⟨wr.heap.size, 0, none⟩) 1 1]).run Tryd.prog (wr.alloc (.cells us.toArray e)) = .ok (.slice a' (n + 1) c') w') ∧ MkI w r a cap bs s w' e size a' (n + 1) c' (xs ++ us) := by
  obtain ⟨a', c', w', k1, k2, k3, k4⟩ := push_any hu hinfo hzs hb64 h.row hn us hus h1
  have hr := h0.lt
  refine ⟨a', c', w', k1, ⟨⟨?_, h.out.2.trans k3 (fun i hi => .inr (h.new i hi))⟩, k2, fun k hk => ?_⟩⟩
  · have o := h.out.1
    refine ⟨?_, Rd.apart h0.rd o.rd k3 h.new rfl, o.ne, o.byte, o.le, o.room, o.nx, o.fr⟩
    rw [k3.block r o.lt (fun e => by have := h.new r e; omega)]
    exact o.obj
  · rcases k4 k hk with h' | h'
    · exact h.new k h'
    · have := h.out.2.size
      omega
end
end Go.Proofs.YtmjokinagbpihaaDoor
