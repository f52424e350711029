/- What is wrong with labels: table's May and the document's. -/
import Derived.Test.YtmjokinagbpihaaDoorQW3
namespace Go.Proofs.YtmjokinagbpihaaDoor
open Go.RowKit

/-- Labels as cells. -/
def labC (l : List Nat) : List Value := l.map fun n : Nat => Value.int .u64 (n : Int)
theorem labC_len (l : List Nat) : (labC l).length = l.length * 1 := by simp [labC]
theorem labC_at (l : List Nat) (k : Nat) (h : k < l.length) : (labC l)[k]? = some (.int .u64 ((l.getD k 0 : Nat) : Int)) := by simp [labC, List.getD_eq_getElem?_getD, List.getElem?_eq_getElem h]
theorem labC_one (l : List Nat) : ∀ u ∈ labC l, u.oneCell' = true := by
  intro u hu
  obtain ⟨x, _, rfl⟩ := List.mem_map.mp hu
  rfl
theorem labC_app (l m : List Nat) : labC l ++ labC m = labC (l ++ m) := by simp [labC]
theorem rd_lab {w : World} {a : Option Addr} {l : List Nat} (h : Rd w a (labC l)) (hl : 0 < l.length) : ∃ b off, a = some ⟨b, off, none⟩ ∧ ∀ i, i < l.length → w.cell? ⟨b, off + i, none⟩ = some (.int .u64 ((l.getD i 0 : Nat) : Int)) := by
  obtain ⟨b, o, rfl, _⟩ := h 0 _ (labC_at l 0 hl)
  refine ⟨b, o, rfl, fun i hi => ?_⟩
  obtain ⟨b', o', e, hc⟩ := h i _ (labC_at l i hi)
  cases e
  exact hc

theorem lb_same {l : List Nat} {k : Nat} (_h1 : 1 ≤ k) (h : k < l.length) (e : l.getD k 0 = l.getD (k - 1) 0) : lbFrom l (l.length - k) k = (8, k) := by
  rw [show l.length - k = (l.length - (k + 1)) + 1 by omega, lbFrom, if_pos e]
theorem lb_less {l : List Nat} {k : Nat} (_h1 : 1 ≤ k) (h : k < l.length) (e : l.getD k 0 < l.getD (k - 1) 0) : lbFrom l (l.length - k) k = (7, k) := by
  rw [show l.length - k = (l.length - (k + 1)) + 1 by omega, lbFrom, if_neg (by omega), if_pos e]
theorem lb_next {l : List Nat} {k : Nat} (_h1 : 1 ≤ k) (h : k < l.length) (e : l.getD (k - 1) 0 < l.getD k 0) : lbFrom l (l.length - k) k = lbFrom l (l.length - (k + 1)) (k + 1) := by
  rw [show l.length - k = (l.length - (k + 1)) + 1 by omega, lbFrom, if_neg (by omega), if_neg (by omega)]
theorem lb_start {l : List Nat} (h0 : l.length ≠ 0) (h8 : l.length ≤ 8) : lbL l = lbFrom l (l.length - 1) 1 := by
  unfold lbL
  rw [if_neg h0, if_neg (by omega)]

set_option maxRecDepth 100000 in
set_option maxHeartbeats 2000000 in
theorem tmay_any (a : Option Addr) (cap : Nat) (l : List Nat) (w : World) (hC : Rd w a (labC l)) :
    Calls Tryd.prog 26 #[.slice a l.length cap] w fun e w' => e = .returned (.tuple #[.int .i64 (lbL l).1, .int .i64 (lbL l).2]) ∧ ∃ n, w' = w.drewN n := by
  by_cases h0 : l.length = 0
  · have e1 : lbL l = (1, 0) := by unfold lbL; rw [if_pos h0]
    rw [e1]
    have h0' : ((l.length : Int) == 0) = true := by rw [beq_iff_eq]; omega
    clear h0 e1 hC
    generalize l.length = len at *
    go_enter Tryd.func26, Tryd.ntmps26
    go_wp2
    go_ret2
    exact ⟨rfl, 0, rfl⟩
  · by_cases h8 : 8 < l.length
    · have e1 : lbL l = (3, 8) := by unfold lbL; rw [if_neg h0, if_pos h8]
      rw [e1]
      have h0' : ((l.length : Int) == 0) = false := by rw [beq_eq_false_iff_ne]; omega
      have h8' : (8 : Int) < (l.length : Int) := by omega
      clear h0 e1 hC h8
      generalize l.length = len at *
      go_enter Tryd.func26, Tryd.ntmps26
      go_wp2
      go_ret2
      exact ⟨rfl, 0, rfl⟩
    · have hS : Hid (lbL l = lbFrom l (l.length - 1) 1) := lb_start h0 (by omega)
      obtain ⟨b, off, rfl, hc⟩ := rd_lab hC (by omega)
      replace hc := hd hc
      clear hC
      have h0' : ((l.length : Int) == 0) = false := by rw [beq_eq_false_iff_ne]; omega
      have h8' : (l.length : Int) ≤ 8 := by omega
      have h8d : decide ((8 : Int) < (l.length : Int)) = false := by simp; omega
      go_enter Tryd.func26, Tryd.ntmps26
      go_wp2
      go_loopw [4] (fun i wr => ∃ k : Nat, 1 ≤ k ∧ k ≤ l.length ∧ i = .int .i64 k ∧ Hid (lbL l = lbFrom l (l.length - k) k) ∧ ∃ n, wr = w.drewN n) (fun i _ => l.length - (intOf i).toNat)
      case atStart => exact ⟨1, by omega, by omega, rfl, hS, 0, rfl⟩
      case round =>
        obtain ⟨k, hk1, hk, rfl, hm, n, rfl⟩ := hrel
        by_cases hlt : k < l.length
        · have hx : w.cell? ⟨b, off + k, none⟩ = some (.int .u64 (l.getD k 0 : Nat)) := hc.out k hlt
          have hy : w.cell? ⟨b, off + (k - 1), none⟩ = some (.int .u64 (l.getD (k - 1) 0 : Nat)) := hc.out (k - 1) (by omega)
          have hlt' : (k : Int) < (l.length : Int) := by omega
          have hk1' : (1 : Int) ≤ (k : Int) := by omega
          rcases Nat.lt_trichotomy (l.getD k 0) (l.getD (k - 1) 0) with hcmp | hcmp | hcmp
          · have H : Hid (lbL l = (7, k)) := hm.out.trans (lb_less hk1 hlt hcmp)
            clear hm hS
            generalize l.getD k 0 = x at *
            generalize l.getD (k - 1) 0 = y at *
            have t1 : ((x : Int) == (y : Int)) = false := by simp; omega
            have t2 : (x : Int) < (y : Int) := by omega
            clear hcmp
            go_wp2_with fail
            go_quiet (fail)
            go_wp2_with fail
            go_quiet (fail)
            go_wp2
            go_ret2
            exact ⟨by rw [H.out]; rfl, by simp only [World.drewN_drewN]; exact ⟨_, rfl⟩⟩
          · have H : Hid (lbL l = (8, k)) := hm.out.trans (lb_same hk1 hlt hcmp)
            clear hm hS
            generalize l.getD k 0 = x at *
            generalize l.getD (k - 1) 0 = y at *
            have t1 : ((x : Int) == (y : Int)) = true := by simp; omega
            clear hcmp
            go_wp2_with fail
            go_quiet (fail)
            go_wp2
            go_ret2
            exact ⟨by rw [H.out]; rfl, by simp only [World.drewN_drewN]; exact ⟨_, rfl⟩⟩
          · have H : Hid (lbL l = lbFrom l (l.length - (k + 1)) (k + 1)) := hm.out.trans (lb_next hk1 hlt hcmp)
            clear hm hS
            generalize l.getD k 0 = x at *
            generalize l.getD (k - 1) 0 = y at *
            have t1 : ((x : Int) == (y : Int)) = false := by simp; omega
            have t2 : decide ((x : Int) < (y : Int)) = false := by simp; omega
            have t3 : (y : Int) ≤ (x : Int) := by omega
            clear hcmp
            go_wp2_with fail
            go_quiet (fail)
            go_wp2_with fail
            go_quiet (fail)
            go_wp2
            exact ⟨⟨k + 1, by omega, by omega, by go_num, H, _, rfl⟩, by simp [intOf]; omega⟩
        · have e : k = l.length := by omega
          have H : Hid (lbL l = (0, 0)) := by show _ = _; rw [hm.out, e, Nat.sub_self]; rfl
          clear hm hS
          have hlt' : decide ((k : Int) < (l.length : Int)) = false := by simp; omega
          have hge : (l.length : Int) ≤ (k : Int) := by omega
          go_wp2
          go_ret2
          exact ⟨by rw [H.out]; rfl, n, rfl⟩

set_option maxRecDepth 100000 in
set_option maxHeartbeats 2000000 in
theorem rtmay_any (a : Option Addr) (cap : Nat) (l : List Nat) (w : World) (hC : Rd w a (labC l)) :
    Calls Tryd.prog 32 #[.slice a l.length cap] w fun e w' => e = .returned (.tuple #[.int .i64 (lbL l).1, .int .i64 (lbL l).2]) ∧ ∃ n, w' = w.drewN n := by
  by_cases h0 : l.length = 0
  · have e1 : lbL l = (1, 0) := by unfold lbL; rw [if_pos h0]
    rw [e1]
    have h0' : ((l.length : Int) == 0) = true := by rw [beq_iff_eq]; omega
    clear h0 e1 hC
    generalize l.length = len at *
    go_enter Tryd.func32, Tryd.ntmps32
    go_wp2
    go_ret2
    exact ⟨rfl, 0, rfl⟩
  · by_cases h8 : 8 < l.length
    · have e1 : lbL l = (3, 8) := by unfold lbL; rw [if_neg h0, if_pos h8]
      rw [e1]
      have h0' : ((l.length : Int) == 0) = false := by rw [beq_eq_false_iff_ne]; omega
      have h8' : (8 : Int) < (l.length : Int) := by omega
      clear h0 e1 hC h8
      generalize l.length = len at *
      go_enter Tryd.func32, Tryd.ntmps32
      go_wp2
      go_ret2
      exact ⟨rfl, 0, rfl⟩
    · have hS : Hid (lbL l = lbFrom l (l.length - 1) 1) := lb_start h0 (by omega)
      obtain ⟨b, off, rfl, hc⟩ := rd_lab hC (by omega)
      replace hc := hd hc
      clear hC
      have h0' : ((l.length : Int) == 0) = false := by rw [beq_eq_false_iff_ne]; omega
      have h8' : (l.length : Int) ≤ 8 := by omega
      have h8d : decide ((8 : Int) < (l.length : Int)) = false := by simp; omega
      go_enter Tryd.func32, Tryd.ntmps32
      go_wp2
      go_loopw [4] (fun i wr => ∃ k : Nat, 1 ≤ k ∧ k ≤ l.length ∧ i = .int .i64 k ∧ Hid (lbL l = lbFrom l (l.length - k) k) ∧ ∃ n, wr = w.drewN n) (fun i _ => l.length - (intOf i).toNat)
      case atStart => exact ⟨1, by omega, by omega, rfl, hS, 0, rfl⟩
      case round =>
        obtain ⟨k, hk1, hk, rfl, hm, n, rfl⟩ := hrel
        by_cases hlt : k < l.length
        · have hx : w.cell? ⟨b, off + k, none⟩ = some (.int .u64 (l.getD k 0 : Nat)) := hc.out k hlt
          have hy : w.cell? ⟨b, off + (k - 1), none⟩ = some (.int .u64 (l.getD (k - 1) 0 : Nat)) := hc.out (k - 1) (by omega)
          have hlt' : (k : Int) < (l.length : Int) := by omega
          have hk1' : (1 : Int) ≤ (k : Int) := by omega
          rcases Nat.lt_trichotomy (l.getD k 0) (l.getD (k - 1) 0) with hcmp | hcmp | hcmp
          · have H : Hid (lbL l = (7, k)) := hm.out.trans (lb_less hk1 hlt hcmp)
            clear hm hS
            generalize l.getD k 0 = x at *
            generalize l.getD (k - 1) 0 = y at *
            have t1 : ((x : Int) == (y : Int)) = false := by simp; omega
            have t2 : (x : Int) < (y : Int) := by omega
            clear hcmp
            go_wp2_with fail
            go_quiet (fail)
            go_wp2_with fail
            go_quiet (fail)
            go_wp2
            go_ret2
            exact ⟨by rw [H.out]; rfl, by simp only [World.drewN_drewN]; exact ⟨_, rfl⟩⟩
          · have H : Hid (lbL l = (8, k)) := hm.out.trans (lb_same hk1 hlt hcmp)
            clear hm hS
            generalize l.getD k 0 = x at *
            generalize l.getD (k - 1) 0 = y at *
            have t1 : ((x : Int) == (y : Int)) = true := by simp; omega
            clear hcmp
            go_wp2_with fail
            go_quiet (fail)
            go_wp2
            go_ret2
            exact ⟨by rw [H.out]; rfl, by simp only [World.drewN_drewN]; exact ⟨_, rfl⟩⟩
          · have H : Hid (lbL l = lbFrom l (l.length - (k + 1)) (k + 1)) := hm.out.trans (lb_next hk1 hlt hcmp)
            clear hm hS
            generalize l.getD k 0 = x at *
            generalize l.getD (k - 1) 0 = y at *
            have t1 : ((x : Int) == (y : Int)) = false := by simp; omega
            have t2 : decide ((x : Int) < (y : Int)) = false := by simp; omega
            have t3 : (y : Int) ≤ (x : Int) := by omega
            clear hcmp
            go_wp2_with fail
            go_quiet (fail)
            go_wp2_with fail
            go_quiet (fail)
            go_wp2
            exact ⟨⟨k + 1, by omega, by omega, by go_num, H, _, rfl⟩, by simp [intOf]; omega⟩
        · have e : k = l.length := by omega
          have H : Hid (lbL l = (0, 0)) := by show _ = _; rw [hm.out, e, Nat.sub_self]; rfl
          clear hm hS
          have hlt' : decide ((k : Int) < (l.length : Int)) = false := by simp; omega
          have hge : (l.length : Int) ≤ (k : Int) := by omega
          go_wp2
          go_ret2
          exact ⟨by rw [H.out]; rfl, n, rfl⟩
end Go.Proofs.YtmjokinagbpihaaDoor

/- The reader's labels. -/
namespace Go.Proofs.YtmjokinagbpihaaDoor
open Go.RowKit

theorem lb_snoc_at (l : List Nat) (v : Nat) : ∀ m i, 1 ≤ i → i + m = l.length → (lbFrom l m i).1 = 0 → lbFrom (l ++ [v]) (m + 1) i = lbFrom (l ++ [v]) 1 l.length
  | 0, i, _, h, _ => by rw [show i = l.length by omega]
  | m + 1, i, h1, h, h0 => by
    have e1 : (l ++ [v]).getD i 0 = l.getD i 0 := by rw [List.getD_eq_getElem?_getD, List.getElem?_append_left (by omega), ← List.getD_eq_getElem?_getD]
    have e2 : (l ++ [v]).getD (i - 1) 0 = l.getD (i - 1) 0 := by rw [List.getD_eq_getElem?_getD, List.getElem?_append_left (by omega), ← List.getD_eq_getElem?_getD]
    rw [lbFrom] at h0
    rw [lbFrom, e1, e2]
    by_cases h2 : l.getD i 0 = l.getD (i - 1) 0
    · rw [if_pos h2] at h0
      simp at h0
    · rw [if_neg h2] at h0 ⊢
      by_cases h3 : l.getD i 0 < l.getD (i - 1) 0
      · rw [if_pos h3] at h0
        simp at h0
      · rw [if_neg h3] at h0 ⊢
        exact lb_snoc_at l v m (i + 1) (by omega) (by omega) h0

theorem lb_snoc (l : List Nat) (v : Nat) (h : l = [] ∨ (lbL l).1 = 0) (h8 : l.length < 8) : ((lbL (l ++ [v])).1 : Int) = labE l v := by
  have e0 : lbL (l ++ [v]) = lbFrom (l ++ [v]) l.length 1 := by
    rw [lb_start (by simp) (by simp; omega)]
    simp
  rw [e0]
  by_cases hl : l.length = 0
  · have : l = [] := List.eq_nil_of_length_eq_zero hl
    subst this
    rfl
  · have h0 : (lbFrom l (l.length - 1) 1).1 = 0 := by
      rcases h with rfl | h
      · simp at hl
      · rw [lb_start hl (by omega)] at h
        exact h
    have e1 := lb_snoc_at l v (l.length - 1) 1 (by omega) (by omega) h0
    rw [show l.length - 1 + 1 = l.length by omega] at e1
    have e2 : (l ++ [v]).getD l.length 0 = v := by simp
    have e3 : (l ++ [v]).getD (l.length - 1) 0 = l.getD (l.length - 1) 0 := by rw [List.getD_eq_getElem?_getD, List.getElem?_append_left (by omega), ← List.getD_eq_getElem?_getD]
    rw [e1, lbFrom, e2, e3]
    unfold labE
    rw [if_neg hl]
    by_cases h2 : v = l.getD (l.length - 1) 0
    · rw [if_pos h2, if_pos h2]; rfl
    · rw [if_neg h2, if_neg h2]
      by_cases h3 : v < l.getD (l.length - 1) 0
      · rw [if_pos h3, if_pos h3]; rfl
      · rw [if_neg h3, if_neg h3]; rfl

/-- One more of a row of whatever, as append leaves it. -/
theorem push_any {T e : TypeId} {z : Value} {size bytes : Nat} (hu : Tryd.prog.underlying T = some (.slice e)) (hinfo : (Tryd.prog.info? e).map (fun i => (i.zero, i.size, i.bytes)) = some (some z, size, bytes)) (hzs : z.cells.size = size) (hb64 : bytes ≤ 64)
    {w : World} {a : Option Addr} {n c : Nat} {xs : List Value} (hR : Row w e size a n c xs) (hn : n ≤ 1000000000000) (us : List Value) (hus : us.length = size) (h1 : ∀ u ∈ us, u.oneCell' = true) :
    ∃ a' c' w', (∀ ty, (Builtin.append_ #[T, T] ty #[.slice a n c, .slice (some ⟨w.heap.size, 0, none⟩) 1 1]).run Tryd.prog (w.alloc (.cells us.toArray e)) = .ok (.slice a' (n + 1) c') w') ∧
      Row w' e size a' (n + 1) c' (xs ++ us) ∧ Mod (fun k => blk a = some k) w w' ∧ (∀ k, blk a' = some k → blk a = some k ∨ w.heap.size ≤ k) := by
  obtain ⟨i, k1, k2, k3, k4⟩ := info_parts hinfo
  have hb := below_al w (.cells us.toArray e)
  have hh := heap_alloc_new w (.cells us.toArray e)
  have hs : Src Tryd.prog size T (.slice (some ⟨w.heap.size, 0, none⟩) 1 1) 1 us (w.alloc (.cells us.toArray e)) := by
    refine Src.ofSlice _ hu _ _ _ _ (by omega) (fun j u hj => ?_) h1
    rw [addr_add, cell_of_row _ _ _ _ _ _ hh, Nat.zero_add]
    simpa using hj
  obtain ⟨a', c', w', m1, m2, m3, m4, _⟩ := run_append_row (P := Tryd.prog) _ T e i _ size bytes hu k1 k2 k3 k4 hzs (hR.below hb) _ 1 _ hs (by unfold maxLen; omega) (by
    have : (n + 1) * bytes ≤ (n + 1) * 64 := Nat.mul_le_mul_left _ hb64
    omega)
  refine ⟨a', c', w', m1, m2, (Mod.of_below _ hb).trans m3 (fun _ h => .inl h), fun k hk => ?_⟩
  rcases m4 k hk with h | h
  · exact .inl h
  · exact .inr (by have := hb.size; omega)

/-- At an append whose run is known. -/
theorem wpList_append_run {P : Program} {w : World} {ops : Array Oper} {rest : List Oper} {o : Oper} {a : Act} {Q : Exit → Act → World → Prop} (hgd : o.guard = none) (s x : Operand) (t : TypeId)
    (ho : o.op = .call { callee := .builtin .append, args := #[s, x], argTypes := #[t, t] }) (v vx v' : Value) (w' : World) (hs : a.eval s = v) (hx : a.eval x = vx)
    (hrun : ∀ ty, (Builtin.append_ #[t, t] ty #[v, vx]).run P w = .ok v' w') (h : wpList P ops Q rest (a.put o.dst v') w') : wpList P ops Q (o :: rest) a w :=
  wpList_plain hgd fun K hK => by
    unfold Oper.wp execOp
    simp only [ho, resolve, invoke, builtin, Sem.run_bind, Sem.run_pure, Result.andThen_ok, List.map_toArray, List.map_cons, List.map_nil, hs, hx, hrun]
    exact hK _ _ h
theorem step_append_run {P : Program} {w : World} {ops : Array Oper} {o : Oper} {a : Act} {K : Act → World → Prop} {Q : Exit → Act → World → Prop} {E : Prop} (hgd : o.guard = none) (s x : Operand) (t : TypeId)
    (ho : o.op = .call { callee := .builtin .append, args := #[s, x], argTypes := #[t, t] }) (v vx v' : Value) (w' : World) (hs : a.eval s = v) (hx : a.eval x = vx)
    (hrun : ∀ ty, (Builtin.append_ #[t, t] ty #[v, vx]).run P w = .ok v' w') (h : K (a.put o.dst v') w') : if Region.wanted o (yielded ops a.tmps) = true then Oper.wp P o a w K Q else E := by
  have hw : Region.wanted o (yielded ops a.tmps) = true := by simp [Region.wanted, hgd]
  rw [if_pos hw]
  unfold Oper.wp execOp
  simp only [ho, resolve, invoke, builtin, Sem.run_bind, Sem.run_pure, Result.andThen_ok, List.map_toArray, List.map_cons, List.map_nil, hs, hx, hrun]
  exact h

theorem info_u64 : (Tryd.prog.info? 65).map (fun i => (i.zero, i.size, i.bytes)) = some (some (.int .u64 0), 1, 8) := by kernel_rfl
theorem info_int : (Tryd.prog.info? 3).map (fun i => (i.zero, i.size, i.bytes)) = some (some (.int .i64 0), 1, 8) := by kernel_rfl
theorem info_insn : (Tryd.prog.info? 71).map (fun i => (i.zero, i.size, i.bytes)) = some (some (.agg #[.int .i64 0, .int .i64 0, .int .i64 0, .int .i64 0, .int .i64 0]), 5, 40) := by kernel_rfl
theorem info_proc : (Tryd.prog.info? 42).map (fun i => (i.zero, i.size, i.bytes)) = some (some (.agg #[.int .i64 0, .slice none 0 0]), 2, 32) := by kernel_rfl

/-- A row of the call's own that is being made beside the reader. -/
structure MkI (w : World) (r : Nat) (a : Option Addr) (cap : Nat) (bs : List Nat) (s : St) (wr : World) (e size : Nat) (a1 : Option Addr) (n c1 : Nat) (xs : List Value) : Prop where
  out : ROut w r a cap bs s wr
  row : Row wr e size a1 n c1 xs
  new : ∀ k, blk a1 = some k → w.heap.size ≤ k

section
variable {w wr w1 : World} {r : Nat} {a : Option Addr} {cap : Nat} {bs : List Nat} {s s' : St} {e size n c1 : Nat} {a1 : Option Addr} {xs : List Value}
theorem RdAt.alt (h : RdAt w r a cap bs s) : ∀ k, blk a = some k → k < w.heap.size ∨ bs.length = 0 := fun k hk => by
  by_cases hb : bs.length = 0
  · exact .inr hb
  · obtain ⟨b, o, rfl, hc⟩ := h.at 0 (by omega)
    cases hk
    exact .inl (World.block_lt_of_cell? w _ hc)
theorem MkI.step (h : MkI w r a cap bs s wr e size a1 n c1 xs) (hr : r < w.heap.size) (o : ROut wr r a cap bs s' w1) : MkI w r a cap bs s' w1 e size a1 n c1 xs :=
  ⟨h.out.trans o, h.row.mod o.2 (fun k hk e => by have := h.new k hk; omega), h.new⟩
theorem MkI.after (h : MkI w r a cap bs s wr e size a1 n c1 xs) (hb : Below wr.heap.size wr w1) : MkI w r a cap bs s w1 e size a1 n c1 xs :=
  ⟨h.out.after hb, h.row.below hb, h.new⟩
theorem Rd.apart {S : Nat → Prop} {B : Nat} {w w' w0 : World} {a : Option Addr} {xs : List Value} (h0 : Rd w0 a xs) (h : Rd w a xs) (hm : Mod S w w') (hs : ∀ k, S k → B ≤ k) (hB : B = w0.heap.size) : Rd w' a xs := fun j u hj => by
  obtain ⟨b, o, rfl, hc⟩ := h j u hj
  obtain ⟨b', o', e, hc0⟩ := h0 j u hj
  cases e
  have hl := World.block_lt_of_cell? w0 _ hc0
  refine ⟨b, o, rfl, ?_⟩
  rw [hm.cell (p := ⟨b, o + j, none⟩) (World.block_lt_of_cell? w _ hc) (fun k => by have := hs _ k; simp only at this hl; omega)]
  exact hc
theorem MkI.push {T : TypeId} {z : Value} {bytes : Nat} (h : MkI w r a cap bs s wr e size a1 n c1 xs) (h0 : RdAt w r a cap bs s') (hu : Tryd.prog.underlying T = some (.slice e)) (hinfo : (Tryd.prog.info? e).map (fun i => (i.zero, i.size, i.bytes)) = some (some z, size, bytes)) (hzs : z.cells.size = size) (hb64 : bytes ≤ 64)
    (hn : n ≤ 1000000000000) (us : List Value) (hus : us.length = size) (h1 : ∀ u ∈ us, u.oneCell' = true) :
    ∃ a' c' w', (∀ ty, (Builtin.append_ #[T, T] ty #[.slice a1 n c1, .slice (some ⟨wr.heap.size, 0, none⟩) 1 1]).run Tryd.prog (wr.alloc (.cells us.toArray e)) = .ok (.slice a' (n + 1) c') w') ∧ MkI w r a cap bs s w' e size a' (n + 1) c' (xs ++ us) := by
  obtain ⟨a', c', w', k1, k2, k3, k4⟩ := push_any hu hinfo hzs hb64 h.row hn us hus h1
  have hr := h0.lt
  refine ⟨a', c', w', k1, ⟨⟨?_, h.out.2.trans k3 (fun i hi => .inr (h.new i hi))⟩, k2, fun k hk => ?_⟩⟩
  · have o := h.out.1
    refine ⟨?_, Rd.apart h0.rd o.rd k3 h.new rfl, o.ne, o.byte, o.le, o.room, o.nx, o.fr⟩
    rw [k3.block r o.lt (fun e => by have := h.new r e; omega)]
    exact o.obj
  · rcases k4 k hk with h' | h'
    · exact h.new k h'
    · have := h.out.2.size
      omega
end
end Go.Proofs.YtmjokinagbpihaaDoor

/- The reader's labels: the walk. -/
namespace Go.Proofs.YtmjokinagbpihaaDoor
open Go.RowKit

def labI (w : World) (r : Nat) (a : Option Addr) (cap : Nat) (bs : List Nat) (p n : Nat) (wr : World) (a1 : Option Addr) (c1 : Nat) (l : List Nat) (s : St) : Prop :=
  MkI w r a cap bs s wr 65 1 a1 l.length c1 (labC l) ∧ Stage (labP bs p) s (repP (fun acc => numP 8 (labE acc)) (n - l.length) l bs s.nx) ∧ (s.e = 0 → n ≤ 8 ∧ (l = [] ∨ (lbL l).1 = 0))

theorem numS_lt8 {bs : List Nat} {s : St} (hb : Byte bs) : (numS bs 8 s).1 < 18446744073709551616 := by
  unfold numS
  split
  · simp
  · split
    · simp
    · exact sum_lt8 (j := 8) (sumB_lt bs s.nx hb 8) (by omega)

/-- How labels are left. -/
def labOut (w : World) (r : Nat) (a : Option Addr) (cap : Nat) (bs : List Nat) (p : Nat) (a1 : Option Addr) (c1 : Nat) (l : List Nat) (w' : World) : Prop :=
  ∃ s, MkI w r a cap bs s w' 65 1 a1 l.length c1 (labC l) ∧ Stage (labP bs p) s (pure_ l bs s.nx) ∧ l.length ≤ 255

section
variable {w : World} {r : Nat} {a : Option Addr} {cap : Nat} {bs : List Nat} {s : St}
set_option maxRecDepth 100000 in
set_option maxHeartbeats 4000000 in
theorem labels_any (h : RdAt w r a cap bs s) (h0 : s.e = 0 ∧ s.at_ = 0) :
    Calls Tryd.prog 54 #[.pointer (some ⟨r, 0, none⟩)] w fun e w' => ∃ a1 c1 l, e = .returned (.slice a1 (List.length l) c1) ∧ labOut w r a cap bs s.nx a1 c1 l w' := by
  have hc := count_any h 8
  have hlt := numS_lt (s := s) h.byte 1 (by omega)
  have H := hd h
  have HI : Hid (∀ W, ROut w r a cap bs (chkS bs 1 (fun n => cntE 8 n) s).2 W → labI w r a cap bs s.nx (chkS bs 1 (fun n => cntE 8 n) s).1 W none 0 [] (chkS bs 1 (fun n => cntE 8 n) s).2) := hd (by
    intro W o
    refine ⟨⟨o, Row.nil, fun k hk => by cases hk⟩, ?_, fun hz => ⟨?_, .inl rfl⟩⟩
    · exact Stage.chk (g := fun n => repP (fun acc => numP 8 (labE acc)) n []) (.inl ⟨h0.1, h0.2, rfl⟩)
    · have := cnt_len (chk_val hz).2.1
      omega)
  have hn255 : (chkS bs 1 (fun n => cntE 8 n) s).1 ≤ 255 := by
    unfold chkS numS
    split
    · simp
    · split
      · simp
      · have := sumB_lt bs s.nx h.byte 1
        simp only
        omega
  clear h h0 hlt
  generalize (chkS bs 1 (fun n => cntE 8 n) s).1 = n at *
  generalize (chkS bs 1 (fun n => cntE 8 n) s).2 = s1 at *
  generalize s.nx = p at *
  go_enter Tryd.func54, Tryd.ntmps54
  go_upto_block 0 with (go_at_call 57; refine hc.mono ?_; rintro e w1 ⟨rfl, ho⟩)
  have HJ := hd (HI.out _ ho)
  clear HI hc ho
  go_wp2_with fail
  go_loopg [3, 5, 6, 9, 10, 11, 12, 13, 14, 15, 16, 17, 18, 19, 20, 21, 22, 23, 24, 25, 26, 27, 28, 29, 30, 31, 32, 33, 34] n (fun g v3 v5 v6 v9 v10 v11 v12 v13 v14 v15 v16 v17 v18 v19 v20 v21 v22 v23 v24 v25 v26 v27 v28 v29 v30 v31 v32 v33 v34 wr => ∃ (l : List Nat) (len : Nat) (a1 : Option Addr) (c1 : Nat) (s' : St), v3 = .slice a1 len c1 ∧ len + g = n ∧ Hid (l.length = len) ∧ Hid (labI w r a cap bs p n wr a1 c1 l s'))
  case atStart => exact ⟨[], 0, none, 0, s1, rfl, by omega, hd rfl, HJ⟩
  case round =>
    clear HJ
    obtain ⟨l, len, a1, c1, s', rfl, hlen, HL, HW⟩ := hrel
    by_cases h0 : gk = 0
    · subst h0
      have hge : decide ((len : Int) < (n : Int)) = false := by simp; omega
      have hge' : (n : Int) ≤ (len : Int) := by omega
      have HE : Hid (∃ l', Ending.returned (.slice a1 len c1) = .returned (.slice a1 (List.length l') c1) ∧ labOut w r a cap bs p a1 c1 l' wr) := hd (by
        refine ⟨l, by rw [HL.out], s', HW.out.1, ?_, by have := HL.out; omega⟩
        have := HW.out.2.1
        rw [show n - l.length = 0 by have := HL.out; omega] at this
        exact this)
      clear HW HL
      go_wp2_with fail
      go_ret
      obtain ⟨l', h1, h2⟩ := HE.out
      exact ⟨a1, c1, l', h1, h2⟩
    · have hlt : (len : Int) < (n : Int) := by omega
      by_cases hz : s'.e = 0
      · have hf := failed_any HW.out.1.out.1 false (by simp [hz])
        have hnum := rnum_any HW.out.1.out.1 8 ⟨by omega, by omega⟩
        have hu := numS_lt8 (s := s') HW.out.1.out.1.byte
        have HP : Hid (∀ W, ROut wr r a cap bs (numS bs 8 s').2 W → ∃ a' c' w', (∀ ty, (Builtin.append_ #[23, 23] ty #[.slice a1 len c1, .slice (some ⟨W.heap.size, 0, none⟩) 1 1]).run Tryd.prog (W.alloc (.cells #[.int .u64 ((numS bs 8 s').1 : Nat)] 65)) = .ok (.slice a' (len + 1) c') w') ∧ MkI w r a cap bs (numS bs 8 s').2 w' 65 1 a' (len + 1) c' (labC (l ++ [(numS bs 8 s').1]))) := hd (by
          intro W o
          have h1 := HW.out.1.step H.out.lt o
          rw [HL.out] at h1
          obtain ⟨a', c', w', k1, k2⟩ := h1.push H.out Tryd.underlying23 info_u64 rfl (by omega) (by omega) [.int .u64 ((numS bs 8 s').1 : Nat)] rfl (labC_one [(numS bs 8 s').1])
          refine ⟨a', c', w', k1, ?_⟩
          rw [← labC_app]
          exact k2)
        have HN : Hid (∀ (W W2 : World) a' c', MkI w r a cap bs (numS bs 8 s').2 W 65 1 a' (len + 1) c' (labC (l ++ [(numS bs 8 s').1])) → ROut W r a cap bs (failS (numS bs 8 s').2 ((lbL (l ++ [(numS bs 8 s').1])).1 : Nat) (numS bs 8 s').2.fr) W2 → ∃ s'', labI w r a cap bs p n W2 a' c' (l ++ [(numS bs 8 s').1]) s'') := hd (by
          intro W W2 a' c' hm o
          have hg := HW.out.2.2 hz
          have hll := HL.out
          rw [lb_snoc l _ hg.2 (by omega)] at o
          have hst := HW.out.2.1
          rw [show n - l.length = (n - (l.length + 1)) + 1 by omega] at hst
          have h2 := Stage.chk hst
          refine ⟨(chkS bs 8 (labE l) s').2, ?_, ?_, ?_⟩
          · have := hm.step H.out.lt o
            rw [← hll, show l.length + 1 = (l ++ [(numS bs 8 s').1]).length by simp] at this
            exact this
          · rw [show n - (l ++ [(numS bs 8 s').1]).length = n - (l.length + 1) by simp]
            exact h2
          · intro hz2
            refine ⟨hg.1, .inr ?_⟩
            have h3 := (chk_val hz2).2.1
            have h4 := lb_snoc l (numS bs 8 s').1 hg.2 (by omega)
            have h5 : (chkS bs 8 (labE l) s').1 = (numS bs 8 s').1 := rfl
            rw [h5] at h3
            omega)
        clear HW h0 hz
        have HM : Hid (∀ (W : World) a' c', MkI w r a cap bs (numS bs 8 s').2 W 65 1 a' (len + 1) c' (labC (l ++ [(numS bs 8 s').1])) → Calls Tryd.prog 26 #[.slice a' (len + 1 : Nat) c'] W fun e w' => e = .returned (.tuple #[.int .i64 ((lbL (l ++ [(numS bs 8 s').1])).1 : Nat), .int .i64 ((lbL (l ++ [(numS bs 8 s').1])).2 : Nat)]) ∧ ∃ n, w' = W.drewN n) := hd (by
          intro W a' c' hm
          have := tmay_any a' c' (l ++ [(numS bs 8 s').1]) W hm.row.rd
          rw [show (l ++ [(numS bs 8 s').1]).length = len + 1 by simp [HL.out]] at this
          exact this)
        have HLL := HL
        clear HL
        generalize (numS bs 8 s').1 = v at *
        generalize (numS bs 8 s').2 = s2 at *
        generalize (lbL (l ++ [v])).1 = E at *
        generalize (lbL (l ++ [v])).2 = F at *
        go_upto_region 4 with (go_at_call 53; refine hf.mono ?_; rintro e w1 ⟨rfl, rfl⟩)
        go_upto_region 5 with (first | (go_at_call 69; refine hnum.mono ?_; rintro e w2 ⟨rfl, ho⟩; obtain ⟨a', c', w3, hap, hm⟩ := HP.out w2 ho; replace hap := hd hap) | (at_builtin; refine wpList_append_run rfl _ _ _ rfl _ _ _ _ rfl rfl hap.out ?_; clear hap))
        have hmay := HM.out w3 a' c' hm
        have HM3 := hd hm
        clear HM HP hnum hm
        go_upto_region 6 with (go_at_call 26; refine hmay.mono ?_; rintro e w4 ⟨rfl, hw4⟩; replace hw4 := hd hw4)
        have hm4 : MkI w r a cap bs s2 w4 65 1 a' (len + 1) c' (labC (l ++ [v])) := by
          obtain ⟨nn, e4⟩ := hw4.out
          rw [e4]
          exact HM3.out.after (below_draw w3 nn)
        have k1 := hm4.out.1.cells.2.1
        have hfail := fail_any hm4.out.1 (E : Int) s2.fr
        have HM4 := hd hm4
        clear hm4 hw4 HM3 hmay
        go_wp2_with (go_at_call 68; refine hfail.mono ?_; rintro e w5 ⟨rfl, ho5⟩)
        obtain ⟨s'', hI⟩ := HN.out w4 w5 a' c' HM4.out ho5
        go_roundg (gk - 1)
        case rel => exact ⟨l ++ [v], len + 1, a', c', s'', rfl, by omega, hd (by rw [← HLL.out]; simp), hI⟩
        case measure => omega
      · have hf := failed_any HW.out.1.out.1 true (by simp [hz])
        have HE : Hid (∃ l', Ending.returned (.slice a1 len c1) = .returned (.slice a1 (List.length l') c1) ∧ labOut w r a cap bs p a1 c1 l' wr) := hd (by
          refine ⟨l, by rw [HL.out], s', HW.out.1, ?_, by have := HL.out; omega⟩
          exact .inr ⟨hz, HW.out.2.1.bad hz⟩)
        clear HW HL h0 hz
        go_wp2_with (go_at_call 53; refine hf.mono ?_; rintro e w1 ⟨rfl, rfl⟩)
        go_ret
        obtain ⟨l', h1, h2⟩ := HE.out
        exact ⟨a1, c1, l', h1, h2⟩
end
end Go.Proofs.YtmjokinagbpihaaDoor

/- The reader's table. -/
namespace Go.Proofs.YtmjokinagbpihaaDoor
open Go.RowKit

/-- Numbers as cells. -/
def natC (l : List Nat) : List Value := l.map fun n : Nat => Value.int .i64 (n : Int)
theorem natC_one (l : List Nat) : ∀ u ∈ natC l, u.oneCell' = true := by
  intro u hu
  obtain ⟨x, _, rfl⟩ := List.mem_map.mp hu
  rfl
theorem natC_app (l m : List Nat) : natC l ++ natC m = natC (l ++ m) := by simp [natC]

def tabI (w : World) (r : Nat) (a : Option Addr) (cap : Nat) (bs : List Nat) (P p n : Nat) (wr : World) (a1 : Option Addr) (c1 : Nat) (l : List Nat) (s : St) : Prop :=
  MkI w r a cap bs s wr 3 1 a1 l.length c1 (natC l) ∧ Stage (tabP P bs p) s (repP (fun _ => ptP P) (n - l.length) l bs s.nx)

/-- How a table is left. -/
def tabOut (w : World) (r : Nat) (a : Option Addr) (cap : Nat) (bs : List Nat) (P p : Nat) (a1 : Option Addr) (c1 : Nat) (l : List Nat) (w' : World) : Prop :=
  ∃ s, MkI w r a cap bs s w' 3 1 a1 l.length c1 (natC l) ∧ Stage (tabP P bs p) s (pure_ l bs s.nx) ∧ l.length ≤ 255

theorem chk_le255 {bs : List Nat} {s : St} {f : Nat → Int} (hb : Byte bs) : (chkS bs 1 f s).1 ≤ 255 := by
  unfold chkS numS
  split
  · simp
  · split
    · simp
    · have := sumB_lt bs s.nx hb 1
      simp only
      omega

section
variable {w : World} {r : Nat} {a : Option Addr} {cap : Nat} {bs : List Nat} {s : St}
set_option maxRecDepth 100000 in
set_option maxHeartbeats 4000000 in
theorem table_any (h : RdAt w r a cap bs s) (h0 : s.e = 0 ∧ s.at_ = 0) (P : Nat) (hP : P ≤ 1000000) :
    Calls Tryd.prog 55 #[.pointer (some ⟨r, 0, none⟩), .int .i64 P] w fun e w' => ∃ a1 c1 l, e = .returned (.slice a1 (List.length l) c1) ∧ tabOut w r a cap bs P s.nx a1 c1 l w' := by
  have hc := count_any h 64
  have H := hd h
  have HI : Hid (∀ W, ROut w r a cap bs (chkS bs 1 (fun n => cntE 64 n) s).2 W → tabI w r a cap bs P s.nx (chkS bs 1 (fun n => cntE 64 n) s).1 W none 0 [] (chkS bs 1 (fun n => cntE 64 n) s).2) := hd (by
    intro W o
    refine ⟨⟨o, Row.nil, fun k hk => by cases hk⟩, ?_⟩
    exact Stage.chk (g := fun n => repP (fun _ => ptP P) n []) (.inl ⟨h0.1, h0.2, rfl⟩))
  have hn255 : (chkS bs 1 (fun n => cntE 64 n) s).1 ≤ 255 := chk_le255 h.byte
  clear h h0
  generalize (chkS bs 1 (fun n => cntE 64 n) s).1 = n at *
  generalize (chkS bs 1 (fun n => cntE 64 n) s).2 = s1 at *
  generalize s.nx = p at *
  go_enter Tryd.func55, Tryd.ntmps55
  go_upto_block 0 with (go_at_call 57; refine hc.mono ?_; rintro e w1 ⟨rfl, ho⟩)
  have HJ := hd (HI.out _ ho)
  clear HI hc ho
  go_wp2_with fail
  go_loopg [5, 9, 10, 11, 12, 13, 14, 15, 16, 17, 18, 19, 20, 21, 22, 23] n (fun g v5 v9 v10 v11 v12 v13 v14 v15 v16 v17 v18 v19 v20 v21 v22 v23 wr => ∃ (l : List Nat) (len : Nat) (a1 : Option Addr) (c1 : Nat) (s' : St), v5 = .slice a1 len c1 ∧ len + g = n ∧ Hid (l.length = len) ∧ Hid (tabI w r a cap bs P p n wr a1 c1 l s'))
  case atStart => exact ⟨[], 0, none, 0, s1, rfl, by omega, hd rfl, HJ⟩
  case round =>
    clear HJ
    obtain ⟨l, len, a1, c1, s', rfl, hlen, HL, HW⟩ := hrel
    by_cases h0 : gk = 0
    · subst h0
      have hge : decide ((len : Int) < (n : Int)) = false := by simp; omega
      have hge' : (n : Int) ≤ (len : Int) := by omega
      have HE : Hid (∃ l', Ending.returned (.slice a1 len c1) = .returned (.slice a1 (List.length l') c1) ∧ tabOut w r a cap bs P p a1 c1 l' wr) := hd (by
        refine ⟨l, by rw [HL.out], s', HW.out.1, ?_, by have := HL.out; omega⟩
        have := HW.out.2
        rw [show n - l.length = 0 by have := HL.out; omega] at this
        exact this)
      clear HW HL
      go_wp2_with fail
      go_ret
      obtain ⟨l', h1, h2⟩ := HE.out
      exact ⟨a1, c1, l', h1, h2⟩
    · have hlt : (len : Int) < (n : Int) := by omega
      by_cases hz : s'.e = 0
      · have hf := failed_any HW.out.1.out.1 false (by simp [hz])
        have hnum := part_any HW.out.1.out.1 P hP
        have HP : Hid (∀ W, ROut wr r a cap bs (chkS bs 1 (fun n => rngE 0 ((P : Int) - 1) n) s').2 W → ∃ a' c' w', (∀ ty, (Builtin.append_ #[24, 24] ty #[.slice a1 len c1, .slice (some ⟨W.heap.size, 0, none⟩) 1 1]).run Tryd.prog (W.alloc (.cells #[.int .i64 ((chkS bs 1 (fun n => rngE 0 ((P : Int) - 1) n) s').1 : Nat)] 3)) = .ok (.slice a' (len + 1) c') w') ∧ ∃ s'', tabI w r a cap bs P p n w' a' c' (l ++ [(chkS bs 1 (fun n => rngE 0 ((P : Int) - 1) n) s').1]) s'') := hd (by
          intro W o
          have h1 := HW.out.1.step H.out.lt o
          rw [HL.out] at h1
          obtain ⟨a', c', w', k1, k2⟩ := h1.push H.out Tryd.underlying24 info_int rfl (by omega) (by omega) [.int .i64 ((chkS bs 1 (fun n => rngE 0 ((P : Int) - 1) n) s').1 : Nat)] rfl (natC_one [(chkS bs 1 (fun n => rngE 0 ((P : Int) - 1) n) s').1])
          refine ⟨a', c', w', k1, (chkS bs 1 (fun n => rngE 0 ((P : Int) - 1) n) s').2, ?_, ?_⟩
          · rw [← natC_app, show (l ++ [(chkS bs 1 (fun n => rngE 0 ((P : Int) - 1) n) s').1]).length = len + 1 by simp [HL.out]]
            exact k2
          · have hst := HW.out.2
            have hll := HL.out
            rw [show n - l.length = (n - (l.length + 1)) + 1 by omega] at hst
            rw [show n - (l ++ [(chkS bs 1 (fun n => rngE 0 ((P : Int) - 1) n) s').1]).length = n - (l.length + 1) by simp]
            exact Stage.chk hst)
        clear HW h0 hz
        generalize (chkS bs 1 (fun n => rngE 0 ((P : Int) - 1) n) s').1 = v at *
        generalize (chkS bs 1 (fun n => rngE 0 ((P : Int) - 1) n) s').2 = s2 at *
        go_wp2_with (first | (go_at_call 53; refine hf.mono ?_; rintro e w1 ⟨rfl, rfl⟩) | (go_at_call 58; refine hnum.mono ?_; rintro e w2 ⟨rfl, ho⟩; obtain ⟨a', c', w3, hap, s'', hI⟩ := HP.out w2 ho; replace hap := hd hap) | (at_builtin; refine wpList_append_run rfl _ _ _ rfl _ _ _ _ rfl rfl hap.out ?_; clear hap))
        go_roundg (gk - 1)
        case rel => exact ⟨l ++ [v], len + 1, a', c', s'', rfl, by omega, hd (by rw [← HL.out]; simp), hI⟩
        case measure => omega
      · have hf := failed_any HW.out.1.out.1 true (by simp [hz])
        have HE : Hid (∃ l', Ending.returned (.slice a1 len c1) = .returned (.slice a1 (List.length l') c1) ∧ tabOut w r a cap bs P p a1 c1 l' wr) := hd (by
          refine ⟨l, by rw [HL.out], s', HW.out.1, ?_, by have := HL.out; omega⟩
          exact .inr ⟨hz, HW.out.2.bad hz⟩)
        clear HW HL h0 hz
        go_wp2_with (go_at_call 53; refine hf.mono ?_; rintro e w1 ⟨rfl, rfl⟩)
        go_ret
        obtain ⟨l', h1, h2⟩ := HE.out
        exact ⟨a1, c1, l', h1, h2⟩
end
end Go.Proofs.YtmjokinagbpihaaDoor
