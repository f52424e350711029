/- Put, Drop, Wait, Leave, End. -/
import Derived.Test.YtknklbojcnhjcaaLW5
namespace Go.Proofs.Ytknklbojcnhjcaa
open Go.RowKit

/-- One more of a row, as append leaves it. -/
theorem push_i {w : World} {a : Option Addr} {n c : Nat} {xs : List Value} (hR : Row w 2 1 a n c xs) (hn : n ≤ 8000000000000) (v : Int) :
    ∃ a' c' w', (∀ ty, (Builtin.append_ #[26, 26] ty #[.slice a n c, .slice (some ⟨w.heap.size, 0, none⟩) 1 1]).run Try.prog (w.alloc (.cells #[.int .i64 v] 2)) = .ok (.slice a' (n + 1) c') w') ∧
      Row w' 2 1 a' (n + 1) c' (xs ++ iC [v]) ∧ Mod (fun k => blk a = some k) w w' ∧ (∀ k, blk a' = some k → blk a = some k ∨ w.heap.size ≤ k) := by
  obtain ⟨i, h1, h2, h3, h4⟩ := info_parts infoI
  have hb := below_al w (.cells #[.int .i64 v] 2)
  have hh := heap_alloc_new w (.cells #[.int .i64 v] 2)
  have hs : Src Try.prog 1 26 (.slice (some ⟨w.heap.size, 0, none⟩) 1 1) 1 (iC [v]) (w.alloc (.cells #[.int .i64 v] 2)) := by
    refine Src.ofSlice _ Try.underlying26 _ _ _ _ rfl (fun j u hj => ?_) (iC_one _)
    rw [addr_add, cell_of_row _ _ _ _ _ _ hh, Nat.zero_add]
    simpa [iC] using hj
  obtain ⟨a', c', w', k1, k2, k3, k4, _⟩ := run_append_row (P := Try.prog) _ 26 2 i _ 1 8 Try.underlying26 h1 h2 h3 h4 rfl (hR.below hb) _ 1 _ hs (by unfold maxLen; omega) (by omega)
  refine ⟨a', c', w', k1, k2, (Mod.of_below _ hb).trans k3 (fun _ h => .inl h), fun k hk => ?_⟩
  rcases k4 k hk with h | h
  · exact .inl h
  · exact .inr (by have := hb.size; omega)
theorem push_w {w : World} {a : Option Addr} {n c : Nat} {xs : List Value} (hR : Row w 52 2 a n c xs) (hn : n ≤ 8000000000000) (p v : Int) :
    ∃ a' c' w', (∀ ty, (Builtin.append_ #[27, 27] ty #[.slice a n c, .slice (some ⟨w.heap.size, 0, none⟩) 1 1]).run Try.prog (w.alloc (.cells #[.int .i64 p, .int .i64 v] 52)) = .ok (.slice a' (n + 1) c') w') ∧
      Row w' 52 2 a' (n + 1) c' (xs ++ wC [(p, v)]) ∧ Mod (fun k => blk a = some k) w w' ∧ (∀ k, blk a' = some k → blk a = some k ∨ w.heap.size ≤ k) := by
  obtain ⟨i, h1, h2, h3, h4⟩ := info_parts infoW
  have hb := below_al w (.cells #[.int .i64 p, .int .i64 v] 52)
  have hh := heap_alloc_new w (.cells #[.int .i64 p, .int .i64 v] 52)
  have hs : Src Try.prog 2 27 (.slice (some ⟨w.heap.size, 0, none⟩) 1 1) 1 (wC [(p, v)]) (w.alloc (.cells #[.int .i64 p, .int .i64 v] 52)) := by
    refine Src.ofSlice _ Try.underlying27 _ _ _ _ rfl (fun j u hj => ?_) (wC_one _)
    rw [addr_add, cell_of_row _ _ _ _ _ _ hh, Nat.zero_add]
    simpa [wC, wP] using hj
  obtain ⟨a', c', w', k1, k2, k3, k4, _⟩ := run_append_row (P := Try.prog) _ 27 52 i _ 2 16 Try.underlying27 h1 h2 h3 h4 rfl (hR.below hb) _ 1 _ hs (by unfold maxLen; omega) (by omega)
  refine ⟨a', c', w', k1, k2, (Mod.of_below _ hb).trans k3 (fun _ h => .inl h), fun k hk => ?_⟩
  rcases k4 k hk with h | h
  · exact .inl h
  · exact .inr (by have := hb.size; omega)

/-- At an append whose run is known. -/
theorem wpList_append_run {P : Program} {w : World} {ops : Array Oper} {rest : List Oper} {o : Oper} {a : Act} {Q : Exit → Act → World → Prop} (hgd : o.guard = none) (s x : Operand) (t : TypeId)
    (ho : o.op = .call { callee := .builtin .append, args := #[s, x], argTypes := #[t, t] }) (v vx v' : Value) (w' : World) (hs : a.eval s = v) (hx : a.eval x = vx)
    (hrun : ∀ ty, (Builtin.append_ #[t, t] ty #[v, vx]).run P w = .ok v' w') (h : wpList P ops Q rest (a.put o.dst v') w') : wpList P ops Q (o :: rest) a w :=
  wpList_plain hgd fun K hK => by
    unfold Oper.wp execOp
    simp only [ho, resolve, invoke, builtin, Sem.run_bind, Sem.run_pure, Result.andThen_ok, List.map_toArray, List.map_cons, List.map_nil, hs, hx, hrun]
    exact hK _ _ h
theorem step_append_run {P : Program} {w : World} {ops : Array Oper} {o : Oper} {a : Act} {K : Act → World → Prop} {Q : Exit → Act → World → Prop} {E : Prop} (hgd : o.guard = none) (s x : Operand) (t : TypeId)
    (ho : o.op = .call { callee := .builtin .append, args := #[s, x], argTypes := #[t, t] }) (v vx v' : Value) (w' : World) (hs : a.eval s = v) (hx : a.eval x = vx)
    (hrun : ∀ ty, (Builtin.append_ #[t, t] ty #[v, vx]).run P w = .ok v' w') (h : K (a.put o.dst v') w') : if Region.wanted o (yielded ops a.tmps) = true then Oper.wp P o a w K Q else E := by
  have hw : Region.wanted o (yielded ops a.tmps) = true := by simp [Region.wanted, hgd]
  rw [if_pos hw]
  unfold Oper.wp execOp
  simp only [ho, resolve, invoke, builtin, Sem.run_bind, Sem.run_pure, Result.andThen_ok, List.map_toArray, List.map_cons, List.map_nil, hs, hx, hrun]
  exact h

section
variable {w w' : World} {T : TypeId} {b : Nat} {s : LS} {a1 a2 : Option Addr} {c1 c2 : Nat} {F : Nat → Prop}
/-- While the messages' memory is written over, the lane's own cells stay. -/
theorem LnAt.stayV (h : LnAt w T b s a1 c1 a2 c2) (hm : Mod (fun k => blk a1 = some k) w w') (i : Nat) : w'.cell? ⟨b, i, none⟩ = w.cell? ⟨b, i, none⟩ ∧ w'.frozen? ⟨b, i, none⟩ = false :=
  ⟨hm.cell h.blt (fun e => h.f1 b e rfl), (hm.frozen h.blt (fun e => h.f1 b e rfl)).trans (h.free i)⟩
theorem LnAt.stayW (h : LnAt w T b s a1 c1 a2 c2) (hm : Mod (fun k => blk a2 = some k) w w') (i : Nat) : w'.cell? ⟨b, i, none⟩ = w.cell? ⟨b, i, none⟩ ∧ w'.frozen? ⟨b, i, none⟩ = false :=
  ⟨hm.cell h.blt (fun e => (h.f2 b e).1 rfl), (hm.frozen h.blt (fun e => (h.f2 b e).1 rfl)).trans (h.free i)⟩
end

/-- The end of a call that wrote: from the lane's parts ahead of it and behind it. -/
theorem LnOut.mk' {w w1 w2 : World} {T : TypeId} {b : Nat} {s' : LS} {a1 a2 a1' a2' : Option Addr} {c1' c2' : Nat} {F : Nat → Prop} (hf : ∀ k, fp b a1 a2 k → F k) (hb : Below w.heap.size w w1) (hm : Mod (fp b a1 a2) w1 w2)
    (hL : LnAt w2 T b s' a1' c1' a2' c2') (hn : ∀ k, fp b a1' a2' k → fp b a1 a2 k ∨ w1.heap.size ≤ k) : LnOut w T b F s' w2 :=
  ⟨(Mod.of_below F hb).trans hm (fun i hi => .inl (hf i hi)), _, hL.ln, fun k hk => by
    rcases hn k hk with h | h
    · exact .inl (hf k h)
    · exact .inr (Nat.le_trans hb.size h)⟩

set_option maxRecDepth 100000 in
set_option maxHeartbeats 1000000 in
theorem put_any {b : Nat} {F : Nat → Prop} {s : LS} {w : World} (h : Ln w 89 b F s) (hg : Good s) (v : Int) :
    Calls Try.prog 38 #[.pointer (some ⟨b, 0, none⟩), .int .i64 v] w fun e w' => e = .returned (.int .i64 (putL s v).1) ∧ LnOut w 89 b F (putL s v).2 w' := by
  have hlen := hg.len
  have hr2 := hg.r2
  by_cases hf : s.vs.length = s.room
  · have hfl := full_any h true (by simp [hf])
    have HL := hd h
    have e1 : putL s v = (19, s) := by unfold putL; rw [if_pos hf]
    rw [e1]
    clear hf h e1 hlen
    go_enter Try.func38, Try.ntmps38
    go_wp2_with (first | (go_at_call 61; refine hfl.mono ?_; rintro e1 w1 ⟨rfl, b1⟩))
    go_ret
    exact ⟨rfl, LnOut.same HL.out b1⟩
  · have hfl := full_any h false (by simp [hf])
    have e1 : putL s v = (0, { s with vs := s.vs ++ [v] }) := by unfold putL; rw [if_neg hf]
    rw [e1]
    obtain ⟨a1, c1, a2, c2, h, hF, -⟩ := h
    have HL := hd h
    have HF := hd hF
    have hn : s.vs.length ≤ 64 := by omega
    clear hf h e1 hF hlen
    go_enter Try.func38, Try.ntmps38
    go_upto_region 3 with (go_at_call 61; refine hfl.mono ?_; rintro e1 w1 ⟨rfl, b1⟩)
    have h1 := HL.out.below b1
    obtain ⟨a', c', w2, hap, R2, M2, B2⟩ := push_i h1.vals (by omega) v
    have q1 := h1.cells.2.1
    obtain ⟨z1, z2⟩ := h1.stayV M2 1
    rw [q1] at z1
    have HE : Hid (LnOut w 89 b F { s with vs := s.vs ++ [v] } (w2.setCell ⟨b, 1, none⟩ (.slice a' (s.vs.length + 1) c'))) := hd (by
      have hP := h1.putV M2 (vs' := s.vs ++ [v]) (by rw [iC_app]; exact R2) (by simp) B2
      refine LnOut.mk' HF.out b1 ((M2.mono (fun k _ hk => .inr (.inl hk))).setCell (.inl (.inl rfl)) _) (by simpa using hP) (fun k hk => ?_)
      rcases hk with rfl | hk | hk
      · exact .inl (.inl rfl)
      · rcases B2 k hk with h | h
        · exact .inl (.inr (.inl h))
        · exact .inr h
      · exact .inl (.inr (.inr hk)))
    clear R2 M2 B2 HL HF h1 hfl
    have hap := hd hap
    go_wp2_with (first | (at_builtin; refine wpList_append_run rfl _ _ _ rfl _ _ _ _ rfl rfl hap.out ?_))
    go_ret
    exact ⟨rfl, HE.out⟩
end Go.Proofs.Ytknklbojcnhjcaa
