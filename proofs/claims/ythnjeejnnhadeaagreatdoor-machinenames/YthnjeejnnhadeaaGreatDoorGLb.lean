/- Put, Drop, Wait, Leave, End. -/
import Derived.Test.YthnjeejnnhadeaaGreatDoorGLa
import Derived.Deep.RegionLaw
import Derived.Deep.RegionHeld3
namespace Go.Proofs.YthnjeejnnhadeaaGreatDoor.Lane
open Go.RowKit
theorem push_i {w : World} {a : Option Addr} {n c : Nat} {xs : List Value} (hR : Row w 2 1 a n c xs) (hn : n ≤ 8000000000000) (v : Int) :
  ∃ a' c' w', (∀ ty, (Builtin.append_ #[147, 147] ty #[.slice a n c, .slice (some ⟨w.heap.size, 0, none⟩) 1 1]).run Tryz.prog (w.alloc (.cells #[.int .i64 v] 2)) = .ok (.slice a' (n + 1) c') w') ∧
   Row w' 2 1 a' (n + 1) c' (xs ++ iC [v]) ∧ Mod (fun k => blk a = some k) w w' ∧ (∀ k, blk a' = some k → blk a = some k ∨ w.heap.size ≤ k) := by
 obtain ⟨i, h1, h2, h3, h4⟩ := info_parts infoI
 have hb := below_al w (.cells #[.int .i64 v] 2)
 have hh := heap_alloc_new w (.cells #[.int .i64 v] 2)
 have hs : Src Tryz.prog 1 147 (.slice (some ⟨w.heap.size, 0, none⟩) 1 1) 1 (iC [v]) (w.alloc (.cells #[.int .i64 v] 2)) := by
  refine Src.ofSlice _ Tryz.underlying147 _ _ _ _ rfl (fun j u hj => ?_) (iC_one _)
  rw [addr_add, cell_of_row _ _ _ _ _ _ hh, Nat.zero_add]
  simpa [iC] using hj
 obtain ⟨a', c', w', k1, k2, k3, k4, _⟩ := run_append_row (P := Tryz.prog) _ 147 2 i _ 1 8 Tryz.underlying147 h1 h2 h3 h4 rfl (hR.below hb) _ 1 _ hs (by unfold maxLen; omega) (by omega)
 refine ⟨a', c', w', k1, k2, (Mod.of_below _ hb).trans k3 (fun _ h => .inl h), fun k hk => ?_⟩
 rcases k4 k hk with h | h
 ·exact .inl h
 ·exact .inr (by have := hb.size; omega)
theorem push_w {w : World} {a : Option Addr} {n c : Nat} {xs : List Value} (hR : Row w 155 2 a n c xs) (hn : n ≤ 8000000000000) (p v : Int) :
  ∃ a' c' w', (∀ ty, (Builtin.append_ #[148, 148] ty #[.slice a n c, .slice (some ⟨w.heap.size, 0, none⟩) 1 1]).run Tryz.prog (w.alloc (.cells #[.int .i64 p, .int .i64 v] 155)) = .ok (.slice a' (n + 1) c') w') ∧
   Row w' 155 2 a' (n + 1) c' (xs ++ wC [(p, v)]) ∧ Mod (fun k => blk a = some k) w w' ∧ (∀ k, blk a' = some k → blk a = some k ∨ w.heap.size ≤ k) := by
 obtain ⟨i, h1, h2, h3, h4⟩ := info_parts infoW
 have hb := below_al w (.cells #[.int .i64 p, .int .i64 v] 155)
 have hh := heap_alloc_new w (.cells #[.int .i64 p, .int .i64 v] 155)
 have hs : Src Tryz.prog 2 148 (.slice (some ⟨w.heap.size, 0, none⟩) 1 1) 1 (wC [(p, v)]) (w.alloc (.cells #[.int .i64 p, .int .i64 v] 155)) := by
  refine Src.ofSlice _ Tryz.underlying148 _ _ _ _ rfl (fun j u hj => ?_) (wC_one _)
  rw [addr_add, cell_of_row _ _ _ _ _ _ hh, Nat.zero_add]
  simpa [wC, wP] using hj
 obtain ⟨a', c', w', k1, k2, k3, k4, _⟩ := run_append_row (P := Tryz.prog) _ 148 155 i _ 2 16 Tryz.underlying148 h1 h2 h3 h4 rfl (hR.below hb) _ 1 _ hs (by unfold maxLen; omega) (by omega)
 refine ⟨a', c', w', k1, k2, (Mod.of_below _ hb).trans k3 (fun _ h => .inl h), fun k hk => ?_⟩
 rcases k4 k hk with h | h
 ·exact .inl h
 ·exact .inr (by have := hb.size; omega)
theorem wpList_append_run {P : Program} {w : World} {ops : Array Oper} {rest : List Oper} {o : Oper} {a : Act} {Q : Exit → Act → World → Prop} (hgd : o.guard = none) (s x : Operand) (t : TypeId)
  (ho : o.op = .call { callee := .builtin .append, args := #[s, x], argTypes := #[t, t] }) (v vx v' : Value) (w' : World) (hs : a.eval s = v) (hx : a.eval x = vx)
  (hrun : ∀ ty, (Builtin.append_ #[t, t] ty #[v, vx]).run P w = .ok v' w') (h : wpList P ops Q rest (a.put o.dst v') w') : wpList P ops Q (o :: rest) a w :=
 wpList_plain hgd fun K hK => by
  unfold Oper.wp execOp
  simp only [ho, resolve, invoke, builtin, Sem.run_bind, Sem.run_pure, Result.andThen_ok, List.map_toArray, List.map_cons, List.map_nil, hs, hx, hrun]
  exact hK _ _ h
theorem step_append_run {P : Program} {w : World} {ops : Array Oper} {o : Oper} {a : Act} {K : Act → World → Prop} {Q : Exit → Act → World → Prop} {E : Prop} (hgd : o.guard = none) (s x : Operand) (t : TypeId)
  (ho : o.op = .call { callee := .builtin .append, args := #[s, x], argTypes := #[t, t] }) (v vx v' : Value) (w' : World) (hs : a.eval s = v) (hx : a.eval x = vx)
  (hrun : ∀ ty, (Builtin.append_ #[t, t] ty #[v, vx]).run P w = .ok v' w') (h : K (a.put o.dst v') w') : if Region.wanted o (yielded ops a.tmps) = true then Oper.wp P o a w K Q else E := by
 have hw : Region.wanted o (yielded ops a.tmps) = true := by simp [Region.wanted, hgd]
 rw [if_pos hw]
 unfold Oper.wp execOp
 simp only [ho, resolve, invoke, builtin, Sem.run_bind, Sem.run_pure, Result.andThen_ok, List.map_toArray, List.map_cons, List.map_nil, hs, hx, hrun]
 exact h
section
variable {w w' : World} {T : TypeId} {b : Nat} {s : LS} {a1 a2 : Option Addr} {c1 c2 : Nat} {F : Nat → Prop}
theorem LnAt.stayV (h : LnAt w T b s a1 c1 a2 c2) (hm : Mod (fun k => blk a1 = some k) w w') (i : Nat) : w'.cell? ⟨b, i, none⟩ = w.cell? ⟨b, i, none⟩ ∧ w'.frozen? ⟨b, i, none⟩ = false :=
 ⟨hm.cell h.blt (fun e => h.f1 b e rfl), (hm.frozen h.blt (fun e => h.f1 b e rfl)).trans (h.free i)⟩
theorem LnAt.stayW (h : LnAt w T b s a1 c1 a2 c2) (hm : Mod (fun k => blk a2 = some k) w w') (i : Nat) : w'.cell? ⟨b, i, none⟩ = w.cell? ⟨b, i, none⟩ ∧ w'.frozen? ⟨b, i, none⟩ = false :=
 ⟨hm.cell h.blt (fun e => (h.f2 b e).1 rfl), (hm.frozen h.blt (fun e => (h.f2 b e).1 rfl)).trans (h.free i)⟩
end
theorem LnOut.mk' {w w1 w2 : World} {T : TypeId} {b : Nat} {s' : LS} {a1 a2 a1' a2' : Option Addr} {c1' c2' : Nat} {F : Nat → Prop} (hf : ∀ k, fp b a1 a2 k → F k) (hb : Below w.heap.size w w1) (hm : Mod (fp b a1 a2) w1 w2)
  (hL : LnAt w2 T b s' a1' c1' a2' c2') (hn : ∀ k, fp b a1' a2' k → fp b a1 a2 k ∨ w1.heap.size ≤ k) : LnOut w T b F s' w2 :=
 ⟨(Mod.of_below F hb).trans hm (fun i hi => .inl (hf i hi)), _, hL.ln, fun k hk => by
  rcases hn k hk with h | h
  ·exact .inl (hf k h)
  ·exact .inr (Nat.le_trans hb.size h)⟩
set_option maxRecDepth 100000 in
set_option maxHeartbeats 1000000 in
theorem put_any {b : Nat} {F : Nat → Prop} {s : LS} {w : World} (h : Ln w 249 b F s) (hg : Good s) (v : Int) :
  Calls Tryz.prog 176 #[.pointer (some ⟨b, 0, none⟩), .int .i64 v] w fun e w' => e = .returned (.int .i64 (putL s v).1) ∧ LnOut w 249 b F (putL s v).2 w' := by
 have hlen := hg.len
 have hr2 := hg.r2
 by_cases hf : s.vs.length = s.room
 ·have hfl := full_any h true (by simp [hf])
  have HL := hd h
  have e1 : putL s v = (19, s) := by unfold putL; rw [if_pos hf]
  rw [e1]
  clear hf h e1 hlen
  go_enter Tryz.func176, Tryz.ntmps176
  go_wp2_with (first | (go_at_call 226; refine hfl.mono ?_; rintro e1 w1 ⟨rfl, b1⟩))
  go_ret
  exact ⟨rfl, LnOut.same HL.out b1⟩
 ·have hfl := full_any h false (by simp [hf])
  have e1 : putL s v = (0, { s with vs := s.vs ++ [v] }) := by unfold putL; rw [if_neg hf]
  rw [e1]
  obtain ⟨a1, c1, a2, c2, h, hF, -⟩ := h
  have HL := hd h
  have HF := hd hF
  have hn : s.vs.length ≤ 64 := by omega
  clear hf h e1 hF hlen
  go_enter Tryz.func176, Tryz.ntmps176
  go_upto_region 3 with (go_at_call 226; refine hfl.mono ?_; rintro e1 w1 ⟨rfl, b1⟩)
  have h1 := HL.out.below b1
  obtain ⟨a', c', w2, hap, R2, M2, B2⟩ := push_i h1.vals (by omega) v
  have q1 := h1.cells.2.1
  obtain ⟨z1, z2⟩ := h1.stayV M2 1
  rw [q1] at z1
  have HE : Hid (LnOut w 249 b F { s with vs := s.vs ++ [v] } (w2.setCell ⟨b, 1, none⟩ (.slice a' (s.vs.length + 1) c'))) := hd (by
   have hP := h1.putV M2 (vs' := s.vs ++ [v]) (by rw [iC_app]; exact R2) (by simp) B2
   refine LnOut.mk' HF.out b1 ((M2.mono (fun k _ hk => .inr (.inl hk))).setCell (.inl (.inl rfl)) _) (by simpa using hP) (fun k hk => ?_)
   rcases hk with rfl | hk | hk
   ·exact .inl (.inl rfl)
   ·rcases B2 k hk with h | h
    ·exact .inl (.inr (.inl h))
    ·exact .inr h
   ·exact .inl (.inr (.inr hk)))
  clear R2 M2 B2 HL HF h1 hfl
  have hap := hd hap
  go_wp2_with (first | (at_builtin; refine wpList_append_run rfl _ _ _ rfl _ _ _ _ rfl rfl hap.out ?_))
  go_ret
  exact ⟨rfl, HE.out⟩
end Go.Proofs.YthnjeejnnhadeaaGreatDoor.Lane

namespace Go.Proofs.YthnjeejnnhadeaaGreatDoor.Lane
open Go.RowKit
set_option maxRecDepth 100000 in
theorem drop_any {b : Nat} {F : Nat → Prop} {s : LS} {w : World} (h : Ln w 249 b F s) (hg : Good s) :
  Calls Tryz.prog 115 #[.pointer (some ⟨b, 0, none⟩)] w fun e w' => e = .returned (.tuple #[]) ∧ LnOut w 249 b F (dropL s) w' := by
 have hm := more_any s.dr w hg.may.2.2.2.2
 obtain ⟨a1, c1, a2, c2, h, hF, -⟩ := h
 have k4 := h.cells.2.2.2.2
 have kf := h.free 4
 have HE : Hid (LnOut w 249 b F (dropL s) (w.setCell ⟨b, 4, none⟩ (.int .i64 (moreL s.dr)))) := hd
  (LnOut.mk' hF (below_same w) ((Mod.refl (fp b a1 a2) w).setCell (.inl (.inl rfl)) _) (h.putD (moreL s.dr)) (fun k hk => .inl hk))
 clear h hF hg
 go_enter Tryz.func115, Tryz.ntmps115
 go_wp2_with (first | (go_at_call 177; refine hm.mono ?_; rintro e1 w1 ⟨rfl, rfl⟩))
 refine bodyPost_end (results_none rfl _ _ _) rfl ?_
 exact ⟨rfl, HE.out⟩
set_option maxRecDepth 100000 in
set_option maxHeartbeats 1000000 in
theorem wait_any {b : Nat} {F : Nat → Prop} {s : LS} {w : World} (h : Ln w 249 b F s) (p v : Int) (hn : s.ws.length ≤ 7000000000000) :
  Calls Tryz.prog 254 #[.pointer (some ⟨b, 0, none⟩), .int .i64 p, .int .i64 v] w fun e w' => e = .returned (.int .i64 (waitL s p v).1) ∧ LnOut w 249 b F (waitL s p v).2 w' := by
 by_cases hf : s.vs.length = s.room
 ·have hfl := full_any h true (by simp [hf])
  have hpl := fun (W : World) (hb : Below w.heap.size w W) => place_any (h.below hb) p (by omega)
  by_cases hi : 0 ≤ idxL s.ws p
  ·have e1 : waitL s p v = (8, s) := by unfold waitL; rw [if_pos hf, if_pos hi]
   rw [e1]
   have HL := hd h
   clear hf h e1
   go_enter Tryz.func254, Tryz.ntmps254
   go_wp2_with (first | (go_at_call 226; refine hfl.mono ?_; rintro e1 w1 ⟨rfl, b1⟩; have hp1 := hpl w1 b1) | (go_at_call 227; refine hp1.mono ?_; rintro e2 w2 ⟨rfl, b2⟩))
   go_ret
   exact ⟨rfl, LnOut.same HL.out (b1.trans (b2.mono b1.size))⟩
  ·have e1 : waitL s p v = (0, { s with ws := s.ws ++ [(p, v)] }) := by unfold waitL; rw [if_pos hf, if_neg hi]
   rw [e1]
   have hid : decide (0 ≤ idxL s.ws p) = false := by simpa using hi
   obtain ⟨a1, c1, a2, c2, h, hF, -⟩ := h
   have HL := hd h
   have HF := hd hF
   clear hf h e1 hF hi
   obtain ⟨I, hI⟩ : ∃ I, idxL s.ws p = I := ⟨_, rfl⟩
   rw [hI] at hid hpl
   clear hI
   go_enter Tryz.func254, Tryz.ntmps254
   go_upto_region 5 with (first | (go_at_call 226; refine hfl.mono ?_; rintro e1 w1 ⟨rfl, b1⟩; have hp1 := hpl w1 b1) | (go_at_call 227; refine hp1.mono ?_; rintro e2 w2 ⟨rfl, b2⟩))
   have b3 := b1.trans (b2.mono b1.size)
   have h1 := HL.out.below b3
   obtain ⟨a', c', w3, hap, R2, M2, B2⟩ := push_w h1.wts (by omega) p v
   have q1 := h1.cells.2.2.1
   obtain ⟨z1, z2⟩ := h1.stayW M2 2
   rw [q1] at z1
   have HE : Hid (LnOut w 249 b F { s with ws := s.ws ++ [(p, v)] } (w3.setCell ⟨b, 2, none⟩ (.slice a' (s.ws.length + 1) c'))) := hd (by
    have hP := h1.putW M2 (ws' := s.ws ++ [(p, v)]) (by rw [wC_app]; exact R2) (by simp) B2
    refine LnOut.mk' HF.out b3 ((M2.mono (fun k _ hk => .inr (.inr hk))).setCell (.inl (.inl rfl)) _) (by simpa using hP) (fun k hk => ?_)
    rcases hk with rfl | hk | hk
    ·exact .inl (.inl rfl)
    ·exact .inl (.inr (.inl hk))
    ·rcases B2 k hk with h | h
     ·exact .inl (.inr (.inr h))
     ·exact .inr h)
   clear R2 M2 B2 HL HF h1 hfl hpl hp1 b1 b2 b3
   have hap := hd hap
   go_wp2_with (first | (at_builtin; refine wpList_append_run rfl _ _ _ rfl _ _ _ _ rfl rfl hap.out ?_))
   go_ret
   exact ⟨rfl, HE.out⟩
 ·have hfl := full_any h false (by simp [hf])
  have HL := hd h
  have e1 : waitL s p v = (20, s) := by unfold waitL; rw [if_neg hf]
  rw [e1]
  clear hf h e1
  go_enter Tryz.func254, Tryz.ntmps254
  go_wp2_with (first | (go_at_call 226; refine hfl.mono ?_; rintro e1 w1 ⟨rfl, b1⟩))
  go_ret
  exact ⟨rfl, LnOut.same HL.out b1⟩
set_option maxRecDepth 100000 in
set_option maxHeartbeats 1000000 in
theorem leave_any {b : Nat} {F : Nat → Prop} {s : LS} {w : World} (h : Ln w 249 b F s) (p : Int) (hn : s.ws.length ≤ 8000000000000) :
  Calls Tryz.prog 178 #[.pointer (some ⟨b, 0, none⟩), .int .i64 p] w fun e w' => e = .returned (.bool (leaveL s p).1) ∧ LnOut w 249 b F (leaveL s p).2 w' := by
 have hpl := place_any h p hn
 rcases idxL_cases s.ws p with ⟨hi, _⟩ | ⟨i, hi, hil⟩
 ·have e1 : leaveL s p = (false, s) := by unfold leaveL; rw [if_neg (by omega)]
  rw [e1]
  rw [hi] at hpl
  have HL := hd h
  clear hi h e1
  go_enter Tryz.func178, Tryz.ntmps178
  go_wp2_with (first | (go_at_call 227; refine hpl.mono ?_; rintro e2 w2 ⟨rfl, b2⟩))
  go_ret
  exact ⟨rfl, LnOut.same HL.out b2⟩
 ·have e1 : leaveL s p = (true, { s with ws := s.ws.eraseIdx i }) := by unfold leaveL; rw [if_pos (by omega), hi]; simp
  rw [e1]
  rw [hi] at hpl
  obtain ⟨a1, c1, a2, c2, h, hF, -⟩ := h
  obtain ⟨g, rfl⟩ := h.wts.head (by omega)
  have HL := hd h
  have HF := hd hF
  clear h hF e1 hi
  go_enter Tryz.func178, Tryz.ntmps178
  go_upto_region 4 with (first | (go_at_call 227; refine hpl.mono ?_; rintro e2 w2 ⟨rfl, b2⟩))
  have h1 := HL.out.below b2
  have hwo := without_w h1.wts hil
  have q1 := h1.cells.2.2.1
  have HE : ∀ w3, WOut w2 155 2 g (s.ws.length - 1) (wC (s.ws.eraseIdx i)) (.returned (.slice (some ⟨g, 0, none⟩) (s.ws.length - 1) (s.ws.length - 1))) w3 →
    w3.cell? ⟨b, 2, none⟩ = w2.cell? ⟨b, 2, none⟩ ∧ w3.frozen? ⟨b, 2, none⟩ = false ∧ Hid (LnOut w 249 b F { s with ws := s.ws.eraseIdx i } (w3.setCell ⟨b, 2, none⟩ (.slice (some ⟨g, 0, none⟩) (s.ws.length - 1) (s.ws.length - 1)))) := fun w3 ⟨_, R3, M3⟩ => by
   have M2 : Mod (fun k => blk (some ⟨g, 0, none⟩) = some k) w2 w3 := M3.mono (fun k _ hk => by rw [hk]; rfl)
   obtain ⟨z1, z2⟩ := h1.stayW M2 2
   refine ⟨z1, z2, hd ?_⟩
   have hP := h1.putW M2 (ws' := s.ws.eraseIdx i) R3 (by rw [List.length_eraseIdx, if_pos hil]) (fun k hk => .inl hk)
   exact LnOut.mk' HF.out b2 ((M2.mono (fun k _ hk => .inr (.inr hk))).setCell (.inl (.inl rfl)) _) hP (fun k hk => .inl hk)
  clear HL HF h1 hpl b2
  obtain ⟨n, hN⟩ : ∃ n, s.ws.length - 1 = n := ⟨_, rfl⟩
  rw [hN] at HE hwo
  clear hN
  have HE := hd HE
  go_upto_region 5 with (first | (go_at_call 228; refine hwo.mono ?_; rintro e3 w3 hw3; obtain rfl := hw3.1; obtain ⟨z1, z2, HE3⟩ := HE.out w3 hw3; rw [q1] at z1; clear hw3))
  go_wp2_with fail
  go_ret
  exact ⟨rfl, HE3.out⟩
set_option maxRecDepth 100000 in
theorem end_any {b : Nat} {F : Nat → Prop} {s : LS} {w : World} (h : Ln w 249 b F s) (hn : s.ws.length ≤ 8000000000000) :
  Calls Tryz.prog 182 #[.pointer (some ⟨b, 0, none⟩)] w fun e w' => ∃ g, e = .returned (.slice (some ⟨g, 0, none⟩) s.ws.length s.ws.length) ∧ Row w' 155 2 (some ⟨g, 0, none⟩) s.ws.length s.ws.length (wC s.ws) ∧ w.heap.size ≤ g ∧ Mod F w w' ∧ Ln w' 249 b F (endL s) := by
 obtain ⟨a1, c1, a2, c2, h, hF, hlt⟩ := h
 have q1 := h.cells.2.2.1
 have hcp := copied_w (cap := c2) h.wts.rd hn
 have HL := hd h
 have HF := hd hF
 have HT := hd hlt
 clear h hF hlt
 go_enter Tryz.func182, Tryz.ntmps182
 go_upto_region 2 with (first | (go_at_call 209; refine hcp.mono ?_; rintro e3 w3 ⟨g, rfl, R3, hg3, b3⟩))
 have h1 := HL.out.below b3
 have q1 := h1.cells.2.2.1
 have q2 := h1.free 2
 have HE : Hid (Row (w3.setCell ⟨b, 2, none⟩ (.slice none 0 0)) 155 2 (some ⟨g, 0, none⟩) s.ws.length s.ws.length (wC s.ws) ∧ w.heap.size ≤ g ∧ Mod F w (w3.setCell ⟨b, 2, none⟩ (.slice none 0 0)) ∧ Ln (w3.setCell ⟨b, 2, none⟩ (.slice none 0 0)) 249 b F (endL s)) := hd (by
  have hb := HF.out b (.inl rfl)
  refine ⟨R3.kept (fun k hk => Below.heap_setCell _ _ _ _ (fun e => ?_)), hg3, (Mod.of_below F b3).setCell (.inl hb) _, ?_⟩
  ·cases hk
   have := HL.out.blt
   simp only at e
   omega
  ·refine ⟨a1, c1, none, 0, h1.putW (ws' := []) (Mod.refl _ _) Row.nil rfl (fun k hk => by cases hk), fun k hk => ?_, fun k hk => ?_⟩
   ·rcases hk with hk | hk | hk
    ·exact HF.out k (.inl hk)
    ·exact HF.out k (.inr (.inl hk))
    ·cases hk
   ·have := HT.out k hk
    have := b3.size
    simp [World.setCell]
    omega)
 clear R3 hg3 b3 h1 HL HF HT hcp
 go_wp2_with fail
 go_ret
 exact ⟨g, rfl, HE.out⟩
end Go.Proofs.YthnjeejnnhadeaaGreatDoor.Lane

namespace Go.Proofs.YthnjeejnnhadeaaGreatDoor.Lane
open Go.RowKit
def tkV (t : Int × (Int × Int) × Bool × Int) : Value := .tuple #[.int .i64 t.1, .agg #[.int .i64 t.2.1.1, .int .i64 t.2.1.2], .bool t.2.2.1, .int .i64 t.2.2.2]
theorem LnAt.other {w : World} {T : TypeId} {b : Nat} {s : LS} {a1 a2 : Option Addr} {c1 c2 : Nat} (h : LnAt w T b s a1 c1 a2 c2) {g : Nat} (hg : ¬ fp b a1 a2 g) (i : Nat) (u : Value) : LnAt (w.setCell ⟨g, i, none⟩ u) T b s a1 c1 a2 c2 :=
 h.kept fun k hk => Below.heap_setCell _ _ _ _ (fun e => hg (by have e' : k = g := e; rw [← e']; exact hk))
set_option maxRecDepth 100000 in
set_option maxHeartbeats 1000000 in
theorem take_none {b : Nat} {F : Nat → Prop} {s : LS} {w : World} (h : Ln w 249 b F s) (hs : s.vs = []) :
  Calls Tryz.prog 222 #[.pointer (some ⟨b, 0, none⟩)] w fun e w' => e = .returned (tkV (0, (0, 0), false, 21)) ∧ LnOut w 249 b F s w' := by
 have hb := below_al w (.cells #[.int .i64 0, .int .i64 0] 155)
 have hl := len_any (h.below hb)
 rw [hs] at hl
 have HL := hd h
 have HB := hd hb
 clear h hs hb
 go_enter Tryz.func222, Tryz.ntmps222
 go_wp2_with (first | (go_at_call 221; refine hl.mono ?_; rintro e1 w1 ⟨rfl, rfl⟩))
 refine bodyPost_ret (v := tkV (0, (0, 0), false, 21)) (by simp [results, Tryz.results222, go_sem, tkV]) rfl ⟨rfl, LnOut.same HL.out ?_⟩
 exact HB.out
structure LnTo (w : World) (T : TypeId) (b : Nat) (a1 a2 : Option Addr) (s' : LS) (w' : World) (a1' : Option Addr) (c1' : Nat) (a2' : Option Addr) (c2' : Nat) : Prop where
 at' : LnAt w' T b s' a1' c1' a2' c2'
 mod : Mod (fp b a1 a2) w w'
 new : ∀ k, fp b a1' a2' k → fp b a1 a2 k ∨ w.heap.size ≤ k
section
variable {w w' w'' : World} {T : TypeId} {b : Nat} {s' : LS} {a1 a2 a1' a2' : Option Addr} {c1' c2' : Nat} {F : Nat → Prop}
theorem LnTo.out (h : LnTo w T b a1 a2 s' w' a1' c1' a2' c2') (hf : ∀ k, fp b a1 a2 k → F k) : LnOut w T b F s' w' := LnOut.mk' hf (below_same w) h.mod h.at' h.new
theorem LnTo.bel (h : LnTo w T b a1 a2 s' w' a1' c1' a2' c2') (hb : Below w'.heap.size w' w'') : LnTo w T b a1 a2 s' w'' a1' c1' a2' c2' := ⟨h.at'.below hb, h.mod.after hb, h.new⟩
theorem LnTo.other (h : LnTo w T b a1 a2 s' w' a1' c1' a2' c2') {g : Nat} (hg : ¬ fp b a1' a2' g) (hw : w.heap.size ≤ g) (i : Nat) (u : Value) : LnTo w T b a1 a2 s' (w'.setCell ⟨g, i, none⟩ u) a1' c1' a2' c2' :=
 ⟨h.at'.other hg i u, h.mod.setCell (.inr hw) u, h.new⟩
theorem LnTo.putV (h : LnTo w T b a1 a2 s' w' a1' c1' a2' c2') (hm : Mod (fun k => blk a1' = some k) w' w'') {a : Option Addr} {vs : List Int} {n c : Nat} (hR : Row w'' 2 1 a n c (iC vs)) (hl : n = vs.length) (hn : ∀ k, blk a = some k → blk a1' = some k ∨ w'.heap.size ≤ k) :
  LnTo w T b a1 a2 { s' with vs := vs } (w''.setCell ⟨b, 1, none⟩ (.slice a n c)) a c a2' c2' := by
 have hin : ∀ k, blk a1' = some k → fp b a1 a2 k ∨ w.heap.size ≤ k := fun k hk => h.new k (.inr (.inl hk))
 refine ⟨h.at'.putV hm hR hl hn, (h.mod.trans hm hin).setCell (.inl (.inl rfl)) _, fun k hk => ?_⟩
 rcases hk with hk | hk | hk
 ·exact .inl (.inl hk)
 ·rcases hn k hk with h1 | h1
  ·exact hin k h1
  ·exact .inr (Nat.le_trans h.mod.size h1)
 ·exact h.new k (.inr (.inr hk))
theorem LnTo.putW (h : LnTo w T b a1 a2 s' w' a1' c1' a2' c2') (hm : Mod (fun k => blk a2' = some k) w' w'') {a : Option Addr} {ws : List (Int × Int)} {n c : Nat} (hR : Row w'' 155 2 a n c (wC ws)) (hl : n = ws.length) (hn : ∀ k, blk a = some k → blk a2' = some k ∨ w'.heap.size ≤ k) :
  LnTo w T b a1 a2 { s' with ws := ws } (w''.setCell ⟨b, 2, none⟩ (.slice a n c)) a1' c1' a c := by
 have hin : ∀ k, blk a2' = some k → fp b a1 a2 k ∨ w.heap.size ≤ k := fun k hk => h.new k (.inr (.inr hk))
 refine ⟨h.at'.putW hm hR hl hn, (h.mod.trans hm hin).setCell (.inl (.inl rfl)) _, fun k hk => ?_⟩
 rcases hk with hk | hk | hk
 ·exact .inl (.inl hk)
 ·exact h.new k (.inr (.inl hk))
 ·rcases hn k hk with h1 | h1
  ·exact hin k h1
  ·exact .inr (Nat.le_trans h.mod.size h1)
theorem LnTo.putT (h : LnTo w T b a1 a2 s' w' a1' c1' a2' c2') (x : Int) : LnTo w T b a1 a2 { s' with tk := x } (w'.setCell ⟨b, 3, none⟩ (.int .i64 x)) a1' c1' a2' c2' :=
 ⟨h.at'.putT x, h.mod.setCell (.inl (.inl rfl)) _, h.new⟩
end
structure Box2 (w : World) (t : TypeId) (G : Nat) (x y : Int) : Prop where
 obj : w.heap[G]? = some (.cells #[.int .i64 x, .int .i64 y] t (0, 0))
section
variable {w w' : World} {t : TypeId} {G : Nat} {x y : Int}
theorem Box2.c0 (h : Box2 w t G x y) : w.cell? ⟨G, 0, none⟩ = some (.int .i64 x) := by rw [cell_of_row _ _ _ _ _ _ h.obj]; rfl
theorem Box2.c1 (h : Box2 w t G x y) : w.cell? ⟨G, 1, none⟩ = some (.int .i64 y) := by rw [cell_of_row _ _ _ _ _ _ h.obj]; rfl
theorem Box2.fr (h : Box2 w t G x y) (i : Nat) : w.frozen? ⟨G, i, none⟩ = false := by simp [World.frozen?, h.obj]
theorem Box2.lt (h : Box2 w t G x y) : G < w.heap.size := (Array.getElem?_eq_some_iff.1 h.obj).1
theorem Box2.mod {S : Nat → Prop} (h : Box2 w t G x y) (hm : Mod S w w') (hn : ¬ S G) : Box2 w' t G x y := ⟨by rw [hm.block G h.lt hn]; exact h.obj⟩
theorem Box2.bel (h : Box2 w t G x y) (hm : Below w.heap.size w w') : Box2 w' t G x y := ⟨by rw [hm.block G h.lt]; exact h.obj⟩
theorem Box2.set (h : Box2 w t G x y) {b : Nat} (hb : G ≠ b) (i : Nat) (u : Value) : Box2 (w.setCell ⟨b, i, none⟩ u) t G x y := ⟨by rw [Below.heap_setCell _ _ _ _ hb]; exact h.obj⟩
theorem Box2.put (h : Box2 w t G x y) (x' y' : Int) : Box2 ((w.setCell ⟨G, 0, none⟩ (.int .i64 x')).setCell ⟨G, 1, none⟩ (.int .i64 y')) t G x' y' := ⟨by rw [heap_setCell_self (heap_setCell_self h.obj _)]; rfl⟩
theorem box_new (w : World) (t : TypeId) (x y : Int) : Box2 (w.alloc (.cells #[.int .i64 x, .int .i64 y] t)) t w.heap.size x y := ⟨heap_alloc_new _ _⟩
end
set_option maxRecDepth 100000 in
set_option maxHeartbeats 2000000 in
theorem take_some {b : Nat} {F : Nat → Prop} {s : LS} {w : World} (h : Ln w 249 b F s) (hg : Good s) {v : Int} {r : List Int} (hs : s.vs = v :: r) (hn : s.ws.length ≤ 8000000000000) :
    Calls Tryz.prog 222 #[.pointer (some ⟨b, 0, none⟩)] w fun e w' => e = .returned (tkV (takeL s).1) ∧ LnOut w 249 b F (takeL s).2 w' := by
  have hb := below_al w (.cells #[.int .i64 0, .int .i64 0] 155)
  have hl := len_any (h.below hb)
  have hlen := hg.len
  have hr2 := hg.r2
  have hmo := fun W => more_any s.tk W hg.may.2.2.2.1
  obtain ⟨a1, c1, a2, c2, h, hF, hlt⟩ := h
  obtain ⟨gv, rfl⟩ := h.vals.head (by rw [hs]; simp)
  have hvl : Hid (s.vs.length = r.length + 1) := hd (by rw [hs]; simp)
  have e00 : ((s.vs.length : Int) == 0) = false := by simp [hvl.out]; omega
  have HT : Hid (LnTo w 249 b (some ⟨gv, 0, none⟩) a2 s (w.alloc (.cells #[.int .i64 0, .int .i64 0] 155)) (some ⟨gv, 0, none⟩) c1 a2 c2) := hd ⟨h.below hb, Mod.of_below _ hb, fun k hk => .inl hk⟩
  have HX : Hid (Box2 (w.alloc (.cells #[.int .i64 0, .int .i64 0] 155)) 155 w.heap.size 0 0) := hd (box_new _ _ _ _)
  have hgs : Hid (∀ k, fp b (some ⟨gv, 0, none⟩) a2 k → k < w.heap.size) := hd h.lt
  have HF := hd hF
  have HS := hd hs
  obtain ⟨Q, hQ⟩ : ∃ Q : Ending → World → Prop, Hid ((fun e w' => e = .returned (tkV (takeL s).1) ∧ LnOut w 249 b F (takeL s).2 w') = Q) := ⟨_, rfl⟩
  rw [hQ.out]
  clear h hF hlt hb hs hg
  obtain ⟨N, hN⟩ : ∃ N, Hid (s.vs.length = N) := ⟨_, rfl⟩
  rw [hN.out] at e00 hl hlen
  have hN0 : (0 : Int) < (N : Int) := by have h1 := hvl.out; have h2 := hN.out; omega
  have hN0' : 0 < N := by omega
  go_enter Tryz.func222, Tryz.ntmps222
  go_upto_region 3 with (first | (go_at_call 221; refine hl.mono ?_; rintro e1 w1 ⟨rfl, rfl⟩))
  obtain ⟨G, hG⟩ : ∃ G, Hid (w.heap.size = G) := ⟨_, rfl⟩
  obtain ⟨w1, hw1⟩ : ∃ W, Hid (w.alloc (.cells #[.int .i64 0, .int .i64 0] 155) = W) := ⟨_, rfl⟩
  rw [hw1.out] at HT HX ⊢
  rw [hG.out] at HX ⊢
  clear hl hw1
  -- the first message
  have p1 := HT.out.at'.cells.2.1
  obtain ⟨_, _, ev, p2⟩ := rd_i HT.out.at'.vals.rd 0 (by rw [hvl.out]; omega)
  cases ev
  rw [HS.out] at p2
  rw [hN.out] at p1
  simp only [List.getD_cons_zero, Nat.zero_add] at p2
  have hwo := without_i (i := 0) HT.out.at'.vals (by rw [hvl.out]; omega)
  rw [hN.out, show ((0 : Nat) : Int) = 0 from rfl] at hwo
  obtain ⟨m, hm⟩ : ∃ m, Hid (N - 1 = m) := ⟨_, rfl⟩
  rw [hm.out] at hwo
  have HE : Hid (∀ E w2, WOut w1 2 1 gv m (iC (s.vs.eraseIdx 0)) E w2 → (w2.cell? ⟨b, 1, none⟩ = w1.cell? ⟨b, 1, none⟩ ∧ w2.frozen? ⟨b, 1, none⟩ = false) ∧ Hid (LnTo w 249 b (some ⟨gv, 0, none⟩) a2 { s with vs := r } (w2.setCell ⟨b, 1, none⟩ (.slice (some ⟨gv, 0, none⟩) m m)) (some ⟨gv, 0, none⟩) m a2 c2 ∧ Box2 (w2.setCell ⟨b, 1, none⟩ (.slice (some ⟨gv, 0, none⟩) m m)) 155 G 0 0)) := hd (fun E w2 ⟨_, R2, M2⟩ => by
    have M2' : Mod (fun k => blk (some ⟨gv, 0, none⟩) = some k) w1 w2 := M2.mono (fun k _ hk => by rw [hk]; rfl)
    refine ⟨HT.out.at'.stayV M2' 1, hd ⟨?_, ?_⟩⟩
    · refine HT.out.putV M2' (vs := r) ?_ ?_ (fun k hk => .inl hk)
      · rw [HS.out] at R2
        exact R2
      · have h1 := hvl.out
        have h2 := hN.out
        have h3 := hm.out
        omega
    · refine (HX.out.mod M2 (fun e => ?_)).set (fun e => ?_) _ _
      · have := hgs.out gv (.inr (.inl rfl))
        have := hG.out
        omega
      · have := hgs.out b (.inl rfl)
        have := hG.out
        omega)
  clear HX HT
  go_upto_region 5 with (first | (go_at_call 256; refine hwo.mono ?_; rintro e2 w2 hw2; obtain rfl := hw2.1; obtain ⟨⟨z1, z2⟩, HE2⟩ := HE.out _ w2 hw2; rw [p1] at z1; clear hw2))
  obtain ⟨w3, hw3⟩ : ∃ W, Hid (w2.setCell ⟨b, 1, none⟩ (.slice (some ⟨gv, 0, none⟩) m m) = W) := ⟨_, rfl⟩
  rw [hw3.out] at HE2 ⊢
  clear hw3 z1 z2 hwo p1 p2 HE
  -- how many were taken
  have p3 := HE2.out.1.at'.cells.2.2.2.1
  have p4 := HE2.out.1.at'.free 3
  have hmo3 := hmo w3
  have HT4 : Hid (LnTo w 249 b (some ⟨gv, 0, none⟩) a2 { s with vs := r, tk := moreL s.tk } (w3.setCell ⟨b, 3, none⟩ (.int .i64 (moreL s.tk))) (some ⟨gv, 0, none⟩) m a2 c2) := hd (HE2.out.1.putT (moreL s.tk))
  have HX4 : Hid (Box2 (w3.setCell ⟨b, 3, none⟩ (.int .i64 (moreL s.tk))) 155 G 0 0) := hd (HE2.out.2.set (fun e => by have := hgs.out b (.inl rfl); have := hG.out; omega) _ _)
  simp only at p3
  go_upto_region 6 with (first | (go_at_call 177; refine hmo3.mono ?_; rintro e4 w3 ⟨rfl, rfl⟩))
  obtain ⟨w4, hw4⟩ : ∃ W, Hid (w3.setCell ⟨b, 3, none⟩ (.int .i64 (moreL s.tk)) = W) := ⟨_, rfl⟩
  rw [hw4.out] at HT4 HX4 ⊢
  clear hw4 p3 p4 hmo3 hmo HE2
  have p2 := HT4.out.at'.cells.2.2.1
  simp only at p2
  have x0 := HX4.out.c0
  have x1 := HX4.out.c1
  have x2 := HX4.out.fr 0
  have x3 := HX4.out.fr 1
  rcases hws : s.ws with _ | ⟨⟨wp, wv⟩, q⟩
  · have HFI : Hid (Q (.returned (tkV (v, (0, 0), false, 0))) ((w4.setCell ⟨G, 0, none⟩ (.int .i64 0)).setCell ⟨G, 1, none⟩ (.int .i64 0)).drew) := hd (by
      rw [← hQ.out]
      have hgn : ¬ fp b (some ⟨gv, 0, none⟩) a2 G := fun hk => by have := hgs.out G hk; have := hG.out; omega
      have e1 : takeL s = ((v, (0, 0), false, 0), { s with vs := r, tk := moreL s.tk }) := by unfold takeL; rw [HS.out, hws]
      rw [e1]
      exact ⟨rfl, (((HT4.out.other hgn (by have := hG.out; omega) 0 _).other hgn (by have := hG.out; omega) 1 _).bel ((Below.refl _ _).drew)).out HF.out⟩)
    rw [hws] at p2
    clear HT4
    have x4 := (HX4.out.put 0 0).c0
    have x5 := (HX4.out.put 0 0).c1
    clear HX4
    go_wp2_with fail
    go_region
    go_wp2_with fail
    refine bodyPost_ret (v := tkV (v, (0, 0), false, 0)) (by simp [results, Tryz.results222, go_sem, tkV, x4, x5]) rfl HFI.out
  · have hwl : Hid (s.ws.length = q.length + 1) := hd (by rw [hws]; simp)
    obtain ⟨gw, rfl⟩ := HT4.out.at'.wts.head (by simp only; rw [hwl.out]; omega)
    have HWS : Hid (s.ws = (wp, wv) :: q) := hd hws
    clear hws
    obtain ⟨M, hM⟩ : ∃ M, Hid (s.ws.length = M) := ⟨_, rfl⟩
    have hM0 : (0 : Int) < (M : Int) := by have h1 := hwl.out; have h2 := hM.out; omega
    have hM0' : 0 < M := by omega
    obtain ⟨_, _, ew, p5, p6⟩ := rd_w HT4.out.at'.wts.rd 0 (by simp only; rw [hwl.out]; omega)
    cases ew
    simp only at p5 p6
    rw [HWS.out] at p5 p6
    simp only [List.getD_cons_zero, Nat.zero_add, Nat.zero_mul] at p5 p6
    rw [hM.out] at p2
    have hgn : ¬ fp b (some ⟨gv, 0, none⟩) (some ⟨gw, 0, none⟩) G := fun hk => by have := hgs.out G hk; have := hG.out; omega
    have HT5 : Hid (LnTo w 249 b (some ⟨gv, 0, none⟩) (some ⟨gw, 0, none⟩) { s with vs := r, tk := moreL s.tk } ((w4.setCell ⟨G, 0, none⟩ (.int .i64 wp)).setCell ⟨G, 1, none⟩ (.int .i64 wv)) (some ⟨gv, 0, none⟩) m (some ⟨gw, 0, none⟩) c2) := hd
      ((HT4.out.other hgn (by have := hG.out; omega) 0 _).other hgn (by have := hG.out; omega) 1 _)
    have HX5 : Hid (Box2 ((w4.setCell ⟨G, 0, none⟩ (.int .i64 wp)).setCell ⟨G, 1, none⟩ (.int .i64 wv)) 155 G wp wv) := hd (HX4.out.put wp wv)
    have hgw : gw ≠ G := fun e => hgn (.inr (.inr (by rw [e]; rfl)))
    clear HT4 HX4
    go_upto_region 8 with fail
    obtain ⟨w5, hw5⟩ : ∃ W, Hid ((w4.setCell ⟨G, 0, none⟩ (.int .i64 wp)).setCell ⟨G, 1, none⟩ (.int .i64 wv) = W) := ⟨_, rfl⟩
    rw [hw5.out] at HT5 HX5 ⊢
    clear hw5 p2 p5 p6 x0 x1 x2 x3
    have p2 := HT5.out.at'.cells.2.2.1
    simp only at p2
    have hwo := without_w (i := 0) HT5.out.at'.wts (by simp only; rw [hwl.out]; omega)
    simp only at hwo
    rw [hM.out, show ((0 : Nat) : Int) = 0 from rfl] at hwo
    rw [hM.out] at p2
    obtain ⟨k, hk⟩ : ∃ k, Hid (M - 1 = k) := ⟨_, rfl⟩
    rw [hk.out] at hwo
    have HE : Hid (∀ E w6, WOut w5 155 2 gw k (wC (s.ws.eraseIdx 0)) E w6 → (w6.cell? ⟨b, 2, none⟩ = w5.cell? ⟨b, 2, none⟩ ∧ w6.frozen? ⟨b, 2, none⟩ = false) ∧ Hid (LnTo w 249 b (some ⟨gv, 0, none⟩) (some ⟨gw, 0, none⟩) { s with vs := r, tk := moreL s.tk, ws := q } (w6.setCell ⟨b, 2, none⟩ (.slice (some ⟨gw, 0, none⟩) k k)) (some ⟨gv, 0, none⟩) m (some ⟨gw, 0, none⟩) k ∧ Box2 (w6.setCell ⟨b, 2, none⟩ (.slice (some ⟨gw, 0, none⟩) k k)) 155 G wp wv)) := hd (fun E w6 ⟨_, R2, M2⟩ => by
      have M2' : Mod (fun k => blk (some ⟨gw, 0, none⟩) = some k) w5 w6 := M2.mono (fun k _ hk => by rw [hk]; rfl)
      refine ⟨HT5.out.at'.stayW M2' 2, hd ⟨?_, ?_⟩⟩
      · refine HT5.out.putW M2' (ws := q) ?_ ?_ (fun k hk => .inl hk)
        · rw [HWS.out] at R2
          exact R2
        · have h1 := hwl.out
          have h2 := hM.out
          have h3 := hk.out
          omega
      · refine (HX5.out.mod M2 (fun e => hgw e.symm)).set (fun e => hgn (.inl e)) _ _)
    clear HX5 HT5
    go_upto_region 9 with (first | (go_at_call 228; refine hwo.mono ?_; rintro e6 w6 hw6; obtain rfl := hw6.1; obtain ⟨⟨z1, z2⟩, HE2⟩ := HE.out _ w6 hw6; rw [p2] at z1; clear hw6))
    obtain ⟨w7, hw7⟩ : ∃ W, Hid (w6.setCell ⟨b, 2, none⟩ (.slice (some ⟨gw, 0, none⟩) k k) = W) := ⟨_, rfl⟩
    rw [hw7.out] at HE2 ⊢
    clear hw7 z1 z2 hwo p2 HE
    have p1 := HE2.out.1.at'.cells.2.1
    have x1 := HE2.out.2.c1
    simp only at p1
    have hrm : r.length = m := by have h1 := hvl.out; have h2 := hN.out; have h3 := hm.out; omega
    rw [hrm] at p1
    have hmb : m ≤ 64 := by have h3 := hm.out; omega
    have hbl' := HE2.out.1.at'.blt
    have hbl : b ≠ w7.heap.size := Nat.ne_of_lt hbl'
    have hGl : G ≠ w7.heap.size := Nat.ne_of_lt HE2.out.2.lt
    have HT8 : Hid (LnTo w 249 b (some ⟨gv, 0, none⟩) (some ⟨gw, 0, none⟩) { s with vs := r, tk := moreL s.tk, ws := q } w7.drew (some ⟨gv, 0, none⟩) m (some ⟨gw, 0, none⟩) k) := hd (HE2.out.1.bel ((Below.refl _ w7).drew))
    have HX8 : Hid (Box2 w7.drew 155 G wp wv) := hd (HE2.out.2.bel ((Below.refl _ w7).drew))
    clear HE2
    obtain ⟨a', c', w8, hap, R8, M8, B8⟩ := push_i (w := w7.drew) HT8.out.at'.vals (by simp only; omega) wv
    simp only at hap R8 M8 B8
    rw [hrm] at hap R8
    have hap : Hid (∀ ty, (Builtin.append_ #[147, 147] ty #[.slice (some ⟨gv, 0, none⟩) m m, .slice (some ⟨w7.heap.size, 0, none⟩) 1 1]).run Tryz.prog (w7.alloc (.cells #[.int .i64 wv] 2)).drew = .ok (.slice a' (m + 1) c') w8) := hd hap
    obtain ⟨z1, z2⟩ := HT8.out.at'.stayV M8 1
    have hgv : gv ≠ G := fun e => hgn (.inr (.inl (by rw [e]; rfl)))
    have HX9 : Hid (Box2 w8 155 G wp wv) := hd (HX8.out.mod M8 (fun e => hgv (Option.some.inj e)))
    have z1 : w8.cell? ⟨b, 1, none⟩ = some (.slice (some ⟨gv, 0, none⟩) m m) := z1.trans p1
    have z3 := HX9.out.c1
    have HT9 : Hid (LnTo w 249 b (some ⟨gv, 0, none⟩) (some ⟨gw, 0, none⟩) { s with vs := r ++ [wv], tk := moreL s.tk, ws := q } (w8.setCell ⟨b, 1, none⟩ (.slice a' (m + 1) c')) a' c' (some ⟨gw, 0, none⟩) k) := hd
      (HT8.out.putV M8 (vs := r ++ [wv]) (by rw [iC_app]; exact R8) (by simp [hrm]) B8)
    have HX10 : Hid (Box2 (w8.setCell ⟨b, 1, none⟩ (.slice a' (m + 1) c')) 155 G wp wv) := hd (HX9.out.set (fun e => hgn (.inl e)) _ _)
    have hgn9 : Hid (¬ fp b a' (some ⟨gw, 0, none⟩) G) := hd (fun hk => by
      rcases hk with hk | hk | hk
      · exact hgn (.inl hk)
      · rcases B8 G hk with h | h
        · exact hgn (.inr (.inl h))
        · have := HX8.out.lt
          omega
      · exact hgn (.inr (.inr hk)))
    clear HT8 HX8 HX9 R8 M8 B8
    have y1 : (w7.alloc (.cells #[.int .i64 wv] 2)).cell? ⟨b, 1, none⟩ = some (.slice (some ⟨gv, 0, none⟩) m m) := ((below_al w7 _).cell (p := ⟨b, 1, none⟩) hbl').trans p1
    go_region_law ((refine step_append_run (by rfl) _ _ _ (by rfl) _ _ _ _ (by rfl) (by rfl) hap.out ?_))
    all_goals
      obtain ⟨w9, hw9⟩ : ∃ W, Hid (w8.setCell ⟨b, 1, none⟩ (.slice a' (m + 1) c') = W) := ⟨_, rfl⟩
      rw [hw9.out] at HT9 HX10 ⊢
      have HFI : Hid (Q (.returned (tkV (v, (wp, wv), true, 0))) ((w9.setCell ⟨G, 0, none⟩ (.int .i64 wp)).setCell ⟨G, 1, none⟩ (.int .i64 wv)).drew) := hd (by
        rw [← hQ.out]
        have e1 : takeL s = ((v, (wp, wv), true, 0), { s with vs := r ++ [wv], tk := moreL s.tk, ws := q }) := by unfold takeL; rw [HS.out, HWS.out]
        rw [e1]
        exact ⟨rfl, (((HT9.out.other hgn9.out (by have := hG.out; omega) 0 _).other hgn9.out (by have := hG.out; omega) 1 _).bel ((Below.refl _ _).drew)).out HF.out⟩)
      have u0 := HX10.out.c0
      have u1 := HX10.out.c1
      have u2 := HX10.out.fr 0
      have u3 := HX10.out.fr 1
      have u4 := (HX10.out.put wp wv).c0
      have u5 := (HX10.out.put wp wv).c1
      clear HT9 HX10 hap z1 z2 z3 y1 p1 x1 hw9
      go_wp2_with fail
      go_region
      go_wp2_with fail
      refine bodyPost_ret (v := tkV (v, (wp, wv), true, 0)) (by simp [results, Tryz.results222, go_sem, tkV, u4, u5]) rfl HFI.out
theorem take_any {b : Nat} {F : Nat → Prop} {s : LS} {w : World} (h : Ln w 249 b F s) (hg : Good s) (hn : s.ws.length ≤ 8000000000000) :
  Calls Tryz.prog 222 #[.pointer (some ⟨b, 0, none⟩)] w fun e w' => e = .returned (tkV (takeL s).1) ∧ LnOut w 249 b F (takeL s).2 w' := by
 rcases hs : s.vs with _ | ⟨v, r⟩
 ·have e1 : takeL s = ((0, (0, 0), false, 21), s) := by unfold takeL; rw [hs]
  rw [e1]
  exact take_none h hs
 ·exact take_some h hg hs hn
end Go.Proofs.YthnjeejnnhadeaaGreatDoor.Lane

namespace Go.Proofs.YthnjeejnnhadeaaGreatDoor.Lane
open Go.RowKit
structure Told (w w' : World) (s : LS) (g1 g2 : Nat) : Prop where
 vals : Row w' 2 1 (some ⟨g1, 0, none⟩) s.vs.length s.vs.length (iC s.vs)
 wts : Row w' 155 2 (some ⟨g2, 0, none⟩) s.ws.length s.ws.length (wC s.ws)
 n1 : w.heap.size ≤ g1
 n2 : w.heap.size ≤ g2
 ne : g1 ≠ g2
 bel : Below w.heap.size w w'
def alV (s : LS) (a1 : Option Addr) (c1 : Nat) (a2 : Option Addr) (c2 : Nat) : Value := .agg #[.slice a1 s.vs.length c1, .slice a2 s.ws.length c2, .int .i64 s.tk, .int .i64 s.dr]
set_option maxRecDepth 100000 in
set_option maxHeartbeats 2000000 in
theorem state_any {b : Nat} {F : Nat → Prop} {s : LS} {w : World} (h : Ln w 249 b F s) (hv : s.vs.length ≤ 8000000000000) (hn : s.ws.length ≤ 8000000000000) :
    Calls Tryz.prog 160 #[.pointer (some ⟨b, 0, none⟩)] w fun e w' => ∃ g1 g2, e = .returned (alV s (some ⟨g1, 0, none⟩) s.vs.length (some ⟨g2, 0, none⟩) s.ws.length) ∧ Told w w' s g1 g2 := by
  obtain ⟨a1, c1, a2, c2, h, -, -⟩ := h
  have hcI := fun (W : World) (hb : Below w.heap.size w W) => copied_i (cap := c1) (h.below hb).vals.rd hv
  have hcW := fun (W : World) (hb : Below w.heap.size w W) => copied_w (cap := c2) (h.below hb).wts.rd hn
  have HL := hd h
  have hb0 := below_al w (.cells #[.slice none 0 0, .slice none 0 0, .int .i64 0, .int .i64 0] 150)
  obtain ⟨k0, k1, k2, k3, k4⟩ := (h.below hb0).cells
  have hbl := h.blt
  obtain ⟨G, hG⟩ : ∃ G, Hid (w.heap.size = G) := ⟨_, rfl⟩
  have HG : Hid ((w.alloc (.cells #[.slice none 0 0, .slice none 0 0, .int .i64 0, .int .i64 0] 150)).heap[w.heap.size]? = some (.cells #[.slice none 0 0, .slice none 0 0, .int .i64 0, .int .i64 0] 150 (0, 0))) := hd (heap_alloc_new _ _)
  have HB0 := hd hb0
  clear h hb0
  obtain ⟨n, hN⟩ : ∃ n, Hid (s.vs.length = n) := ⟨_, rfl⟩
  obtain ⟨m, hM⟩ : ∃ m, Hid (s.ws.length = m) := ⟨_, rfl⟩
  rw [hN.out] at hcI k1
  rw [hM.out] at hcW k2
  obtain ⟨Q, hQ⟩ : ∃ Q : Ending → World → Prop, Hid ((fun e w' => ∃ g1 g2, e = .returned (alV s (some ⟨g1, 0, none⟩) s.vs.length (some ⟨g2, 0, none⟩) s.ws.length) ∧ Told w w' s g1 g2) = Q) := ⟨_, rfl⟩
  rw [hQ.out]
  go_enter Tryz.func160, Tryz.ntmps160
  go_wp2_with fail
  obtain ⟨w0, hw0⟩ : ∃ W, Hid (w.alloc (.cells #[.slice none 0 0, .slice none 0 0, .int .i64 0, .int .i64 0] 150) = W) := ⟨_, rfl⟩
  rw [hw0.out] at HG HB0 k0 k1 k2 k3 k4 ⊢
  rw [hG.out] at HG ⊢
  have HC : Hid (∀ W : World, Below w.heap.size w W → (W.cell? ⟨b, 1, none⟩ = some (.slice a1 n c1) ∧ W.cell? ⟨b, 2, none⟩ = some (.slice a2 m c2) ∧ W.cell? ⟨b, 3, none⟩ = some (.int .i64 s.tk) ∧ W.cell? ⟨b, 4, none⟩ = some (.int .i64 s.dr))) := hd (fun W hb => by
    have h1 := (HL.out.below hb).cells.2
    rw [hN.out, hM.out] at h1
    exact h1)
  have HD : Hid (∀ W : World, W.heap[G]? = some (.cells #[.slice none 0 0, .slice none 0 0, .int .i64 0, .int .i64 0] 150 (0, 0)) → (W.cell? ⟨G, 0, none⟩ = some (.slice none 0 0) ∧ W.cell? ⟨G, 1, none⟩ = some (.slice none 0 0) ∧ W.cell? ⟨G, 2, none⟩ = some (.int .i64 0) ∧ W.cell? ⟨G, 3, none⟩ = some (.int .i64 0)) ∧ ∀ i, W.frozen? ⟨G, i, none⟩ = false) := hd (fun W hW => by
    refine ⟨⟨?_, ?_, ?_, ?_⟩, fun i => by simp [World.frozen?, hW]⟩ <;> (rw [cell_of_row _ _ _ _ _ _ hW]; rfl))
  have HGl : Hid (G < w0.heap.size) := hd (Array.getElem?_eq_some_iff.1 HG.out).1
  have hc1 := hcI w0.drew HB0.out.drew
  have hbG : b ≠ G := by have := hG.out; omega
  have hso : ∀ (W : World) (i : Nat) (u : Value) (j : Nat), (W.setCell ⟨G, i, none⟩ u).cell? ⟨b, j, none⟩ = W.cell? ⟨b, j, none⟩ := fun W i u j => World.cell?_of_block (Below.heap_setCell _ _ _ _ hbG)
  go_region_held3 (fun w' => w'.cell? ⟨b, 1, none⟩ = some (.slice a1 n c1) ∧ w'.cell? ⟨b, 2, none⟩ = some (.slice a2 m c2) ∧ w'.cell? ⟨b, 3, none⟩ = some (.int .i64 s.tk) ∧ w'.cell? ⟨b, 4, none⟩ = some (.int .i64 s.dr)) (go_keep)
    (first
      | (go_at_call 208; refine hc1.mono ?_; rintro e1 w1 ⟨g1, rfl, R1, hg1, b1⟩
         have B1 := HB0.out.trans ((show Below w0.heap.size w0 w1 from ⟨b1.os, b1.tape, b1.output, b1.size, b1.block⟩).mono HB0.out.size)
         have HG1 := hd ((b1.block G HGl.out).trans HG.out)
         have HR1 := hd R1
         have HR1x := hd R1
         have HB1 := hd b1
         have hc2 := hcW w1 B1
         obtain ⟨u1, u2, u3, u4⟩ := HC.out w1 B1
         have HBB := hd B1
         have hgg1 := hd hg1
         clear R1 b1 B1 hg1)
      | (go_at_call 209; refine hc2.mono ?_; rintro e2 w2 ⟨g2, rfl, R2, hg2, b2⟩
         have B2 := HBB.out.trans (b2.mono HBB.out.size)
         obtain ⟨⟨v1, v2, v3, v4⟩, v5⟩ := HD.out w2 ((b2.block G (Nat.lt_of_lt_of_le HGl.out HB1.out.size)).trans HG1.out)
         obtain ⟨t1, t2, t3, t4⟩ := HC.out w2 B2
         have HR1 := hd (HR1.out.below b2)
         have HR2 := hd R2
         have hgg2 := hd hg2
         have HG2 := hd ((b2.block G (Nat.lt_of_lt_of_le HGl.out HB1.out.size)).trans HG1.out)
         have HBC := hd B2
         clear R2 hg2 b2 B2))
  have HW := heap_setCell_self (i := 3) (heap_setCell_self (i := 2) (heap_setCell_self (i := 1) (heap_setCell_self (i := 0) HG2.out (.slice (some ⟨g1, 0, none⟩) n n)) (.slice (some ⟨g2, 0, none⟩) m m)) (.int .i64 s.tk)) (.int .i64 s.dr)
  have hk : ∀ k, k ≠ G → ((((w2.setCell ⟨G, 0, none⟩ (.slice (some ⟨g1, 0, none⟩) n n)).setCell ⟨G, 1, none⟩ (.slice (some ⟨g2, 0, none⟩) m m)).setCell ⟨G, 2, none⟩ (.int .i64 s.tk)).setCell ⟨G, 3, none⟩ (.int .i64 s.dr)).heap[k]? = w2.heap[k]? := fun k hk => by
    rw [Below.heap_setCell _ _ _ _ hk, Below.heap_setCell _ _ _ _ hk, Below.heap_setCell _ _ _ _ hk, Below.heap_setCell _ _ _ _ hk]
  have HFI : Hid (Q (.returned (alV s (some ⟨g1, 0, none⟩) n (some ⟨g2, 0, none⟩) m)) ((((w2.setCell ⟨G, 0, none⟩ (.slice (some ⟨g1, 0, none⟩) n n)).setCell ⟨G, 1, none⟩ (.slice (some ⟨g2, 0, none⟩) m m)).setCell ⟨G, 2, none⟩ (.int .i64 s.tk)).setCell ⟨G, 3, none⟩ (.int .i64 s.dr))) := hd (by
    rw [← hQ.out, ← hN.out, ← hM.out]
    have h1 : G < g1 := Nat.lt_of_lt_of_le HGl.out hgg1.out
    have h2 : g1 < w1.heap.size := (show Row w1 2 1 (some ⟨g1, 0, none⟩) _ _ _ from HR1x.out).lt g1 rfl
    have h3 : w1.heap.size ≤ g2 := hgg2.out
    have hs := hG.out
    rw [hN.out, hM.out]
    refine ⟨g1, g2, rfl, ?_, ?_, by omega, by omega, by omega, ?_⟩
    · rw [hN.out]; exact HR1.out.kept (fun k hk' => hk k (by cases hk'; simp; omega))
    · rw [hM.out]; exact HR2.out.kept (fun k hk' => hk k (by cases hk'; simp; omega))
    · refine ((((HBC.out.setCell (p := ⟨G, 0, none⟩) ?_ _).setCell (p := ⟨G, 1, none⟩) ?_ _).setCell (p := ⟨G, 2, none⟩) ?_ _).setCell (p := ⟨G, 3, none⟩) ?_ _) <;> simp only <;> omega)
  obtain ⟨w3, hw3⟩ : ∃ W, Hid ((((w2.setCell ⟨G, 0, none⟩ (.slice (some ⟨g1, 0, none⟩) n n)).setCell ⟨G, 1, none⟩ (.slice (some ⟨g2, 0, none⟩) m m)).setCell ⟨G, 2, none⟩ (.int .i64 s.tk)).setCell ⟨G, 3, none⟩ (.int .i64 s.dr) = W) := ⟨_, rfl⟩
  rw [hw3.out] at HFI HW ⊢
  have q0 : w3.cell? ⟨G, 0, none⟩ = some (.slice (some ⟨g1, 0, none⟩) n n) := by rw [cell_of_row _ _ _ _ _ _ HW]; rfl
  have q1 : w3.cell? ⟨G, 1, none⟩ = some (.slice (some ⟨g2, 0, none⟩) m m) := by rw [cell_of_row _ _ _ _ _ _ HW]; rfl
  have q2 : w3.cell? ⟨G, 2, none⟩ = some (.int .i64 s.tk) := by rw [cell_of_row _ _ _ _ _ _ HW]; rfl
  have q3 : w3.cell? ⟨G, 3, none⟩ = some (.int .i64 s.dr) := by rw [cell_of_row _ _ _ _ _ _ HW]; rfl
  unfold alV at HFI
  rw [hN.out, hM.out] at HFI
  clear HW hw3 hk hso HR1 HR2
  go_wp2_with fail
  refine bodyPost_ret (by simp [results, Tryz.results160, go_sem, q0, q1, q2, q3]) rfl HFI.out
end Go.Proofs.YthnjeejnnhadeaaGreatDoor.Lane
