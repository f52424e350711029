/- Put, Drop, Wait, Leave, End. -/
import Derived.Test.YthhcecllejddeaaGreatDoorGLa
import Derived.Deep.RegionLaw
import Derived.Deep.RegionHeld3
namespace Go.Proofs.YthhcecllejddeaaGreatDoor.Lane
open Go.RowKit
theorem wpList_append_run {P : Program} {w : World} {ops : Array Oper} {rest : List Oper} {o : Oper} {a : Act} {Q : Exit → Act → World → Prop} (hgd : o.guard = none) (s x : Operand) (t : TypeId)
  (ho : o.op = .call { callee := .builtin .append, args := #[s, x], argTypes := #[t, t] }) (v vx v' : Value) (w' : World) (hs : a.eval s = v) (hx : a.eval x = vx)
  (hrun : ∀ ty, (Builtin.append_ #[t, t] ty #[v, vx]).run P w = .ok v' w') (h : wpList P ops Q rest (a.put o.dst v') w') : wpList P ops Q (o :: rest) a w :=
 wpList_plain hgd fun K hK => by
  unfold Oper.wp execOp
  simp only [ho, resolve, invoke, builtin, Sem.run_bind, Sem.run_pure, Result.andThen_ok, List.map_toArray, List.map_cons, List.map_nil, hs, hx, hrun]
  exact hK _ _ h
theorem step_append_run {P : Program} {w : World} {ops : Array Oper} {o : Oper} {a : Act} {K : Act → World → Prop} {Q : Exit → Act → World → Prop} {E : Prop} (hgd : o.guard = none) (s x : Operand) (t : TypeId)
  (ho : o.op = .call { callee := .builtin .append, args := #[s, x], argTypes := #[t, t] }) (v vx v' : Value) (w' : World) (hs : a.eval s = v) (hx : a.eval x = vx)
  (hrun : ∀ ty, (Builtin.append_ #[t, t] ty #[v, vx]).run P w = .ok v' w') (h : K (a.put o.dst v') w') : if Region.wanted o (yielded ops a.tmps) = true then Oper.wp P o a w K Q else E := by
 have hw : Region.wanted o (yielded ops a.tmps) = true := by simp [Region.wanted, hgd]
 rw [if_pos hw]
 unfold Oper.wp execOp
 simp only [ho, resolve, invoke, builtin, Sem.run_bind, Sem.run_pure, Result.andThen_ok, List.map_toArray, List.map_cons, List.map_nil, hs, hx, hrun]
 exact h
section
variable {w w' : World} {T : TypeId} {b : Nat} {s : LS} {a1 a2 : Option Addr} {c1 c2 : Nat} {F : Nat → Prop}
theorem LnAt.stayW (h : LnAt w T b s a1 c1 a2 c2) (hm : Mod (fun k => blk a2 = some k) w w') (i : Nat) : w'.cell? ⟨b, i, none⟩ = w.cell? ⟨b, i, none⟩ ∧ w'.frozen? ⟨b, i, none⟩ = false :=
 ⟨hm.cell h.blt (fun e => (h.f2 b e).1 rfl), (hm.frozen h.blt (fun e => (h.f2 b e).1 rfl)).trans (h.free i)⟩
end
theorem LnOut.mk' {w w1 w2 : World} {T : TypeId} {b : Nat} {s' : LS} {a1 a2 a1' a2' : Option Addr} {c1' c2' : Nat} {F : Nat → Prop} (hf : ∀ k, fp b a1 a2 k → F k) (hb : Below w.heap.size w w1) (hm : Mod (fp b a1 a2) w1 w2)
  (hL : LnAt w2 T b s' a1' c1' a2' c2') (hn : ∀ k, fp b a1' a2' k → fp b a1 a2 k ∨ w1.heap.size ≤ k) : LnOut w T b F s' w2 :=
 ⟨(Mod.of_below F hb).trans hm (fun i hi => .inl (hf i hi)), _, hL.ln, fun k hk => by
  rcases hn k hk with h | h
  ·exact .inl (hf k h)
  ·exact .inr (Nat.le_trans hb.size h)⟩
end Go.Proofs.YthhcecllejddeaaGreatDoor.Lane

namespace Go.Proofs.YthhcecllejddeaaGreatDoor.Lane
open Go.RowKit
set_option maxRecDepth 100000 in
set_option maxHeartbeats 1000000 in
theorem leave_any {b : Nat} {F : Nat → Prop} {s : LS} {w : World} (h : Ln w 263 b F s) (p : Int) (hn : s.ws.length ≤ 8000000000000) :
  Calls Tryz.prog 199 #[.pointer (some ⟨b, 0, none⟩), .int .i64 p] w fun e w' => e = .returned (.bool (leaveL s p).1) ∧ LnOut w 263 b F (leaveL s p).2 w' := by
 have hpl := place_any h p hn
 rcases idxL_cases s.ws p with ⟨hi, _⟩ | ⟨i, hi, hil⟩
 ·have e1 : leaveL s p = (false, s) := by unfold leaveL; rw [if_neg (by omega)]
  rw [e1]
  rw [hi] at hpl
  have HL := hd h
  clear hi h e1
  go_enter Tryz.func199, Tryz.ntmps199
  go_wp2_with (first | (go_at_call 240; refine hpl.mono ?_; rintro e2 w2 ⟨rfl, b2⟩))
  go_ret
  exact ⟨rfl, LnOut.same HL.out b2⟩
 ·have e1 : leaveL s p = (true, { s with ws := s.ws.eraseIdx i }) := by unfold leaveL; rw [if_pos (by omega), hi]; simp
  rw [e1]
  rw [hi] at hpl
  obtain ⟨a1, c1, a2, c2, h, hF, -⟩ := h
  obtain ⟨g, rfl⟩ := h.wts.head (by omega)
  have HL := hd h
  have HF := hd hF
  clear h hF e1 hi
  go_enter Tryz.func199, Tryz.ntmps199
  go_upto_region 4 with (first | (go_at_call 240; refine hpl.mono ?_; rintro e2 w2 ⟨rfl, b2⟩))
  have h1 := HL.out.below b2
  have hwo := without_w h1.wts hil
  have q1 := h1.cells.2.2.1
  have HE : ∀ w3, WOut w2 259 2 g (s.ws.length - 1) (wC (s.ws.eraseIdx i)) (.returned (.slice (some ⟨g, 0, none⟩) (s.ws.length - 1) (s.ws.length - 1))) w3 →
    w3.cell? ⟨b, 2, none⟩ = w2.cell? ⟨b, 2, none⟩ ∧ w3.frozen? ⟨b, 2, none⟩ = false ∧ Hid (LnOut w 263 b F { s with ws := s.ws.eraseIdx i } (w3.setCell ⟨b, 2, none⟩ (.slice (some ⟨g, 0, none⟩) (s.ws.length - 1) (s.ws.length - 1)))) := fun w3 ⟨_, R3, M3⟩ => by
   have M2 : Mod (fun k => blk (some ⟨g, 0, none⟩) = some k) w2 w3 := M3.mono (fun k _ hk => by rw [hk]; rfl)
   obtain ⟨z1, z2⟩ := h1.stayW M2 2
   refine ⟨z1, z2, hd ?_⟩
   have hP := h1.putW M2 (ws' := s.ws.eraseIdx i) R3 (by rw [List.length_eraseIdx, if_pos hil]) (fun k hk => .inl hk)
   exact LnOut.mk' HF.out b2 ((M2.mono (fun k _ hk => .inr (.inr hk))).setCell (.inl (.inl rfl)) _) hP (fun k hk => .inl hk)
  clear HL HF h1 hpl b2
  obtain ⟨n, hN⟩ : ∃ n, s.ws.length - 1 = n := ⟨_, rfl⟩
  rw [hN] at HE hwo
  clear hN
  have HE := hd HE
  go_upto_region 5 with (first | (go_at_call 241; refine hwo.mono ?_; rintro e3 w3 hw3; obtain rfl := hw3.1; obtain ⟨z1, z2, HE3⟩ := HE.out w3 hw3; rw [q1] at z1; clear hw3))
  go_wp2_with fail
  go_ret
  exact ⟨rfl, HE3.out⟩
set_option maxRecDepth 100000 in
theorem end_any {b : Nat} {F : Nat → Prop} {s : LS} {w : World} (h : Ln w 263 b F s) (hn : s.ws.length ≤ 8000000000000) :
  Calls Tryz.prog 202 #[.pointer (some ⟨b, 0, none⟩)] w fun e w' => ∃ g, e = .returned (.slice (some ⟨g, 0, none⟩) s.ws.length s.ws.length) ∧ Row w' 259 2 (some ⟨g, 0, none⟩) s.ws.length s.ws.length (wC s.ws) ∧ w.heap.size ≤ g ∧ Mod F w w' ∧ Ln w' 263 b F (endL s) := by
 obtain ⟨a1, c1, a2, c2, h, hF, hlt⟩ := h
 have q1 := h.cells.2.2.1
 have hcp := copied_w (cap := c2) h.wts.rd hn
 have HL := hd h
 have HF := hd hF
 have HT := hd hlt
 clear h hF hlt
 go_enter Tryz.func202, Tryz.ntmps202
 go_upto_region 2 with (first | (go_at_call 159; refine hcp.mono ?_; rintro e3 w3 ⟨g, rfl, R3, hg3, b3⟩))
 have h1 := HL.out.below b3
 have q1 := h1.cells.2.2.1
 have q2 := h1.free 2
 have HE : Hid (Row (w3.setCell ⟨b, 2, none⟩ (.slice none 0 0)) 259 2 (some ⟨g, 0, none⟩) s.ws.length s.ws.length (wC s.ws) ∧ w.heap.size ≤ g ∧ Mod F w (w3.setCell ⟨b, 2, none⟩ (.slice none 0 0)) ∧ Ln (w3.setCell ⟨b, 2, none⟩ (.slice none 0 0)) 263 b F (endL s)) := hd (by
  have hb := HF.out b (.inl rfl)
  refine ⟨R3.kept (fun k hk => Below.heap_setCell _ _ _ _ (fun e => ?_)), hg3, (Mod.of_below F b3).setCell (.inl hb) _, ?_⟩
  ·cases hk
   have := HL.out.blt
   simp only at e
   omega
  ·refine ⟨a1, c1, none, 0, h1.putW (ws' := []) (Mod.refl _ _) Row.nil rfl (fun k hk => by cases hk), fun k hk => ?_, fun k hk => ?_⟩
   ·rcases hk with hk | hk | hk
    ·exact HF.out k (.inl hk)
    ·exact HF.out k (.inr (.inl hk))
    ·cases hk
   ·have := HT.out k hk
    have := b3.size
    simp [World.setCell]
    omega)
 clear R3 hg3 b3 h1 HL HF HT hcp
 go_wp2_with fail
 go_ret
 exact ⟨g, rfl, HE.out⟩
end Go.Proofs.YthhcecllejddeaaGreatDoor.Lane

namespace Go.Proofs.YthhcecllejddeaaGreatDoor.Lane
open Go.RowKit
section
variable {w w' w'' : World} {T : TypeId} {b : Nat} {s' : LS} {a1 a2 a1' a2' : Option Addr} {c1' c2' : Nat} {F : Nat → Prop}
end
section
variable {w w' : World} {t : TypeId} {G : Nat} {x y : Int}
end
end Go.Proofs.YthhcecllejddeaaGreatDoor.Lane

namespace Go.Proofs.YthhcecllejddeaaGreatDoor.Lane
open Go.RowKit
structure Told (w w' : World) (s : LS) (g1 g2 : Nat) : Prop where
 vals : Row w' 2 1 (some ⟨g1, 0, none⟩) s.vs.length s.vs.length (iC s.vs)
 wts : Row w' 259 2 (some ⟨g2, 0, none⟩) s.ws.length s.ws.length (wC s.ws)
 n1 : w.heap.size ≤ g1
 n2 : w.heap.size ≤ g2
 ne : g1 ≠ g2
 bel : Below w.heap.size w w'
def alV (s : LS) (a1 : Option Addr) (c1 : Nat) (a2 : Option Addr) (c2 : Nat) : Value := .agg #[.slice a1 s.vs.length c1, .slice a2 s.ws.length c2, .int .i64 s.tk, .int .i64 s.dr]
set_option maxRecDepth 100000 in
set_option maxHeartbeats 2000000 in
theorem state_any {b : Nat} {F : Nat → Prop} {s : LS} {w : World} (h : Ln w 263 b F s) (hv : s.vs.length ≤ 8000000000000) (hn : s.ws.length ≤ 8000000000000) :
    Calls Tryz.prog 116 #[.pointer (some ⟨b, 0, none⟩)] w fun e w' => ∃ g1 g2, e = .returned (alV s (some ⟨g1, 0, none⟩) s.vs.length (some ⟨g2, 0, none⟩) s.ws.length) ∧ Told w w' s g1 g2 := by
  obtain ⟨a1, c1, a2, c2, h, -, -⟩ := h
  have hcI := fun (W : World) (hb : Below w.heap.size w W) => copied_i (cap := c1) (h.below hb).vals.rd hv
  have hcW := fun (W : World) (hb : Below w.heap.size w W) => copied_w (cap := c2) (h.below hb).wts.rd hn
  have HL := hd h
  have hb0 := below_al w (.cells #[.slice none 0 0, .slice none 0 0, .int .i64 0, .int .i64 0] 219)
  obtain ⟨k0, k1, k2, k3, k4⟩ := (h.below hb0).cells
  have hbl := h.blt
  obtain ⟨G, hG⟩ : ∃ G, Hid (w.heap.size = G) := ⟨_, rfl⟩
  have HG : Hid ((w.alloc (.cells #[.slice none 0 0, .slice none 0 0, .int .i64 0, .int .i64 0] 219)).heap[w.heap.size]? = some (.cells #[.slice none 0 0, .slice none 0 0, .int .i64 0, .int .i64 0] 219 (0, 0))) := hd (heap_alloc_new _ _)
  have HB0 := hd hb0
  clear h hb0
  obtain ⟨n, hN⟩ : ∃ n, Hid (s.vs.length = n) := ⟨_, rfl⟩
  obtain ⟨m, hM⟩ : ∃ m, Hid (s.ws.length = m) := ⟨_, rfl⟩
  rw [hN.out] at hcI k1
  rw [hM.out] at hcW k2
  obtain ⟨Q, hQ⟩ : ∃ Q : Ending → World → Prop, Hid ((fun e w' => ∃ g1 g2, e = .returned (alV s (some ⟨g1, 0, none⟩) s.vs.length (some ⟨g2, 0, none⟩) s.ws.length) ∧ Told w w' s g1 g2) = Q) := ⟨_, rfl⟩
  rw [hQ.out]
  go_enter Tryz.func116, Tryz.ntmps116
  go_wp2_with fail
  obtain ⟨w0, hw0⟩ : ∃ W, Hid (w.alloc (.cells #[.slice none 0 0, .slice none 0 0, .int .i64 0, .int .i64 0] 219) = W) := ⟨_, rfl⟩
  rw [hw0.out] at HG HB0 k0 k1 k2 k3 k4 ⊢
  rw [hG.out] at HG ⊢
  have HC : Hid (∀ W : World, Below w.heap.size w W → (W.cell? ⟨b, 1, none⟩ = some (.slice a1 n c1) ∧ W.cell? ⟨b, 2, none⟩ = some (.slice a2 m c2) ∧ W.cell? ⟨b, 3, none⟩ = some (.int .i64 s.tk) ∧ W.cell? ⟨b, 4, none⟩ = some (.int .i64 s.dr))) := hd (fun W hb => by
    have h1 := (HL.out.below hb).cells.2
    rw [hN.out, hM.out] at h1
    exact h1)
  have HD : Hid (∀ W : World, W.heap[G]? = some (.cells #[.slice none 0 0, .slice none 0 0, .int .i64 0, .int .i64 0] 219 (0, 0)) → (W.cell? ⟨G, 0, none⟩ = some (.slice none 0 0) ∧ W.cell? ⟨G, 1, none⟩ = some (.slice none 0 0) ∧ W.cell? ⟨G, 2, none⟩ = some (.int .i64 0) ∧ W.cell? ⟨G, 3, none⟩ = some (.int .i64 0)) ∧ ∀ i, W.frozen? ⟨G, i, none⟩ = false) := hd (fun W hW => by
    refine ⟨⟨?_, ?_, ?_, ?_⟩, fun i => by simp [World.frozen?, hW]⟩ <;> (rw [cell_of_row _ _ _ _ _ _ hW]; rfl))
  have HGl : Hid (G < w0.heap.size) := hd (Array.getElem?_eq_some_iff.1 HG.out).1
  have hc1 := hcI w0.drew HB0.out.drew
  have hbG : b ≠ G := by have := hG.out; omega
  have hso : ∀ (W : World) (i : Nat) (u : Value) (j : Nat), (W.setCell ⟨G, i, none⟩ u).cell? ⟨b, j, none⟩ = W.cell? ⟨b, j, none⟩ := fun W i u j => World.cell?_of_block (Below.heap_setCell _ _ _ _ hbG)
  go_region_held3 (fun w' => w'.cell? ⟨b, 1, none⟩ = some (.slice a1 n c1) ∧ w'.cell? ⟨b, 2, none⟩ = some (.slice a2 m c2) ∧ w'.cell? ⟨b, 3, none⟩ = some (.int .i64 s.tk) ∧ w'.cell? ⟨b, 4, none⟩ = some (.int .i64 s.dr)) (go_keep)
    (first
      | (go_at_call 158; refine hc1.mono ?_; rintro e1 w1 ⟨g1, rfl, R1, hg1, b1⟩
         have B1 := HB0.out.trans ((show Below w0.heap.size w0 w1 from ⟨b1.os, b1.tape, b1.output, b1.size, b1.block⟩).mono HB0.out.size)
         have HG1 := hd ((b1.block G HGl.out).trans HG.out)
         have HR1 := hd R1
         have HR1x := hd R1
         have HB1 := hd b1
         have hc2 := hcW w1 B1
         obtain ⟨u1, u2, u3, u4⟩ := HC.out w1 B1
         have HBB := hd B1
         have hgg1 := hd hg1
         clear R1 b1 B1 hg1)
      | (go_at_call 159; refine hc2.mono ?_; rintro e2 w2 ⟨g2, rfl, R2, hg2, b2⟩
         have B2 := HBB.out.trans (b2.mono HBB.out.size)
         obtain ⟨⟨v1, v2, v3, v4⟩, v5⟩ := HD.out w2 ((b2.block G (Nat.lt_of_lt_of_le HGl.out HB1.out.size)).trans HG1.out)
         obtain ⟨t1, t2, t3, t4⟩ := HC.out w2 B2
         have HR1 := hd (HR1.out.below b2)
         have HR2 := hd R2
         have hgg2 := hd hg2
         have HG2 := hd ((b2.block G (Nat.lt_of_lt_of_le HGl.out HB1.out.size)).trans HG1.out)
         have HBC := hd B2
         clear R2 hg2 b2 B2))
  have HW := heap_setCell_self (i := 3) (heap_setCell_self (i := 2) (heap_setCell_self (i := 1) (heap_setCell_self (i := 0) HG2.out (.slice (some ⟨g1, 0, none⟩) n n)) (.slice (some ⟨g2, 0, none⟩) m m)) (.int .i64 s.tk)) (.int .i64 s.dr)
  have hk : ∀ k, k ≠ G → ((((w2.setCell ⟨G, 0, none⟩ (.slice (some ⟨g1, 0, none⟩) n n)).setCell ⟨G, 1, none⟩ (.slice (some ⟨g2, 0, none⟩) m m)).setCell ⟨G, 2, none⟩ (.int .i64 s.tk)).setCell ⟨G, 3, none⟩ (.int .i64 s.dr)).heap[k]? = w2.heap[k]? := fun k hk => by
    rw [Below.heap_setCell _ _ _ _ hk, Below.heap_setCell _ _ _ _ hk, Below.heap_setCell _ _ _ _ hk, Below.heap_setCell _ _ _ _ hk]
  have HFI : Hid (Q (.returned (alV s (some ⟨g1, 0, none⟩) n (some ⟨g2, 0, none⟩) m)) ((((w2.setCell ⟨G, 0, none⟩ (.slice (some ⟨g1, 0, none⟩) n n)).setCell ⟨G, 1, none⟩ (.slice (some ⟨g2, 0, none⟩) m m)).setCell ⟨G, 2, none⟩ (.int .i64 s.tk)).setCell ⟨G, 3, none⟩ (.int .i64 s.dr))) := hd (by
    rw [← hQ.out, ← hN.out, ← hM.out]
    have h1 : G < g1 := Nat.lt_of_lt_of_le HGl.out hgg1.out
    have h2 : g1 < w1.heap.size := (show Row w1 2 1 (some ⟨g1, 0, none⟩) _ _ _ from HR1x.out).lt g1 rfl
    have h3 : w1.heap.size ≤ g2 := hgg2.out
    have hs := hG.out
    rw [hN.out, hM.out]
    refine ⟨g1, g2, rfl, ?_, ?_, by omega, by omega, by omega, ?_⟩
    · rw [hN.out]; exact HR1.out.kept (fun k hk' => hk k (by cases hk'; simp; omega))
    · rw [hM.out]; exact HR2.out.kept (fun k hk' => hk k (by cases hk'; simp; omega))
    · refine ((((HBC.out.setCell (p := ⟨G, 0, none⟩) ?_ _).setCell (p := ⟨G, 1, none⟩) ?_ _).setCell (p := ⟨G, 2, none⟩) ?_ _).setCell (p := ⟨G, 3, none⟩) ?_ _) <;> simp only <;> omega)
  obtain ⟨w3, hw3⟩ : ∃ W, Hid ((((w2.setCell ⟨G, 0, none⟩ (.slice (some ⟨g1, 0, none⟩) n n)).setCell ⟨G, 1, none⟩ (.slice (some ⟨g2, 0, none⟩) m m)).setCell ⟨G, 2, none⟩ (.int .i64 s.tk)).setCell ⟨G, 3, none⟩ (.int .i64 s.dr) = W) := ⟨_, rfl⟩
  rw [hw3.out] at HFI HW ⊢
  have q0 : w3.cell? ⟨G, 0, none⟩ = some (.slice (some ⟨g1, 0, none⟩) n n) := by rw [cell_of_row _ _ _ _ _ _ HW]; rfl
  have q1 : w3.cell? ⟨G, 1, none⟩ = some (.slice (some ⟨g2, 0, none⟩) m m) := by rw [cell_of_row _ _ _ _ _ _ HW]; rfl
  have q2 : w3.cell? ⟨G, 2, none⟩ = some (.int .i64 s.tk) := by rw [cell_of_row _ _ _ _ _ _ HW]; rfl
  have q3 : w3.cell? ⟨G, 3, none⟩ = some (.int .i64 s.dr) := by rw [cell_of_row _ _ _ _ _ _ HW]; rfl
  unfold alV at HFI
  rw [hN.out, hM.out] at HFI
  clear HW hw3 hk hso HR1 HR2
  go_wp2_with fail
  refine bodyPost_ret (by simp [results, Tryz.results116, go_sem, q0, q1, q2, q3]) rfl HFI.out
end Go.Proofs.YthhcecllejddeaaGreatDoor.Lane
