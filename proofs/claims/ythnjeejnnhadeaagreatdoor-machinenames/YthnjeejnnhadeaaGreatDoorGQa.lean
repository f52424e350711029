/- Configs: which may be. -/
import Derived.Test.YthnjeejnnhadeaaGreatDoorGCa
import Derived.Test.YthnjeejnnhadeaaGreatDoorGCb
import Derived.Test.YthnjeejnnhadeaaGreatDoorGXLW1
import Derived.Deep.LoopGhost
import Derived.Deep.RegionHeld3
import Derived.Deep.CondSized
import Derived.Deep.DeepCutAuto
import Derived.Deep.CutRange
import Derived.Deep.CutBlock
import Derived.Deep.QuietTactic
import Derived.BigQuiet
import Derived.Laws.MakeOwn
namespace Go.Proofs.YthnjeejnnhadeaaGreatDoor
open Go.RowKit
structure Pr where
 part : Int
 code : List Ins
instance : Inhabited Pr := ⟨⟨0, []⟩⟩
structure Cfg where
 labels : List Nat
 table : List Int
 fuel : Int
 lane : Int
 locks : Int
 log : Int
 procs : List Pr
def lbFrom (l : List Nat) : Nat → Nat → Nat × Nat
 | 0, _ => (0, 0)
 | m + 1, i => if l.getD i 0 = l.getD (i - 1) 0 then (8, i) else if l.getD i 0 < l.getD (i - 1) 0 then (7, i) else lbFrom l m (i + 1)
def lbL (l : List Nat) : Nat × Nat := if l.length = 0 then (1, 0) else if 8 < l.length then (3, 8) else lbFrom l (l.length - 1) 1
def isPt (P x : Int) : Bool := decide (0 ≤ x) && decide (x < P)
def tabE (l : List Int) (P : Int) : Int := if l.length = 0 then 1 else if 64 < l.length then 3 else if l.all (isPt P) then 0 else 2
def rngE (lo hi v : Int) : Int := if lo ≤ v ∧ v ≤ hi then 0 else 2
def cntE (most n : Int) : Int := if n = 0 then 1 else if most < n then 3 else 0
def prE (P K : Int) (p : Pr) : Int := if rngE 0 (P - 1) p.part ≠ 0 then 2 else (mayL p.code K).1
def prF (P K : Int) : List Pr → Int → Int × Int
 | [], _ => (0, 0)
 | p :: r, i => if prE P K p ≠ 0 then (prE P K p, 7 + i) else prF P K r (i + 1)
def mayC (c : Cfg) : Int × Int :=
 if (lbL c.labels).1 ≠ 0 then ((lbL c.labels).1, 0) else
 if tabE c.table c.labels.length ≠ 0 then (tabE c.table c.labels.length, 1) else
 if rngE 1 256 c.fuel ≠ 0 then (2, 2) else
 if rngE 1 64 c.lane ≠ 0 then (2, 3) else
 if rngE 0 8 c.locks ≠ 0 then (2, 4) else
 if rngE 0 4096 c.log ≠ 0 then (2, 5) else
 if cntE 32 c.procs.length ≠ 0 then (cntE 32 c.procs.length, 6) else
 prF c.labels.length c.locks c.procs 0
end Go.Proofs.YthnjeejnnhadeaaGreatDoor

namespace Go.Proofs.YthnjeejnnhadeaaGreatDoor
open Go.RowKit
theorem info_parts {t : TypeId} {z : Value} {s b : Nat} (h : (Tryz.prog.info? t).map (fun i => (i.zero, i.size, i.bytes)) = some (some z, s, b)) : ∃ i, Tryz.prog.info? t = some i ∧ i.zero = some z ∧ i.size = s ∧ i.bytes = b := by
 cases hh : Tryz.prog.info? t with
 | none => rw [hh] at h; cases h
 | some i => rw [hh] at h; simp at h; exact ⟨i, rfl, h.1, h.2.1, h.2.2⟩
theorem push_any {T e : TypeId} {z : Value} {size bytes : Nat} (hu : Tryz.prog.underlying T = some (.slice e)) (hinfo : (Tryz.prog.info? e).map (fun i => (i.zero, i.size, i.bytes)) = some (some z, size, bytes)) (hzs : z.cells.size = size) (hb64 : bytes ≤ 64)
  {w : World} {a : Option Addr} {n c : Nat} {xs : List Value} (hR : Row w e size a n c xs) (hn : n ≤ 1000000000000) (us : List Value) (hus : us.length = size) (h1 : ∀ u ∈ us, u.oneCell' = true) :
  ∃ a' c' w', (∀ ty, (Builtin.append_ #[T, T] ty #[.slice a n c, .slice (some ⟨w.heap.size, 0, none⟩) 1 1]).run Tryz.prog (w.alloc (.cells us.toArray e)) = .ok (.slice a' (n + 1) c') w') ∧
   Row w' e size a' (n + 1) c' (xs ++ us) ∧ Mod (fun k => blk a = some k) w w' ∧ (∀ k, blk a' = some k → blk a = some k ∨ w.heap.size ≤ k) := by
 obtain ⟨i, k1, k2, k3, k4⟩ := info_parts hinfo
 have hb := below_al w (.cells us.toArray e)
 have hh := heap_alloc_new w (.cells us.toArray e)
 have hs : Src Tryz.prog size T (.slice (some ⟨w.heap.size, 0, none⟩) 1 1) 1 us (w.alloc (.cells us.toArray e)) := by
  refine Src.ofSlice _ hu _ _ _ _ (by omega) (fun j u hj => ?_) h1
  rw [addr_add, cell_of_row _ _ _ _ _ _ hh, Nat.zero_add]
  simpa using hj
 obtain ⟨a', c', w', m1, m2, m3, m4, _⟩ := run_append_row (P := Tryz.prog) _ T e i _ size bytes hu k1 k2 k3 k4 hzs (hR.below hb) _ 1 _ hs (by unfold maxLen; omega) (by
  have : (n + 1) * bytes ≤ (n + 1) * 64 := Nat.mul_le_mul_left _ hb64
  omega)
 refine ⟨a', c', w', m1, m2, (Mod.of_below _ hb).trans m3 (fun _ h => .inl h), fun k hk => ?_⟩
 rcases m4 k hk with h | h
 ·exact .inl h
 ·exact .inr (by have := hb.size; omega)
theorem wpList_append_run {P : Program} {w : World} {ops : Array Oper} {rest : List Oper} {o : Oper} {a : Act} {Q : Exit → Act → World → Prop} (hgd : o.guard = none) (s x : Operand) (t : TypeId)
  (ho : o.op = .call { callee := .builtin .append, args := #[s, x], argTypes := #[t, t] }) (v vx v' : Value) (w' : World) (hs : a.eval s = v) (hx : a.eval x = vx)
  (hrun : ∀ ty, (Builtin.append_ #[t, t] ty #[v, vx]).run P w = .ok v' w') (h : wpList P ops Q rest (a.put o.dst v') w') : wpList P ops Q (o :: rest) a w :=
 wpList_plain hgd fun K hK => by
  unfold Oper.wp execOp
  simp only [ho, resolve, invoke, builtin, Sem.run_bind, Sem.run_pure, Result.andThen_ok, List.map_toArray, List.map_cons, List.map_nil, hs, hx, hrun]
  exact hK _ _ h
theorem info_u64 : (Tryz.prog.info? 82).map (fun i => (i.zero, i.size, i.bytes)) = some (some (.int .u64 0), 1, 8) := by kernel_rfl
theorem info_int : (Tryz.prog.info? 3).map (fun i => (i.zero, i.size, i.bytes)) = some (some (.int .i64 0), 1, 8) := by kernel_rfl
theorem info_insn : (Tryz.prog.info? 84).map (fun i => (i.zero, i.size, i.bytes)) = some (some (.agg #[.int .i64 0, .int .i64 0, .int .i64 0, .int .i64 0, .int .i64 0]), 5, 40) := by kernel_rfl
theorem info_proc : (Tryz.prog.info? 79).map (fun i => (i.zero, i.size, i.bytes)) = some (some (.agg #[.int .i64 0, .slice none 0 0]), 2, 32) := by kernel_rfl
theorem below_draw (w : World) (n : Nat) : Below w.heap.size w (w.drewN n) := ⟨rfl, rfl, rfl, Nat.le_refl _, fun _ _ => rfl⟩
set_option maxRecDepth 100000 in
theorem within_any (v lo hi : Int) (w : World) :
  Calls Tryz.prog 65 #[.int .i64 v, .int .i64 lo, .int .i64 hi] w fun e w' => e = .returned (.int .i64 (rngE lo hi v)) ∧ w' = w := by
 obtain ⟨E, hE⟩ : ∃ E, Hid (rngE lo hi v = E) := ⟨_, rfl⟩
 rw [hE.out]
 by_cases h1 : v < lo
 ·obtain rfl : E = 2 := by rw [← hE.out, rngE, if_neg (by omega)]
  go_enter Tryz.func65, Tryz.ntmps65
  go_wp2
  go_ret
  exact ⟨rfl, rfl⟩
 ·have d1 : decide (v < lo) = false := by simpa using h1
  by_cases h2 : hi < v
  ·obtain rfl : E = 2 := by rw [← hE.out, rngE, if_neg (by omega)]
   go_enter Tryz.func65, Tryz.ntmps65
   go_wp2
   go_ret
   exact ⟨rfl, rfl⟩
  ·have d2 : decide (hi < v) = false := by simpa using h2
   obtain rfl : E = 0 := by rw [← hE.out, rngE, if_pos (by omega)]
   go_enter Tryz.func65, Tryz.ntmps65
   go_wp2
   go_ret
   exact ⟨rfl, rfl⟩
set_option maxRecDepth 100000 in
theorem some_any (n most : Int) (w : World) :
  Calls Tryz.prog 66 #[.int .i64 n, .int .i64 most] w fun e w' => e = .returned (.int .i64 (cntE most n)) ∧ w' = w := by
 obtain ⟨E, hE⟩ : ∃ E, Hid (cntE most n = E) := ⟨_, rfl⟩
 rw [hE.out]
 by_cases h1 : n = 0
 ·obtain rfl : E = 1 := by rw [← hE.out, cntE, if_pos h1]
  subst h1
  go_enter Tryz.func66, Tryz.ntmps66
  go_wp2
  go_ret
  exact ⟨rfl, rfl⟩
 ·have d1 : (n == 0) = false := by simpa using h1
  by_cases h2 : most < n
  ·obtain rfl : E = 3 := by rw [← hE.out, cntE, if_neg h1, if_pos h2]
   go_enter Tryz.func66, Tryz.ntmps66
   go_wp2
   go_ret
   exact ⟨rfl, rfl⟩
  ·have d2 : decide (most < n) = false := by simpa using h2
   obtain rfl : E = 0 := by rw [← hE.out, cntE, if_neg h1, if_neg h2]
   go_enter Tryz.func66, Tryz.ntmps66
   go_wp2
   go_ret
   exact ⟨rfl, rfl⟩
theorem lab_len {l : List Nat} (h : (lbL l).1 = 0) : 1 ≤ l.length ∧ l.length ≤ 8 := by
 unfold lbL at h
 split at h
 ·simp at h
 ·split at h
  ·simp at h
  ·omega
theorem prF_iff (P K : Int) : ∀ (l : List Pr) (i : Int), (prF P K l i).1 = 0 ↔ ∀ p ∈ l, prE P K p = 0
 | [], _ => by simp [prF]
 | p :: r, i => by
  unfold prF
  by_cases h : prE P K p = 0
  ·rw [if_neg (by simp [h]), prF_iff P K r (i + 1)]
   simp [h]
  ·rw [if_pos h]
   simp [h]
theorem prF_zero (P K : Int) : ∀ (l : List Pr) (i : Int), (prF P K l i).1 = 0 → prF P K l i = (0, 0)
 | [], _, _ => rfl
 | p :: r, i, h => by
  unfold prF at h ⊢
  by_cases h1 : prE P K p = 0
  ·rw [if_neg (by simp [h1])] at h ⊢
   exact prF_zero P K r (i + 1) h
  ·rw [if_pos h1] at h
   exact absurd h h1
theorem mayC_iff (c : Cfg) : (mayC c).1 = 0 ↔ (lbL c.labels).1 = 0 ∧ tabE c.table c.labels.length = 0 ∧ rngE 1 256 c.fuel = 0 ∧ rngE 1 64 c.lane = 0 ∧ rngE 0 8 c.locks = 0 ∧ rngE 0 4096 c.log = 0 ∧ cntE 32 c.procs.length = 0 ∧ ∀ p ∈ c.procs, prE c.labels.length c.locks p = 0 := by
 unfold mayC
 by_cases h0 : (lbL c.labels).1 = 0
 ·rw [if_neg (by simp [h0])]
  by_cases h1 : tabE c.table c.labels.length = 0
  ·rw [if_neg (by simp [h1])]
   by_cases h2 : rngE 1 256 c.fuel = 0
   ·rw [if_neg (by simp [h2])]
    by_cases h3 : rngE 1 64 c.lane = 0
    ·rw [if_neg (by simp [h3])]
     by_cases h4 : rngE 0 8 c.locks = 0
     ·rw [if_neg (by simp [h4])]
      by_cases h5 : rngE 0 4096 c.log = 0
      ·rw [if_neg (by simp [h5])]
       by_cases h6 : cntE 32 c.procs.length = 0
       ·rw [if_neg (by simp [h6]), prF_iff]
        simp [h0, h1, h2, h3, h4, h5, h6]
       ·rw [if_pos h6]
        simp [h6]
      ·rw [if_pos h5]; simp [h5]
     ·rw [if_pos h4]; simp [h4]
    ·rw [if_pos h3]; simp [h3]
   ·rw [if_pos h2]; simp [h2]
  ·rw [if_pos h1]; simp [h1]
 ·rw [if_pos (by simpa using h0)]; simp [h0]
theorem cnt_len {m n : Int} (h : cntE m n = 0) : n ≠ 0 ∧ n ≤ m := by
 unfold cntE at h
 split at h
 ·simp at h
 ·split at h
  ·simp at h
  ·omega
def labC (l : List Nat) : List Value := l.map fun n : Nat => Value.int .u64 (n : Int)
theorem labC_len (l : List Nat) : (labC l).length = l.length * 1 := by simp [labC]
theorem labC_at (l : List Nat) (k : Nat) (h : k < l.length) : (labC l)[k]? = some (.int .u64 ((l.getD k 0 : Nat) : Int)) := by simp [labC, List.getD_eq_getElem?_getD, List.getElem?_eq_getElem h]
theorem labC_one (l : List Nat) : ∀ u ∈ labC l, u.oneCell' = true := by
 intro u hu
 obtain ⟨x, _, rfl⟩ := List.mem_map.mp hu
 rfl
theorem rd_lab {w : World} {a : Option Addr} {l : List Nat} (h : Rd w a (labC l)) (hl : 0 < l.length) : ∃ b off, a = some ⟨b, off, none⟩ ∧ ∀ i, i < l.length → w.cell? ⟨b, off + i, none⟩ = some (.int .u64 ((l.getD i 0 : Nat) : Int)) := by
 obtain ⟨b, o, rfl, _⟩ := h 0 _ (labC_at l 0 hl)
 refine ⟨b, o, rfl, fun i hi => ?_⟩
 obtain ⟨b', o', e, hc⟩ := h i _ (labC_at l i hi)
 cases e
 exact hc
theorem lb_same {l : List Nat} {k : Nat} (_h1 : 1 ≤ k) (h : k < l.length) (e : l.getD k 0 = l.getD (k - 1) 0) : lbFrom l (l.length - k) k = (8, k) := by
 rw [show l.length - k = (l.length - (k + 1)) + 1 by omega, lbFrom, if_pos e]
theorem lb_less {l : List Nat} {k : Nat} (_h1 : 1 ≤ k) (h : k < l.length) (e : l.getD k 0 < l.getD (k - 1) 0) : lbFrom l (l.length - k) k = (7, k) := by
 rw [show l.length - k = (l.length - (k + 1)) + 1 by omega, lbFrom, if_neg (by omega), if_pos e]
theorem lb_next {l : List Nat} {k : Nat} (_h1 : 1 ≤ k) (h : k < l.length) (e : l.getD (k - 1) 0 < l.getD k 0) : lbFrom l (l.length - k) k = lbFrom l (l.length - (k + 1)) (k + 1) := by
 rw [show l.length - k = (l.length - (k + 1)) + 1 by omega, lbFrom, if_neg (by omega), if_neg (by omega)]
theorem lb_start {l : List Nat} (h0 : l.length ≠ 0) (h8 : l.length ≤ 8) : lbL l = lbFrom l (l.length - 1) 1 := by
 unfold lbL
 rw [if_neg h0, if_neg (by omega)]
set_option maxRecDepth 100000 in
set_option maxHeartbeats 2000000 in
theorem tmay_any (a : Option Addr) (cap : Nat) (l : List Nat) (w : World) (hC : Rd w a (labC l)) :
  Calls Tryz.prog 62 #[.slice a l.length cap] w fun e w' => e = .returned (.tuple #[.int .i64 (lbL l).1, .int .i64 (lbL l).2]) ∧ ∃ n, w' = w.drewN n := by
 by_cases h0 : l.length = 0
 ·have e1 : lbL l = (1, 0) := by unfold lbL; rw [if_pos h0]
  rw [e1]
  have h0' : ((l.length : Int) == 0) = true := by rw [beq_iff_eq]; omega
  clear h0 e1 hC
  generalize l.length = len at *
  go_enter Tryz.func62, Tryz.ntmps62
  go_wp2
  go_ret2
  exact ⟨rfl, 0, rfl⟩
 ·by_cases h8 : 8 < l.length
  ·have e1 : lbL l = (3, 8) := by unfold lbL; rw [if_neg h0, if_pos h8]
   rw [e1]
   have h0' : ((l.length : Int) == 0) = false := by rw [beq_eq_false_iff_ne]; omega
   have h8' : (8 : Int) < (l.length : Int) := by omega
   clear h0 e1 hC h8
   generalize l.length = len at *
   go_enter Tryz.func62, Tryz.ntmps62
   go_wp2
   go_ret2
   exact ⟨rfl, 0, rfl⟩
  ·have hS : Hid (lbL l = lbFrom l (l.length - 1) 1) := lb_start h0 (by omega)
   obtain ⟨b, off, rfl, hc⟩ := rd_lab hC (by omega)
   replace hc := hd hc
   clear hC
   have h0' : ((l.length : Int) == 0) = false := by rw [beq_eq_false_iff_ne]; omega
   have h8' : (l.length : Int) ≤ 8 := by omega
   have h8d : decide ((8 : Int) < (l.length : Int)) = false := by simp; omega
   go_enter Tryz.func62, Tryz.ntmps62
   go_wp2
   go_loopw [4] (fun i wr => ∃ k : Nat, 1 ≤ k ∧ k ≤ l.length ∧ i = .int .i64 k ∧ Hid (lbL l = lbFrom l (l.length - k) k) ∧ ∃ n, wr = w.drewN n) (fun i _ => l.length - (intOf i).toNat)
   case atStart => exact ⟨1, by omega, by omega, rfl, hS, 0, rfl⟩
   case round =>
    obtain ⟨k, hk1, hk, rfl, hm, n, rfl⟩ := hrel
    by_cases hlt : k < l.length
    ·have hx : w.cell? ⟨b, off + k, none⟩ = some (.int .u64 (l.getD k 0 : Nat)) := hc.out k hlt
     have hy : w.cell? ⟨b, off + (k - 1), none⟩ = some (.int .u64 (l.getD (k - 1) 0 : Nat)) := hc.out (k - 1) (by omega)
     have hlt' : (k : Int) < (l.length : Int) := by omega
     have hk1' : (1 : Int) ≤ (k : Int) := by omega
     rcases Nat.lt_trichotomy (l.getD k 0) (l.getD (k - 1) 0) with hcmp | hcmp | hcmp
     ·have H : Hid (lbL l = (7, k)) := hm.out.trans (lb_less hk1 hlt hcmp)
      clear hm hS
      generalize l.getD k 0 = x at *
      generalize l.getD (k - 1) 0 = y at *
      have t1 : ((x : Int) == (y : Int)) = false := by simp; omega
      have t2 : (x : Int) < (y : Int) := by omega
      clear hcmp
      go_wp2_with fail
      go_quiet (fail)
      go_wp2_with fail
      go_quiet (fail)
      go_wp2
      go_ret2
      exact ⟨by rw [H.out]; rfl, by simp only [World.drewN_drewN]; exact ⟨_, rfl⟩⟩
     ·have H : Hid (lbL l = (8, k)) := hm.out.trans (lb_same hk1 hlt hcmp)
      clear hm hS
      generalize l.getD k 0 = x at *
      generalize l.getD (k - 1) 0 = y at *
      have t1 : ((x : Int) == (y : Int)) = true := by simp; omega
      clear hcmp
      go_wp2_with fail
      go_quiet (fail)
      go_wp2
      go_ret2
      exact ⟨by rw [H.out]; rfl, by simp only [World.drewN_drewN]; exact ⟨_, rfl⟩⟩
     ·have H : Hid (lbL l = lbFrom l (l.length - (k + 1)) (k + 1)) := hm.out.trans (lb_next hk1 hlt hcmp)
      clear hm hS
      generalize l.getD k 0 = x at *
      generalize l.getD (k - 1) 0 = y at *
      have t1 : ((x : Int) == (y : Int)) = false := by simp; omega
      have t2 : decide ((x : Int) < (y : Int)) = false := by simp; omega
      have t3 : (y : Int) ≤ (x : Int) := by omega
      clear hcmp
      go_wp2_with fail
      go_quiet (fail)
      go_wp2_with fail
      go_quiet (fail)
      go_wp2
      exact ⟨⟨k + 1, by omega, by omega, by go_num, H, _, rfl⟩, by simp [intOf]; omega⟩
    ·have e : k = l.length := by omega
     have H : Hid (lbL l = (0, 0)) := by show _ = _; rw [hm.out, e, Nat.sub_self]; rfl
     clear hm hS
     have hlt' : decide ((k : Int) < (l.length : Int)) = false := by simp; omega
     have hge : (l.length : Int) ≤ (k : Int) := by omega
     go_wp2
     go_ret2
     exact ⟨by rw [H.out]; rfl, n, rfl⟩
def limT : List Int := [1, 256, 2, 1, 64, 1, 0, 8, 1, 0, 4096, 2]
def Lim (w : World) : Prop := ∀ i, i < 12 → w.cell? ⟨0, i, none⟩ = some (.int .i64 (limT.getD i 0))
theorem Lim.kept {w w' : World} (h : Lim w) (hb : Below w.heap.size w w') : Lim w' := fun i hi => (hb.cell (World.block_lt_of_cell? w _ (h i hi))).trans (h i hi)
theorem Lim.mod {w w' : World} {S : Nat → Prop} (h : Lim w) (hm : Mod S w w') (hs : ¬ S 0) : Lim w' := fun i hi => by
 have hc := h i hi
 rw [hm.cell (p := ⟨0, i, none⟩) (World.block_lt_of_cell? w _ hc) hs]
 exact hc
end Go.Proofs.YthnjeejnnhadeaaGreatDoor

namespace Go.Proofs.YthnjeejnnhadeaaGreatDoor
open Go.RowKit
structure RowD where
 e : Nat
 size : Nat
 a : Option Addr
 n : Nat
 c : Nat
 xs : List Value
def RowD.ok (W : World) (d : RowD) : Prop := Row W d.e d.size d.a d.n d.c d.xs
def apartD (d d' : RowD) : Prop := ∀ k, blk d.a = some k → blk d'.a ≠ some k
structure Owned (B : Nat) (W : World) (ds : List RowD) : Prop where
 ok : ∀ d ∈ ds, d.ok W
 new : ∀ d ∈ ds, ∀ k, blk d.a = some k → B ≤ k
 apart : ds.Pairwise apartD
theorem Owned.nil (B : Nat) (W : World) : Owned B W [] := ⟨fun _ h => (by cases h), fun _ h => (by cases h), List.Pairwise.nil⟩
theorem Owned.mod {B : Nat} {W W' : World} {ds : List RowD} {S : Nat → Prop} (h : Owned B W ds) (hm : Mod S W W') (hs : ∀ d ∈ ds, ∀ k, blk d.a = some k → ¬ S k) : Owned B W' ds :=
 ⟨fun d hd => (h.ok d hd).mod hm (hs d hd), h.new, h.apart⟩
theorem Owned.below {B : Nat} {W W' : World} {ds : List RowD} (h : Owned B W ds) (hb : Below W.heap.size W W') : Owned B W' ds := ⟨fun d hd => (h.ok d hd).below hb, h.new, h.apart⟩
theorem Owned.lt {B : Nat} {W : World} {ds : List RowD} (h : Owned B W ds) : ∀ d ∈ ds, ∀ k, blk d.a = some k → k < W.heap.size := fun d hd k hk => (h.ok d hd).lt k hk
theorem Owned.cons {B : Nat} {W : World} {ds : List RowD} (h : Owned B W ds) {d : RowD} (hd : d.ok W) (hn : ∀ k, blk d.a = some k → B ≤ k) (ha : ∀ d' ∈ ds, apartD d d') : Owned B W (d :: ds) :=
 ⟨fun d' hd' => by
  rcases List.mem_cons.1 hd' with rfl | h'
  ·exact hd
  ·exact h.ok d' h', fun d' hd' => by
  rcases List.mem_cons.1 hd' with rfl | h'
  ·exact hn
  ·exact h.new d' h', List.Pairwise.cons ha h.apart⟩
theorem Owned.perm {B : Nat} {W : World} {ds ds' : List RowD} (h : Owned B W ds) (hp : ds.Perm ds') : Owned B W ds' :=
 ⟨fun d hd => h.ok d (hp.mem_iff.2 hd), fun d hd => h.new d (hp.mem_iff.2 hd), hp.pairwise h.apart (fun hxy k hk e => hxy k e hk)⟩
theorem Owned.mono {B B' : Nat} {W : World} {ds : List RowD} (h : Owned B W ds) (hB : B' ≤ B) : Owned B' W ds := ⟨h.ok, fun d hd k hk => Nat.le_trans hB (h.new d hd k hk), h.apart⟩
theorem Owned.head {B : Nat} {W : World} {d : RowD} {ds : List RowD} (h : Owned B W (d :: ds)) : Row W d.e d.size d.a d.n d.c d.xs := h.ok d List.mem_cons_self
theorem Owned.tail {B : Nat} {W : World} {d : RowD} {ds : List RowD} (h : Owned B W (d :: ds)) : Owned B W ds :=
 ⟨fun d' hd => h.ok d' (List.mem_cons_of_mem _ hd), fun d' hd => h.new d' (List.mem_cons_of_mem _ hd), (List.pairwise_cons.1 h.apart).2⟩
theorem Owned.turn {B : Nat} {W W' : World} {d d' : RowD} {ds : List RowD} (h : Owned B W (d :: ds)) (hB : B ≤ W.heap.size) (hm : Mod (fun k => blk d.a = some k) W W') (hd : d'.ok W') (hn : ∀ k, blk d'.a = some k → blk d.a = some k ∨ W.heap.size ≤ k) : Owned B W' (d' :: ds) := by
 have hap := (List.pairwise_cons.1 h.apart).1
 refine Owned.cons (h.tail.mod hm (fun x hx k hk hk' => hap x hx k hk' hk)) hd (fun k hk => ?_) (fun x hx k hk hk' => ?_)
 ·rcases hn k hk with h1 | h1
  ·exact h.new d List.mem_cons_self k h1
  ·omega
 ·rcases hn k hk with h1 | h1
  ·exact hap x hx k h1 hk'
  ·have := h.tail.lt x hx k hk'
   omega
def iC (l : List Int) : List Value := l.map (.int .i64 ·)
theorem iC_len (l : List Int) : (iC l).length = l.length * 1 := by simp [iC]
theorem iC_at (l : List Int) (i : Nat) (h : i < l.length) : (iC l)[i]? = some (.int .i64 (l.getD i 0)) := by simp [iC, List.getD_eq_getElem?_getD, List.getElem?_eq_getElem h]
theorem iC_one (l : List Int) : ∀ u ∈ iC l, u.oneCell' = true := by
 intro u hu
 obtain ⟨x, _, rfl⟩ := List.mem_map.mp hu
 rfl
theorem iC_app (l m : List Int) : iC l ++ iC m = iC (l ++ m) := by simp [iC]
structure PrM where
 p : Pr
 a : Option Addr
 c : Nat
instance : Inhabited PrM := ⟨⟨default, none, 0⟩⟩
def psOf (ms : List PrM) : List Pr := ms.map PrM.p
theorem psOf_len (ms : List PrM) : (psOf ms).length = ms.length := by simp [psOf]
def prC (m : PrM) : List Value := [.int .i64 m.p.part, .slice m.a m.p.code.length m.c]
def psC (ms : List PrM) : List Value := ms.flatMap prC
theorem psC_len (ms : List PrM) : (psC ms).length = ms.length * 2 := by
 induction ms with
 | nil => rfl
 | cons x r ih => simp only [psC, List.flatMap_cons, List.length_append, List.length_cons] at *; rw [ih, show (prC x).length = 2 from rfl]; omega
theorem prC_one (m : PrM) : ∀ u ∈ prC m, u.oneCell' = true := by
 intro u hu
 simp only [prC, List.mem_cons, List.not_mem_nil, or_false] at hu
 rcases hu with rfl | rfl <;> rfl
theorem psC_at : ∀ (ms : List PrM) (i : Nat), i < ms.length → (psC ms)[i * 2]? = some (.int .i64 (ms.getD i default).p.part) ∧ (psC ms)[i * 2 + 1]? = some (.slice (ms.getD i default).a (ms.getD i default).p.code.length (ms.getD i default).c)
 | [], i, h => absurd h (Nat.not_lt_zero i)
 | t :: ts, 0, _ => ⟨rfl, rfl⟩
 | t :: ts, i + 1, h => by
  have ih := psC_at ts i (by simpa using h)
  simp only [psC, List.flatMap_cons, List.getD_cons_succ] at *
  rw [List.getElem?_append_right (by rw [show (prC t).length = 2 from rfl]; omega), List.getElem?_append_right (by rw [show (prC t).length = 2 from rfl]; omega), show (prC t).length = 2 from rfl, show (i + 1) * 2 - 2 = i * 2 by omega, show (i + 1) * 2 + 1 - 2 = i * 2 + 1 by omega]
  exact ih
def prD (m : PrM) : RowD := ⟨84, 5, m.a, m.p.code.length, m.c, pCells m.p.code⟩
structure Loc where
 la : Option Addr
 lc : Nat
 ta : Option Addr
 tc : Nat
 pa : Option Addr
 pc : Nat
 ms : List PrM
def cfA (c : Cfg) (g : Loc) : Array Value := #[.slice g.la c.labels.length g.lc, .slice g.ta c.table.length g.tc, .int .i64 c.fuel, .int .i64 c.lane, .int .i64 c.locks, .int .i64 c.log, .slice g.pa c.procs.length g.pc]
def cfV (c : Cfg) (g : Loc) : Value := .agg (cfA c g)
def cfD (c : Cfg) (g : Loc) : List RowD := ⟨82, 1, g.la, c.labels.length, g.lc, labC c.labels⟩ :: ⟨3, 1, g.ta, c.table.length, g.tc, iC c.table⟩ :: ⟨79, 2, g.pa, c.procs.length, g.pc, psC g.ms⟩ :: g.ms.map prD
structure CfO (B : Nat) (W : World) (c : Cfg) (g : Loc) : Prop where
 own : Owned B W (cfD c g)
 ps : psOf g.ms = c.procs
structure CfR (W : World) (c : Cfg) (g : Loc) : Prop where
 lab : Rd W g.la (labC c.labels)
 tab : Rd W g.ta (iC c.table)
 prs : Rd W g.pa (psC g.ms)
 cod : ∀ m ∈ g.ms, Rd W m.a (pCells m.p.code)
 ps : psOf g.ms = c.procs
theorem CfO.rd {B : Nat} {W : World} {c : Cfg} {g : Loc} (h : CfO B W c g) : CfR W c g where
 lab := (h.own.ok _ List.mem_cons_self).rd
 tab := (h.own.ok _ (List.mem_cons_of_mem _ List.mem_cons_self)).rd
 prs := (h.own.ok _ (List.mem_cons_of_mem _ (List.mem_cons_of_mem _ List.mem_cons_self))).rd
 cod := fun m hm => (h.own.ok (prD m) (List.mem_cons_of_mem _ (List.mem_cons_of_mem _ (List.mem_cons_of_mem _ (List.mem_map_of_mem hm))))).rd
 ps := h.ps
theorem CfR.below {W W' : World} {c : Cfg} {g : Loc} (h : CfR W c g) (hb : Below W.heap.size W W') : CfR W' c g := ⟨h.lab.below hb, h.tab.below hb, h.prs.below hb, fun m hm => (h.cod m hm).below hb, h.ps⟩
theorem CfO.below {B : Nat} {W W' : World} {c : Cfg} {g : Loc} (h : CfO B W c g) (hb : Below W.heap.size W W') : CfO B W' c g := ⟨h.own.below hb, h.ps⟩
theorem CfR.len {W : World} {c : Cfg} {g : Loc} (h : CfR W c g) : g.ms.length = c.procs.length := by rw [← h.ps, psOf_len]
theorem CfR.at {W : World} {c : Cfg} {g : Loc} (h : CfR W c g) (i : Nat) : (g.ms.getD i default).p = c.procs.getD i default := by
 rw [← h.ps]
 simp only [psOf, List.getD_eq_getElem?_getD, List.getElem?_map]
 cases g.ms[i]? <;> rfl
end Go.Proofs.YthnjeejnnhadeaaGreatDoor
