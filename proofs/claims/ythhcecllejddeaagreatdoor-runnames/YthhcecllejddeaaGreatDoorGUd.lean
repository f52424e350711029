/- Step of an instruction that reckons. -/
import Derived.Test.YthhcecllejddeaaGreatDoorGUa
import Derived.Deep.Quiet
import Derived.Tactics
namespace Go.Proofs.YthhcecllejddeaaGreatDoor.Cpu
open Go.RowKit
set_option maxRecDepth 100000 in
set_option maxHeartbeats 2000000 in
theorem step_jump (c : Core) (ad : Option Addr) (l : List Ins) (cap p : Nat) (tick self : Int) (hp : c.pc = (p : Int)) (hlt : p < l.length) (w : World) (hP : Prg w ad l) (hF : Fld w) (op imm : Int) (a b d : Nat) (ha : a < 8) (hb : b < 8) (hd' : d < 8)
  (hx : l.getD p default = ⟨op, a, b, d, imm⟩) (hok : (wrong (l.getD p default) l.length 8).1 = 0) (hwant : wantL c op a b d imm = (0, 0, 0)) (hop : op = 22) :
  Calls Tryz.prog 140 #[coreV c, .slice ad l.length cap, .int .i64 tick, .int .i64 self] w fun e w' => e = .returned (.tuple #[coreV (Core.mk imm c.r), wantV 0 0 0]) ∧ Below w.heap.size w w' := by
 subst hop
 have HW0 : Hid (1 < w.heap.size) := hd (World.block_lt_of_cell? w _ (hF 0 (by decide)))
 obtain ⟨D, hD⟩ : ∃ D, Hid (Core.mk imm c.r = D) := ⟨_, rfl⟩
 rw [hD.out]
 have HA := hd ha
 have HBb := hd hb
 have HDd := hd hd'
 have hb0 := three_bel w (.cells (coreA c) 144) (.cells zeroC 144) (.cells zeroW 246)
 have hcur := current_yes c ad l cap p hp hlt _ (hP.kept hb0)
 have HS := hd (fun x w1 => StB.mk' (w1 := w1) (tc := 144) (tw := 246) (c := c) x hF)
 have hst := stands_any (l.getD p default) l.length
 rw [show ((wrong (l.getD p default) l.length 8).1 == 0) = true from by simpa using hok] at hst
 have hwa := wanted_any c imm a b d
 rw [hx] at hst hcur
 rw [hwant] at hwa
 clear hx hok
 generalize l.length = n at *
 clear hP hb0 hF hlt hp hwant
 unfold wantT wantV wantA at hwa
 simp only at hwa
 unfold coreV wantV wantA
 unfold insV at *
 unfold coreV at hcur hwa
 unfold coreA zeroC zeroW at *
 go_enter Tryz.func140, Tryz.ntmps140
 go_wp2_with fail
 go_step3
 go_upto_region 2 with (first | (go_at_call 183; refine hcur.mono ?_; rintro e w1 ⟨rfl, b1⟩))
 replace HS := hd (HS.out ⟨22, a, b, d, imm⟩ w1 b1)
 clear hcur b1
 unfold insA at HS
 obtain ⟨g, hg⟩ : ∃ g, Hid (w1.heap.size = g) := ⟨_, rfl⟩
 obtain ⟨W1, hW1⟩ : ∃ W, Hid (w1.alloc (.cells #[.int .i64 22, .int .i64 a, .int .i64 b, .int .i64 d, .int .i64 imm] 54) = W) := ⟨_, rfl⟩
 simp only at HS
 rw [hW1.out] at HS ⊢
 rw [hg.out] at HS ⊢
 clear hW1 hg
 replace hst := hst W1 HS.out.fld
 obtain ⟨i0, i1, i2, i3, i4⟩ := HS.out.x10.ci
 go_upto_region 4 with (go_at_call 184; refine hst.mono ?_; rintro e w2 ⟨rfl, b2⟩)
 replace HS := hd (HS.out.kept b2)
 clear hst b2 i0 i1 i2 i3 i4
 obtain ⟨i0, i1, i2, i3, i4⟩ := HS.out.x10.ci
 obtain ⟨c0, c1, c2, c3, c4, c5, c6, c7, c8⟩ := HS.out.x4.cs
 replace hwa := hwa w2
 go_wp2_with (go_at_call 185; refine hwa.mono ?_; rintro e w3 ⟨rfl, b3⟩)
 clear hwa c0 c1 c2 c3 c4 c5 c6 c7 c8 i0 i1 i2 i3 i4
 replace HS := hd (StW.mk' HS.out b3 0 0 0)
 clear b3
 unfold wantA at HS
 obtain ⟨gw, hgw⟩ : ∃ g, Hid (w3.heap.size = g) := ⟨_, rfl⟩
 obtain ⟨W3, hW3⟩ : ∃ W, Hid (w3.alloc (.cells #[.int .i64 0, .int .i64 0, .int .i64 0] 246) = W) := ⟨_, rfl⟩
 rw [hW3.out] at HS ⊢
 rw [hgw.out] at HS ⊢
 clear hW3 hgw
 obtain ⟨v0, v1, v2⟩ := HS.out.x12.cw
 obtain ⟨i0, i1, i2, i3, i4⟩ := HS.out.st.x10.ci
 have ra := HS.out.st.x4.reg a HA.out
 have rb := HS.out.st.x4.reg b HBb.out
 have rd := HS.out.st.x4.reg d HDd.out
 have rp := HS.out.st.x4.pc
 have f4 := HS.out.st.x4.fr
 have la : (a : Int) < 8 := by have := HA.out; omega
 have lb : (b : Int) < 8 := by have := HBb.out; omega
 have ld : (d : Int) < 8 := by have := HDd.out; omega
 clear ha hb hd'
 go_step3
 go_upto_region 26 with fail
 clear i0 i1 i2 i3 i4 ra rb rd rp f4 la lb ld v0 v1 v2
 obtain ⟨W4, hW4⟩ : ∃ W, Hid (W3.setCell ⟨w.heap.size, 0, none⟩ (.int .i64 imm) = W) := ⟨_, rfl⟩
 have HS4 := hd (HS.out.core (Oth.setCell _ _ _ _) (HS.out.st.x4.setPc imm) HW0.out)
 rw [hW4.out, hD.out] at HS4
 rw [hW4.out]
 clear HS hW4
 have HS := HS4
 clear HS4
 have HN1 : ¬ gw = w.heap.size + 1 := by have := HS.out.g12; omega
 have HN2 : ¬ w.heap.size + 1 = gw := by omega
 obtain ⟨c0, c1, c2, c3, c4, c5, c6, c7, c8⟩ := HS.out.st.x4.cs
 obtain ⟨z0, z1, z2, z3, z4, z5, z6, z7, z8⟩ := HS.out.st.x8.cz
 obtain ⟨y0, y1, y2⟩ := Box.cw (k := 0) (u := 0) (v := 0) HS.out.st.x9
 obtain ⟨v0, v1, v2⟩ := HS.out.x12.cw
 have f8 := HS.out.st.x8.fr
 have f9 := HS.out.st.x9.fr
 have HE := hd (HS.out.st.ends D 0 0 0)
 clear HS
 go_region
 go_wp2
 unfold put9 put3 at HE
 try rw [Exit.noGoto_ret]
 clear c0 c1 c2 c3 c4 c5 c6 c7 c8 z0 z1 z2 z3 z4 z5 z6 z7 z8 y0 y1 y2 v0 v1 v2 f8 f9 HN1 HN2
 obtain ⟨R8, R9, RB⟩ := HE.out
 obtain ⟨c0, c1, c2, c3, c4, c5, c6, c7, c8⟩ := R8.cs
 obtain ⟨y0, y1, y2⟩ := R9.cw
 refine bodyPost_ret ?_ rfl ⟨rfl, RB.drew⟩
 clear R8 R9 RB
 generalize World.setCell _ _ _ = Wf at *
 simp [results, Tryz.results140, go_sem, c0, c1, c2, c3, c4, c5, c6, c7, c8, y0, y1, y2]
end Go.Proofs.YthhcecllejddeaaGreatDoor.Cpu

namespace Go.Proofs.YthhcecllejddeaaGreatDoor.Cpu
open Go.RowKit
set_option maxRecDepth 100000 in
set_option maxHeartbeats 1000000 in
theorem step_out (c : Core) (a : Option Addr) (n cap : Nat) (tick self : Int) (hout : ¬ (0 ≤ c.pc ∧ c.pc < n)) (w : World) (hF : Fld w) :
  Calls Tryz.prog 140 #[coreV c, .slice a n cap, .int .i64 tick, .int .i64 self] w fun e w' => e = .returned (.tuple #[coreV c, wantV 1 0 0]) ∧ Below w.heap.size w w' := by
 have hcur := current_no c a n cap hout (((w.alloc (.cells (coreA c) 144)).alloc (.cells zeroC 144)).alloc (.cells zeroW 246))
 have HS := hd (fun w1 => StB.mk' (w1 := w1) (tc := 144) (tw := 246) (c := c) ⟨0, 0, 0, 0, 0⟩ hF)
 clear hout hF
 unfold coreV wantV wantA
 unfold noIns at *
 unfold coreV at hcur
 unfold coreA zeroC zeroW at *
 go_enter Tryz.func140, Tryz.ntmps140
 go_wp2_with fail
 go_step3
 go_upto_region 2 with (first | (go_at_call 183; refine hcur.mono ?_; rintro e w1 ⟨rfl, b1⟩))
 replace HS := hd (HS.out w1 b1)
 clear hcur b1
 unfold insA at HS
 simp only at HS
 obtain ⟨g, hg⟩ : ∃ g, Hid (w1.heap.size = g) := ⟨_, rfl⟩
 obtain ⟨W1, hW1⟩ : ∃ W, Hid (w1.alloc (.cells #[.int .i64 0, .int .i64 0, .int .i64 0, .int .i64 0, .int .i64 0] 54) = W) := ⟨_, rfl⟩
 rw [hW1.out] at HS ⊢
 rw [hg.out] at HS ⊢
 clear hW1 hg
 obtain ⟨c0, c1, c2, c3, c4, c5, c6, c7, c8⟩ := HS.out.x4.cs
 obtain ⟨z0, z1, z2, z3, z4, z5, z6, z7, z8⟩ := HS.out.x8.cz
 obtain ⟨y0, y1, y2⟩ := Box.cw (k := 0) (u := 0) (v := 0) HS.out.x9
 have f8 := HS.out.x8.fr
 have f9 := HS.out.x9.fr
 have HE := hd (HS.out.ends c 1 0 0)
 clear HS
 go_wp2
 unfold put9 put3 at HE
 rw [Exit.noGoto_ret]
 clear c0 c1 c2 c3 c4 c5 c6 c7 c8 z0 z1 z2 z3 z4 z5 z6 z7 z8 y0 y1 y2 f8 f9
 obtain ⟨R8, R9, RB⟩ := HE.out
 obtain ⟨c0, c1, c2, c3, c4, c5, c6, c7, c8⟩ := R8.cs
 obtain ⟨y0, y1, y2⟩ := R9.cw
 refine bodyPost_ret ?_ rfl ⟨rfl, RB⟩
 clear R8 R9 RB
 generalize World.setCell _ _ _ = Wf at *
 simp [results, Tryz.results140, go_sem, c0, c1, c2, c3, c4, c5, c6, c7, c8, y0, y1, y2]
def Jmp (l : List Ins) : Prop := l = [] ∨ l = [⟨22, 0, 0, 0, 0⟩]
def stepL (c : Core) (l : List Ins) (_ _ : Int) : Core × (Int × Int × Int) := if 0 ≤ c.pc ∧ c.pc < l.length then (⟨0, c.r⟩, (0, 0, 0)) else (c, (1, 0, 0))
theorem step_two (c : Core) (l : List Ins) (t s : Int) : (stepL c l t s).2.1 = 0 ∨ (stepL c l t s).2.1 = 1 := by
 unfold stepL
 split
 ·exact .inl rfl
 ·exact .inr rfl
theorem step_any (c : Core) (ad : Option Addr) (l : List Ins) (cap : Nat) (tick self : Int) (w : World) (hP : Prg w ad l) (hF : Fld w) (hJ : Jmp l) :
  Calls Tryz.prog 140 #[coreV c, .slice ad l.length cap, .int .i64 tick, .int .i64 self] w fun e w' => e = .returned (.tuple #[coreV (stepL c l tick self).1, wantT (stepL c l tick self).2]) ∧ Below w.heap.size w w' := by
 unfold stepL
 by_cases h1 : 0 ≤ c.pc ∧ c.pc < l.length
 ·rw [if_pos h1]
  rcases hJ with rfl | rfl
  ·have := h1.1
   have := h1.2
   simp at this
   omega
  ·have hp : c.pc = ((0 : Nat) : Int) := by
    have := h1.1
    have := h1.2
    simp at this
    omega
   exact step_jump c ad [⟨22, 0, 0, 0, 0⟩] cap 0 tick self hp (by decide) w hP hF 22 0 0 0 0 (by omega) (by omega) (by omega) rfl (by decide) (by simp [wantL]) rfl
 ·rw [if_neg h1]
  exact step_out c ad l.length cap tick self h1 w hF
end Go.Proofs.YthhcecllejddeaaGreatDoor.Cpu

namespace Go.Proofs.YthhcecllejddeaaGreatDoor.Cpu
section
variable {P : Program}
def waits (l : List Oper) (j i : Nat) : Bool := match l[j]? with | some o => o.after.any (fun e => Region.binds .any e && e.on == i) | none => false
theorem waits_spec {l : List Oper} {j i : Nat} (h : waits l j i = true) : ∃ o, l[j]? = some o ∧ ∃ e ∈ o.after, Region.binds .any e = true ∧ e.on = i := by
 unfold waits at h
 split at h
 ·next o ho =>
  obtain ⟨e, he, hb⟩ := Array.any_eq_true'.1 h
  simp only [Bool.and_eq_true, beq_iff_eq] at hb
  exact ⟨o, ho, e, he, hb.1, hb.2⟩
 ·cases h
def lastB (l : List Oper) (n : Nat) : Bool :=
 l.all (fun o => o.guard.isNone) && (List.range n).all (fun i => match l[i]? with | some o => o.after.all (fun e => !Region.binds .any e || decide (e.on < i)) | none => false) &&
 (match l[n]? with | some o => o.after.all (fun e => !Region.binds .any e || decide (e.on < n)) && (List.range n).all (fun i => waits l n i || (List.range n).any (fun j => decide (i < j) && waits l j i)) | none => false)
theorem push_at (L : Array Bool) (i : Nat) (d : Bool) (h : i < L.size) : (L.push false).getD i d = L.getD i d := by
 simp [Array.getD_eq_getD_getElem?, Array.getElem?_push, Nat.ne_of_lt h]
theorem push_end (L : Array Bool) (i : Nat) (h : L.size ≤ i) : (L.push false).getD i false = false ∧ L.getD i false = false := by
 constructor
 ·simp only [Array.getD_eq_getD_getElem?, Array.getElem?_push]
  split
  ·rfl
  ·rw [Array.getElem?_eq_none h]; rfl
 ·simp [Array.getD_eq_getD_getElem?, Array.getElem?_eq_none h]
theorem in_both {L : Array Bool} {i : Nat} (h : i < L.size) : L.getD i true = L.getD i false := by simp [Array.getD_eq_getD_getElem?, h]
theorem ready_head {l : List Oper} {n : Nat} (L : Array Bool) (hL : L.size = n) (i : Nat) (hi : i < n) : i ∈ Region.ready .any l.toArray (L.push false) ↔ i ∈ Region.ready .any (l.take n).toArray L := by
 rw [mem_ready, mem_ready, push_at _ _ _ (by omega)]
 have e : (l.take n).toArray[i]? = l.toArray[i]? := by simp [hi]
 have k : ∀ j, (L.push false).getD j false = L.getD j false := fun j => by
  rcases Nat.lt_or_ge j L.size with h | h
  ·exact push_at _ _ _ h
  ·rw [(push_end L j h).1, (push_end L j h).2]
 simp only [e, k]
structure LastOk (l : List Oper) (n : Nat) (o : Oper) : Prop where
 len : l.length = n + 1
 at' : l[n]? = some o
 bare : ∀ x ∈ l, x.guard = none
 up : ∀ i x, i < n → l[i]? = some x → ∀ e ∈ x.after, Region.binds .any e = true → e.on < i
 low : ∀ e ∈ o.after, Region.binds .any e = true → e.on < n
 all : ∀ i, i < n → waits l n i = true ∨ ∃ j, i < j ∧ j < n ∧ waits l j i = true
theorem lastOk {l : List Oper} {n : Nat} {o : Oper} (h : lastB l n = true) (hl : l.length = n + 1) (ho : l[n]? = some o) : LastOk l n o := by
 unfold lastB at h
 simp only [Bool.and_eq_true, ho] at h
 obtain ⟨⟨h1, h2⟩, h3, h4⟩ := h
 refine ⟨hl, ho, fun x hx => by simpa using List.all_eq_true.1 h1 x hx, fun i x hi hx e he hb => ?_, fun e he hb => ?_, fun i hi => ?_⟩
 ·have h5 := List.all_eq_true.1 h2 i (List.mem_range.2 hi)
  simp only [hx] at h5
  have h6 := Array.all_eq_true'.1 h5 e he
  simpa [hb] using h6
 ·have h6 := Array.all_eq_true'.1 h3 e he
  simpa [hb] using h6
 ·have h5 := List.all_eq_true.1 h4 i (List.mem_range.2 hi)
  simp only [Bool.or_eq_true] at h5
  rcases h5 with h5 | h5
  ·exact .inl h5
  ·obtain ⟨j, hj, hw⟩ := List.any_eq_true.1 h5
   simp only [Bool.and_eq_true, decide_eq_true_eq] at hw
   exact .inr ⟨j, hw.1, List.mem_range.1 hj, hw.2⟩
def Clo (l : List Oper) (n : Nat) (L : Array Bool) : Prop := ∀ j x, j < n → l[j]? = some x → L.getD j false = true → ∀ e ∈ x.after, Region.binds .any e = true → L.getD e.on false = true
theorem set_true {L : Array Bool} {i j : Nat} (h : L.getD j false = true) : (L.setIfInBounds i true).getD j false = true := by
 by_cases hij : i = j
 ·subst hij
  have hlt : i < L.size := by
   rcases Nat.lt_or_ge i L.size with h' | h'
   ·exact h'
   ·rw [(push_end L i h').2] at h; cases h
  rw [Array.getD_eq_getD_getElem?, Array.getElem?_setIfInBounds_self_of_lt hlt]
  rfl
 ·rw [Array.getD_eq_getD_getElem?, Array.getElem?_setIfInBounds_ne hij, ← Array.getD_eq_getD_getElem?]
  exact h
theorem Clo.set {l : List Oper} {n : Nat} {L : Array Bool} (h : Clo l n L) {i : Nat} (hi : i ∈ Region.ready .any (l.take n).toArray L) : Clo l n (L.setIfInBounds i true) := by
 intro j x hj hx hl e he hb
 by_cases hij : i = j
 ·subst hij
  obtain ⟨_, y, hy, hall⟩ := mem_ready.1 hi
  have e1 : (l.take n).toArray[i]? = some x := by simp [hj, hx]
  obtain rfl : x = y := Option.some.inj (e1.symm.trans hy)
  exact set_true (hall e he hb)
 ·rw [Array.getD_eq_getD_getElem?, Array.getElem?_setIfInBounds_ne hij, ← Array.getD_eq_getD_getElem?] at hl
  exact set_true (h j x hj hx hl e he hb)
section
variable {l : List Oper} {n : Nat} {o : Oper}
theorem some_ready (h : LastOk l n o) (L : Array Bool) (hL : L.size = n) : ∀ i, i < n → L.getD i false = false → ∃ j, j < n ∧ j ∈ Region.ready .any (l.take n).toArray L := by
 intro i
 induction i using Nat.strongRecOn with
 | _ i ih =>
  intro hi hf
  have hlen := h.len
  obtain ⟨x, hx⟩ : ∃ x, l[i]? = some x := ⟨_, List.getElem?_eq_getElem (by omega)⟩
  by_cases hr : ∀ e ∈ x.after, Region.binds .any e = true → L.getD e.on false = true
  ·refine ⟨i, hi, mem_ready.2 ⟨by rw [in_both (by omega)]; exact hf, x, by simp [hi, hx], hr⟩⟩
  ·obtain ⟨e, he, hb, hne⟩ : ∃ e, ∃ _ : e ∈ x.after, ∃ _ : Region.binds .any e = true, ¬ L.getD e.on false = true := by
    simpa only [Classical.not_forall] using hr
   have hlt := h.up i x hi hx e he hb
   exact ih e.on hlt (by omega) (by simpa using hne)
theorem last_ready (h : LastOk l n o) (L : Array Bool) (hL : L.size = n) (hc : Clo l n L) : n ∈ Region.ready .any l.toArray (L.push false) ↔ ∀ i, i < n → L.getD i false = true := by
 rw [mem_ready]
 constructor
 ·rintro ⟨_, x, hx, hall⟩
  have ex : x = o := by
   have h1 := h.at'
   simp at hx
   rw [hx] at h1
   exact Option.some.inj h1
  subst ex
  have key : ∀ d i, n - i = d → i < n → L.getD i false = true := by
   intro d
   induction d using Nat.strongRecOn with
   | _ d ih =>
    intro i hd hi
    rcases h.all i hi with hw | ⟨j, hij, hj, hw⟩
    ·obtain ⟨y, hy, e, he, hb, hon⟩ := waits_spec hw
     have ey : y = x := Option.some.inj (hy.symm.trans h.at')
     subst ey
     have := hall e he hb
     rwa [hon, push_at _ _ _ (by omega)] at this
    ·obtain ⟨y, hy, e, he, hb, hon⟩ := waits_spec hw
     have := hc j y hj hy (ih (n - j) (by omega) j rfl hj) e he hb
     rwa [hon] at this
  exact fun i hi => key _ i rfl hi
 ·intro hall
  refine ⟨by subst hL; rw [Array.getD_eq_getD_getElem?, Array.getElem?_push_size]; rfl, o, by simpa using h.at', fun e he hb => ?_⟩
  have := h.low e he hb
  rw [push_at _ _ _ (by omega)]
  exact hall _ this
theorem in_range (h : LastOk l n o) (L : Array Bool) {i : Nat} (hi : i ∈ Region.ready .any l.toArray L) : i < n ∨ i = n := by
 obtain ⟨_, x, hx, _⟩ := mem_ready.1 hi
 have := (Array.getElem?_eq_some_iff.1 hx).1
 have h1 := h.len
 simp at this
 omega
theorem none_left (h : LastOk l n o) (L : Array Bool) (hL : L.size = n) (hall : ∀ i, i < n → L.getD i false = true) : Region.ready .any l.toArray ((L.push false).setIfInBounds n true) = [] := by
 rw [List.eq_nil_iff_forall_not_mem]
 intro i hi
 have h1 := (mem_ready.1 hi).1
 rcases in_range h _ hi with h2 | h2
 ·rw [Array.getD_eq_getD_getElem?, Array.getElem?_setIfInBounds_ne (by omega), ← Array.getD_eq_getD_getElem?, push_at _ _ _ (by omega), in_both (by omega), hall i h2] at h1
  cases h1
 ·subst h2
  rw [Array.getD_eq_getD_getElem?, Array.getElem?_setIfInBounds_self_of_lt (by simp [hL])] at h1
  cases h1
theorem all_or (L : Array Bool) (n : Nat) : (∀ i, i < n → L.getD i false = true) ∨ ∃ i, i < n ∧ L.getD i false = false := by
 by_cases h : ∃ i, i < n ∧ L.getD i false = false
 ·exact .inr h
 ·refine .inl fun i hi => ?_
  cases hb : L.getD i false with
  | true => rfl
  | false => exact absurd ⟨i, hi, hb⟩ h
variable {C : World → Prop} {Q : Exit → Act → World → Prop}
theorem last_op (h : LastOk l n o) (L : Array Bool) (hL : L.size = n) (hall : ∀ i, i < n → L.getD i false = true) {a : Act} {w : World} (hw : wpList P l.toArray Q [o] a w) (f : Nat) :
  wpOp P l.toArray Q n (wpAny P .any l.toArray Q f ((L.push false).setIfInBounds n true)) a w := by
 have h0 : l.toArray[n]? = some o := by simpa using h.at'
 have h1 : wpOp P l.toArray Q n (wpList P l.toArray Q []) a w := by
  unfold wpOp
  simp only [h0]
  exact hw
 refine wpOp_mono (fun a' w' hq => ?_) h1
 have hr := none_left h L hL hall
 cases f with
 | zero => exact ⟨hr, hq⟩
 | succ f => exact ⟨fun _ => hq, fun i hi => by rw [hr] at hi; cases hi⟩
theorem wp_to_last (h : LastOk l n o) : ∀ (f : Nat) (L : Array Bool) (a : Act) (w : World), L.size = n → Clo l n L → C w →
  wpAnyQ P .any (l.take n).toArray C (fun a' => ∀ w', C w' → wpList P l.toArray Q [o] a' w') f L a → wpAny P .any l.toArray Q (f + 1) (L.push false) a w := by
 have hlen := h.len
 intro f
 induction f with
 | zero =>
  intro L a w hL hc hC hq
  have hall : ∀ i, i < n → L.getD i false = true := by
   rcases all_or L n with h1 | ⟨i, hi, hf⟩
   ·exact h1
   ·obtain ⟨j, _, hj⟩ := some_ready h L hL i hi hf
    rw [hq.1] at hj
    cases hj
  refine ⟨fun h0 => ?_, fun i hi => ?_⟩
  ·have := (last_ready h L hL hc).2 hall
   rw [h0] at this
   cases this
  ·rcases in_range h _ hi with h2 | rfl
   ·have := (ready_head L hL i h2).1 hi
    rw [hq.1] at this
    cases this
   ·exact last_op h L hL hall (hq.2 w hC) 0
 | succ f ih =>
  intro L a w hL hc hC hq
  refine ⟨fun h0 => ?_, fun i hi => ?_⟩
  ·rcases all_or L n with hall | ⟨i, hi, hf⟩
   ·have := (last_ready h L hL hc).2 hall
    rw [h0] at this
    cases this
   ·obtain ⟨j, hj, hjr⟩ := some_ready h L hL i hi hf
    have := (ready_head (l := l) L hL j hj).2 hjr
    rw [h0] at this
    cases this
  ·rcases in_range h _ hi with h2 | rfl
   ·have h3 := hq.2 i ((ready_head L hL i h2).1 hi)
    have h4 : wpOp P (l.take n).toArray Q i (wpAny P .any l.toArray Q (f + 1) ((L.setIfInBounds i true).push false)) a w :=
     wpOp_of_qOp hC (fun a' w' hw' hk => ih (L.setIfInBounds i true) a' w' (by simp [hL]) (hc.set ((ready_head L hL i h2).1 hi)) hw' hk) h3
    have e : (L.push false).setIfInBounds i true = (L.setIfInBounds i true).push false := by
     apply Array.ext_getElem?
     intro j
     by_cases hj : j = i
     ·subst hj
      rw [Array.getElem?_setIfInBounds_self_of_lt (by simp; omega), Array.getElem?_push_lt (by simp; omega)]
      simp
     ·rw [Array.getElem?_setIfInBounds_ne (by omega), Array.getElem?_push, Array.getElem?_push, Array.getElem?_setIfInBounds_ne (by omega)]
      simp
    rw [e]
    obtain ⟨x, hx⟩ : ∃ x, l[i]? = some x := ⟨_, List.getElem?_eq_getElem (by omega)⟩
    have hb : x.guard = none := h.bare x (List.mem_of_getElem? hx)
    have w1 : ∀ y, Region.wanted x y = true := fun y => by unfold Region.wanted; rw [hb]
    have e1 : (l.take n).toArray[i]? = some x := by simp [h2, hx]
    have e2 : l.toArray[i]? = some x := by simp [hx]
    unfold wpOp at h4 ⊢
    simp only [e1, w1, if_true] at h4
    simp only [e2, w1, if_true]
    exact h4
   ·have hall := (last_ready h L hL hc).1 hi
    have hr : Region.ready .any (l.take i).toArray L = [] := by
     rw [List.eq_nil_iff_forall_not_mem]
     intro j hj
     obtain ⟨h1, x, hx, _⟩ := mem_ready.1 hj
     have hlt := (Array.getElem?_eq_some_iff.1 hx).1
     simp at hlt
     rw [in_both (by omega), hall j (by omega)] at h1
     cases h1
    exact last_op h L hL hall (hq.1 hr w hC) (f + 1)
end
theorem rep_false (m j : Nat) : (Array.replicate m false).getD j false = false := by
 simp only [Array.getD_eq_getD_getElem?, Array.getElem?_replicate]
 split <;> rfl
theorem wp_region_last {id : Nat} {Q : Exit → Act → World → Prop} {a : Act} {w : World} {l : List Oper} {α : Type} (n : Nat) {o : Oper} (f : α → World) (hm : P.follows .mixedOrders = true) (hB : lastB l n = true) (hB' : Region.lexB .any (l.take n).toArray = true) (hl : l.length = n + 1) (ho : l[n]? = some o)
  (p0 : α) (h0 : f p0 = w.drew) (h : wpQuiet P (l.take n).toArray (fun w' => ∃ p, w' = f p) (fun a' => ∀ w', (∃ p, w' = f p) → wpList P l.toArray Q [o] a' w') (l.take n) a) : (Code.region id l.toArray true).wp P Q a w := by
 refine wp_region_any hm ?_
 simp only [Region.lexB, Bool.and_eq_true] at hB'
 have hn : (l.take n).length = n := by simp; omega
 have H := wpAnyQ_lex (C := fun w' => ∃ p, w' = f p) (md := .any) hB'.1 (l.take n) 0 (Array.replicate (l.take n).length false) a (by simp) (by simpa using hB'.2) h
 have H2 := wp_to_last (P := P) (Q := Q) (lastOk hB hl ho) (l.take n).length (Array.replicate (l.take n).length false) a w.drew (by simp; omega) (fun j x _ _ hl => by rw [rep_false] at hl; cases hl) ⟨p0, h0.symm⟩ H
 rw [hn] at H2
 have e : Array.replicate l.toArray.size false = (Array.replicate n false).push false := by
  simp [hl, Array.replicate_succ]
 rw [e, show l.toArray.size = n + 1 by simp [hl]]
 exact H2
end
end Go.Proofs.YthhcecllejddeaaGreatDoor.Cpu

namespace Go.Proofs.YthhcecllejddeaaGreatDoor.Cpu
open Go.RowKit
def toldL (c : Core) (l : List Ins) (v : Int) : Core :=
 if 0 ≤ c.pc ∧ c.pc < l.length then (c.lay (l.getD c.pc.toNat default).a v).next else c.next
structure StT (w W : World) (tc : TypeId) (g : Nat) (c : Core) (x : Ins) : Prop where
 x4 : Box W tc w.heap.size (coreA c)
 x8 : Box W tc (w.heap.size + 1) zeroC
 x10 : Box W 54 g (insA x)
 g2 : w.heap.size + 1 < g
 bel : Below w.heap.size w W
theorem told_begin (w : World) (c : Core) (tc : TypeId) : Box ((w.alloc (.cells (coreA c) tc)).alloc (.cells zeroC tc)) tc w.heap.size (coreA c) ∧ Box ((w.alloc (.cells (coreA c) tc)).alloc (.cells zeroC tc)) tc (w.heap.size + 1) zeroC := by
 refine ⟨(Box.new w tc (coreA c)).bel (below_al' _ _), ?_⟩
 have h := Box.new (w.alloc (.cells (coreA c) tc)) tc zeroC
 simpa using h
theorem StT.mk' {w w1 : World} {tc : TypeId} {c : Core} (x : Ins) (b1 : Below ((w.alloc (.cells (coreA c) tc)).alloc (.cells zeroC tc)).heap.size ((w.alloc (.cells (coreA c) tc)).alloc (.cells zeroC tc)) w1) :
  StT w (w1.alloc (.cells (insA x) 54)) tc w1.heap.size c x := by
 obtain ⟨h4, h8⟩ := told_begin w c tc
 have hb0 := two_bel w (.cells (coreA c) tc) (.cells zeroC tc)
 have hb1 := hb0.trans (b1.mono hb0.size)
 have ha := below_al' w1 (.cells (insA x) 54)
 exact ⟨(h4.bel b1).bel ha, (h8.bel b1).bel ha, Box.new _ _ _, by have := b1.size; simp at this; omega, hb1.alloc hb1.size _⟩
theorem StT.kept {w W W' : World} {tc : TypeId} {g : Nat} {c : Core} {x : Ins} (h : StT w W tc g c x) (hb : Below W.heap.size W W') : StT w W' tc g c x :=
 ⟨h.x4.bel hb, h.x8.bel hb, h.x10.bel hb, h.g2, h.bel.trans (hb.mono h.bel.size)⟩
theorem StT.core {w W W' : World} {tc : TypeId} {g : Nat} {c d : Core} {x : Ins} (h : StT w W tc g c x) (ho : Oth w.heap.size W W') (hx : Box W' tc w.heap.size (coreA d)) : StT w W' tc g d x :=
 ⟨hx, h.x8.oth ho (by omega), h.x10.oth ho (by have := h.g2; omega), h.g2, ho.below h.bel (Nat.le_refl _)⟩
theorem StT.ends {w W : World} {tc : TypeId} {g : Nat} {c : Core} {x : Ins} (h : StT w W tc g c x) (d : Core) :
  Box (put9 W (w.heap.size + 1) d) tc (w.heap.size + 1) (coreA d) ∧ Below w.heap.size w (put9 W (w.heap.size + 1) d) :=
 ⟨h.x8.nine d, (put9_oth _ _ d).below h.bel (by omega)⟩
set_option maxRecDepth 100000 in
set_option maxHeartbeats 2000000 in
theorem told_no (c : Core) (ad : Option Addr) (n cap : Nat) (v : Int) (hout : ¬ (0 ≤ c.pc ∧ c.pc < n)) (w : World) :
  Calls Tryz.prog 203 #[coreV c, .slice ad n cap, .int .i64 v] w fun e w' => e = .returned (coreV c.next) ∧ Below w.heap.size w w' := by
 obtain ⟨D, hD⟩ : ∃ D, Hid (c.next = D) := ⟨_, rfl⟩
 have hnx := next_any c
 rw [hD.out] at hnx ⊢
 clear hD
 have hcur := current_no c ad n cap hout ((w.alloc (.cells (coreA c) 144)).alloc (.cells zeroC 144))
 have HS := hd (fun w1 => StT.mk' (w := w) (w1 := w1) (tc := 144) (c := c) ⟨0, 0, 0, 0, 0⟩)
 clear hout
 unfold coreV at *
 unfold noIns at *
 unfold coreA zeroC at *
 go_enter Tryz.func203, Tryz.ntmps203
 go_upto_region 2 with (first | (go_at_call 183; refine hcur.mono ?_; rintro e w1 ⟨rfl, b1⟩))
 replace HS := hd (HS.out w1 b1)
 clear hcur b1
 unfold insA at HS
 simp only at HS
 obtain ⟨g, hg⟩ : ∃ g, Hid (w1.heap.size = g) := ⟨_, rfl⟩
 obtain ⟨W1, hW1⟩ : ∃ W, Hid (w1.alloc (.cells #[.int .i64 0, .int .i64 0, .int .i64 0, .int .i64 0, .int .i64 0] 54) = W) := ⟨_, rfl⟩
 rw [hW1.out] at HS ⊢
 rw [hg.out] at HS ⊢
 clear hW1 hg
 obtain ⟨c0, c1, c2, c3, c4, c5, c6, c7, c8⟩ := HS.out.x4.cs
 replace hnx := hnx W1
 go_wp2_with (go_at_call 182; refine hnx.mono ?_; rintro e w2 ⟨rfl, b2⟩; have HT := hd (HS.out.kept b2); obtain ⟨z0, z1, z2, z3, z4, z5, z6, z7, z8⟩ := HT.out.x8.cz; have f8 := HT.out.x8.fr)
 have HE := hd (HT.out.ends D)
 clear HS HT
 unfold put9 at HE
 clear c0 c1 c2 c3 c4 c5 c6 c7 c8 z0 z1 z2 z3 z4 z5 z6 z7 z8 f8
 obtain ⟨R8, RB⟩ := HE.out
 obtain ⟨c0, c1, c2, c3, c4, c5, c6, c7, c8⟩ := R8.cs
 refine bodyPost_ret ?_ rfl ⟨rfl, RB⟩
 clear R8 RB
 generalize World.setCell _ _ _ = Wf at *
 simp [results, Tryz.results203, go_sem, c0, c1, c2, c3, c4, c5, c6, c7, c8]
set_option maxRecDepth 100000 in
set_option maxHeartbeats 2000000 in
theorem told_yes (c : Core) (ad : Option Addr) (l : List Ins) (cap p : Nat) (v : Int) (hp : c.pc = (p : Int)) (hlt : p < l.length) (w : World) (hP : Prg w ad l) :
  Calls Tryz.prog 203 #[coreV c, .slice ad l.length cap, .int .i64 v] w fun e w' => e = .returned (coreV (c.lay (l.getD p default).a v).next) ∧ Below w.heap.size w w' := by
 have hcur := current_yes c ad l cap p hp hlt _ (hP.kept (two_bel w (.cells (coreA c) 144) (.cells zeroC 144)))
 generalize l.getD p default = x at *
 generalize l.length = n at *
 have hla := laid_any c x.a v
 obtain ⟨C1, hC1⟩ : ∃ D, Hid (c.lay x.a v = D) := ⟨_, rfl⟩
 rw [hC1.out] at hla ⊢
 have hnx := next_any C1
 obtain ⟨D, hD⟩ : ∃ D, Hid (C1.next = D) := ⟨_, rfl⟩
 rw [hD.out] at hnx ⊢
 clear hD hC1 hP hp hlt
 have HS := hd (fun w1 => StT.mk' (w := w) (w1 := w1) (tc := 144) (c := c) x)
 unfold coreV at *
 unfold insV at *
 unfold coreA zeroC at *
 go_enter Tryz.func203, Tryz.ntmps203
 go_upto_region 2 with (first | (go_at_call 183; refine hcur.mono ?_; rintro e w1 ⟨rfl, b1⟩))
 replace HS := hd (HS.out w1 b1)
 clear hcur b1
 unfold insA at HS
 obtain ⟨g, hg⟩ : ∃ g, Hid (w1.heap.size = g) := ⟨_, rfl⟩
 obtain ⟨W1, hW1⟩ : ∃ W, Hid (w1.alloc (.cells #[.int .i64 x.op, .int .i64 x.a, .int .i64 x.b, .int .i64 x.c, .int .i64 x.imm] 54) = W) := ⟨_, rfl⟩
 rw [hW1.out] at HS ⊢
 rw [hg.out] at HS ⊢
 clear hW1 hg
 obtain ⟨c0, c1, c2, c3, c4, c5, c6, c7, c8⟩ := HS.out.x4.cs
 obtain ⟨i0, i1, i2, i3, i4⟩ := HS.out.x10.ci
 replace hla := hla W1
 go_upto_region 4 with (go_at_call 243; refine hla.mono ?_; rintro e w2 ⟨rfl, b2⟩; have HT := hd (HS.out.kept b2); obtain ⟨c0, c1, c2, c3, c4, c5, c6, c7, c8⟩ := HT.out.x4.cs; have f4 := HT.out.x4.fr)
 clear hla c0 c1 c2 c3 c4 c5 c6 c7 c8 i0 i1 i2 i3 i4 b2 f4 HS
 obtain ⟨W3, hW3⟩ : ∃ W, Hid (put9 w2 w.heap.size C1 = W) := ⟨_, rfl⟩
 have HS := hd (HT.out.core (put9_oth _ _ _) (HT.out.x4.nine C1))
 rw [hW3.out] at HS
 clear HT
 unfold put9 at hW3
 rw [hW3.out]
 clear hW3
 obtain ⟨c0, c1, c2, c3, c4, c5, c6, c7, c8⟩ := HS.out.x4.cs
 replace hnx := hnx W3
 go_wp2_with (go_at_call 182; refine hnx.mono ?_; rintro e w4 ⟨rfl, b4⟩; have HT := hd (HS.out.kept b4); obtain ⟨z0, z1, z2, z3, z4, z5, z6, z7, z8⟩ := HT.out.x8.cz; have f8 := HT.out.x8.fr)
 have HE := hd (HT.out.ends D)
 clear HS HT
 unfold put9 at HE
 clear c0 c1 c2 c3 c4 c5 c6 c7 c8 z0 z1 z2 z3 z4 z5 z6 z7 z8 f8
 obtain ⟨R8, RB⟩ := HE.out
 obtain ⟨c0, c1, c2, c3, c4, c5, c6, c7, c8⟩ := R8.cs
 refine bodyPost_ret ?_ rfl ⟨rfl, RB⟩
 clear R8 RB
 generalize World.setCell _ _ _ = Wf at *
 simp [results, Tryz.results203, go_sem, c0, c1, c2, c3, c4, c5, c6, c7, c8]
end Go.Proofs.YthhcecllejddeaaGreatDoor.Cpu

namespace Go.Proofs.YthhcecllejddeaaGreatDoor.Cpu
open Go.RowKit
theorem told_any (c : Core) (ad : Option Addr) (l : List Ins) (cap : Nat) (v : Int) (w : World) (hP : Prg w ad l) :
  Calls Tryz.prog 203 #[coreV c, .slice ad l.length cap, .int .i64 v] w fun e w' => e = .returned (coreV (toldL c l v)) ∧ Below w.heap.size w w' := by
 unfold toldL
 by_cases h : 0 ≤ c.pc ∧ c.pc < l.length
 ·rw [if_pos h]
  obtain ⟨p, hp⟩ : ∃ p : Nat, c.pc = p := ⟨c.pc.toNat, by omega⟩
  rw [show c.pc.toNat = p by omega]
  exact told_yes c ad l cap p v hp (by omega) w hP
 ·rw [if_neg h]
  exact told_no c ad l.length cap v h w
end Go.Proofs.YthhcecllejddeaaGreatDoor.Cpu
